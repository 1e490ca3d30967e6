"""The package's files keep to the small part of Python that they are to be written in."""

import ast
import builtins
import pathlib
import re
import unittest

PACKAGE = pathlib.Path(__file__).resolve().parent.parent / "towerwatch"

STATEMENTS = (
    ast.Assign, ast.AugAssign, ast.Break, ast.Continue, ast.Expr, ast.For, ast.FunctionDef, ast.If, ast.Pass,
    ast.Return, ast.While,
)
EXPRESSIONS = (
    ast.Attribute, ast.BinOp, ast.BoolOp, ast.Call, ast.Compare, ast.Constant, ast.Dict, ast.IfExp, ast.List,
    ast.ListComp, ast.Name, ast.Slice, ast.Subscript, ast.Tuple, ast.UnaryOp,
)
PYTHONS_OWN = (
    "len range enumerate zip min max sum abs sorted reversed int str bool list tuple dict isinstance any all divmod"
).split()
METHODS = "append copy count extend get index insert items keys pop values".split()
WORDS_NOT_USED = re.compile(
    r"\b(type|typing|typing_extensions|enum|Enum|IntEnum|StrEnum|Flag|IntFlag|Generic|Protocol|ABC|ABCMeta"
    r"|namedtuple|NamedTuple|TypedDict|TYPE_CHECKING|abstractmethod)\b|dataclass|overload|contextmanager"
)


def is_docstring(node):
    return isinstance(node, ast.Expr) and isinstance(node.value, ast.Constant) and isinstance(node.value.value, str)


class Language(unittest.TestCase):
    def setUp(self):
        self.texts = {path.name: path.read_text("utf-8") for path in PACKAGE.glob("*.py")}
        self.trees = {name: ast.parse(text) for name, text in self.texts.items()}

    def nodes(self, wanted):
        return [node for tree in self.trees.values() for node in ast.walk(tree) if isinstance(node, wanted)]

    def test_files(self):
        names = sorted(path.name for path in PACKAGE.iterdir() if path.name != "__pycache__")
        self.assertEqual(names, ["__init__.py", "towers.py"])

    def test_signs_and_size(self):
        for text in self.texts.values():
            self.assertRegex(text, r"\A[ -~\n]*\Z")
            self.assertIsNone(WORDS_NOT_USED.search(text))
            self.assertLessEqual(len(text.splitlines()), 400)
            self.assertLessEqual(max(len(line) for line in text.splitlines()), 120)
        for function in self.nodes(ast.FunctionDef):
            self.assertLessEqual(function.end_lineno - function.lineno + 1, 40, function.name)

    def test_nothing_is_imported_and_the_top_holds_plain_values_alone(self):
        for tree in self.trees.values():
            self.assertTrue(is_docstring(tree.body[0]))
            for node in tree.body[1:]:
                self.assertIsInstance(node, (ast.Assign, ast.FunctionDef))
                if isinstance(node, ast.Assign):
                    self.assertIsInstance(ast.literal_eval(node.value), (int, str, tuple))

    def test_statements_and_expressions(self):
        for statement in self.nodes(ast.stmt):
            self.assertIsInstance(statement, STATEMENTS)
        for expression in self.nodes(ast.expr):
            self.assertIsInstance(expression, EXPRESSIONS)
        for loop in self.nodes((ast.For, ast.While)):
            self.assertEqual(loop.orelse, [])
        for assignment in self.nodes(ast.Assign):
            self.assertEqual(len(assignment.targets), 1)
        for comprehension in self.nodes(ast.ListComp):
            self.assertEqual(len(comprehension.generators), 1)
            self.assertLessEqual(len(comprehension.generators[0].ifs), 1)
        self.assertEqual(self.nodes((ast.Div, ast.Pow, ast.Is, ast.IsNot)), [])

    def test_a_statement_by_itself_is_a_call(self):
        for tree in self.trees.values():
            for node in ast.walk(tree):
                if isinstance(node, ast.Expr) and node is not tree.body[0]:
                    self.assertIsInstance(node.value, ast.Call)

    def test_functions(self):
        for function in self.nodes(ast.FunctionDef):
            arguments = function.args
            self.assertEqual(function.decorator_list, [])
            self.assertEqual(arguments.kwonlyargs + arguments.posonlyargs, [])
            self.assertIsNone(arguments.vararg or arguments.kwarg)

    def test_names(self):
        own = [function.name for function in self.nodes(ast.FunctionDef)]
        bound = [name.id for name in self.nodes(ast.Name) if isinstance(name.ctx, ast.Store)]
        bound += [argument.arg for argument in self.nodes(ast.arg)]
        for name in own + bound:
            self.assertRegex(name, r"\A[A-Za-z][A-Za-z0-9_]*\Z")
            self.assertNotIn(name, dir(builtins))
        for name in bound:
            self.assertNotIn(name, own)
        for name in self.nodes(ast.Name):
            self.assertIn(name.id, own + bound + PYTHONS_OWN)
        for attribute in self.nodes(ast.Attribute):
            self.assertIn(attribute.attr, METHODS)


if __name__ == "__main__":
    unittest.main()
