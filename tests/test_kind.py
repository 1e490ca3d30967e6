import inspect
import unittest

from towerwatch.towers import kind
from tests.support import RULE_LIMITS, UNFIT, SealedList, kind_by_definition, rule_of


class OrdinaryKinds(unittest.TestCase):
    def test_one_tower(self):
        # Of one tower there is only one state with the flag down, so 3 can't be answered.
        self.assertEqual([kind(1, 0, 0, [rule]) for rule in (0, 1, 2, 3)], [[0], [2], [1], [0]])

    def test_two_towers(self):
        t = [rule_of(2, lambda f: f[0] != f[1]), rule_of(2, lambda f: f[0] and not f[1])]
        self.assertEqual(t, [6, 2])
        self.assertEqual(kind(2, 0, 0, t), [3])
        self.assertEqual(kind(2, 1, 0, t), [3])
        self.assertEqual(kind(2, 0, 1, t), [1])
        self.assertEqual(kind(2, 1, 1, t), [2])
        self.assertEqual(kind(2, 0, 1, [6, 12]), [0])

    def test_three_towers(self):
        t = [rule_of(3, lambda f: f[1] if f[0] else f[2]), rule_of(3, lambda f: not f[2]), 0]
        self.assertEqual(t, [216, 15, 0])
        self.assertEqual([kind(3, i, 0, t) for i in range(3)], [[3], [1], [1]])
        self.assertEqual([kind(3, i, 1, t) for i in range(3)], [[0], [0], [2]])
        self.assertEqual([kind(3, i, 2, t) for i in range(3)], [[0], [0], [0]])

    def test_four_towers(self):
        t = [
            rule_of(4, lambda f: sum(f) % 2 == 1),
            rule_of(4, lambda f: f[0] and f[2] and not f[1] and not f[3]),
            rule_of(4, lambda f: f[3]),
            rule_of(4, lambda f: f[0] or f[1] != f[2]),
        ]
        self.assertEqual(t[0:3], [27030, 32, 65280])
        self.assertEqual([kind(4, i, 0, t) for i in range(4)], [[3], [3], [3], [3]])
        self.assertEqual([kind(4, i, 1, t) for i in range(4)], [[1], [2], [1], [2]])
        self.assertEqual([kind(4, i, 2, t) for i in range(4)], [[0], [0], [0], [1]])
        self.assertEqual([kind(4, i, 3, t) for i in range(4)], [[1], [3], [3], [0]])

    def test_one_state_is_enough(self):
        for n in (1, 2, 3, 4):
            last_state = 2 ** n - 1
            for i in range(n):
                self.assertEqual(kind(n, i, 0, [2 ** last_state] + [0] * (n - 1)), [1])
                self.assertEqual(kind(n, i, 0, [RULE_LIMITS[n][0] - 2 ** last_state] + [0] * (n - 1)), [2])
                self.assertEqual(kind(n, i, 0, [1] + [0] * (n - 1)), [2])
                self.assertEqual(kind(n, i, 0, [RULE_LIMITS[n][0] - 1] + [0] * (n - 1)), [1])

    def test_every_rule_of_one_to_three_towers(self):
        for n in (1, 2, 3):
            for rule in range(RULE_LIMITS[n][1]):
                self.check_rule(n, rule)

    def test_many_rules_of_four_towers(self):
        for rule in list(range(0, 65536, 97)) + [2 ** state for state in range(16)]:
            self.check_rule(4, rule)

    def check_rule(self, n, rule):
        # Each place in turn bears the rule, among rules that would answer otherwise if they were taken.
        for j in range(n):
            t = [RULE_LIMITS[n][0] - rule] * n
            t[j] = rule
            for i in range(n):
                self.assertEqual(kind(n, i, j, t), [kind_by_definition(n, i, rule)], (n, i, j, t))


class Corners(unittest.TestCase):
    def test_a_tower_that_watches_itself(self):
        for n in (1, 2, 3, 4):
            kept = [rule_of(n, lambda f: f[tower]) for tower in range(n)]
            turned = [rule_of(n, lambda f: not f[tower]) for tower in range(n)]
            for j in range(n):
                self.assertEqual(kind(n, j, j, kept), [1])
                self.assertEqual(kind(n, j, j, turned), [2])
        self.assertEqual(kind(2, 1, 1, [0, 6]), [3])

    def test_rules_that_never_change(self):
        for n in (1, 2, 3, 4):
            for rule in (0, RULE_LIMITS[n][0]):
                for i in range(n):
                    for j in range(n):
                        self.assertEqual(kind(n, i, j, [rule] * n), [0])

    def test_a_rule_that_looks_as_if_it_watched(self):
        seeming = rule_of(2, lambda f: (f[0] and f[1]) or (f[0] and not f[1]))
        self.assertEqual([kind(2, i, 0, [seeming, 0]) for i in (0, 1)], [[1], [0]])
        seeming = rule_of(3, lambda f: (f[0] != f[2]) != (f[1] != f[2]))
        self.assertEqual([kind(3, i, 2, [0, 0, seeming]) for i in (0, 1, 2)], [[3], [3], [0]])
        seeming = rule_of(4, lambda f: f[3] or not f[3])
        self.assertEqual([kind(4, i, 1, [0, seeming, 0, 0]) for i in range(4)], [[0]] * 4)


class Refusals(unittest.TestCase):
    def test_towers_and_rules_that_do_not_fit(self):
        for n, t in UNFIT:
            self.assertEqual(kind(n, 0, 0, t), [-22], (n, t))

    def test_the_last_rule_that_fits(self):
        for n, (last, first_beyond) in RULE_LIMITS.items():
            for j in range(n):
                t = [0] * n
                t[j] = last
                self.assertEqual(kind(n, 0, j, t), [0])

    def test_rules_that_would_fit_more_towers(self):
        self.assertEqual(kind(1, 0, 0, [15]), [-22])
        self.assertEqual(kind(2, 0, 0, [3, 255]), [-22])
        self.assertEqual(kind(3, 0, 0, [255, 255, 65535]), [-22])

    def test_no_such_tower(self):
        for n in (1, 2, 3, 4):
            for absent in (n, n + 1, 65535, 4294967295):
                for there in range(n):
                    self.assertEqual(kind(n, absent, there, [0] * n), [-2])
                    self.assertEqual(kind(n, there, absent, [0] * n), [-2])
                self.assertEqual(kind(n, absent, absent, [0] * n), [-2])

    def test_the_last_tower_is_there(self):
        for n in (1, 2, 3, 4):
            t = [rule_of(n, lambda f: f[n - 1])] * n
            self.assertEqual(kind(n, n - 1, n - 1, t), [1])

    def test_22_is_told_ahead_of_2(self):
        for n, t in UNFIT:
            for absent in (n, 4294967295):
                self.assertEqual(kind(n, absent, 0, t), [-22], (n, absent, t))
                self.assertEqual(kind(n, 0, absent, t), [-22], (n, absent, t))
                self.assertEqual(kind(n, absent, absent, t), [-22], (n, absent, t))


class Interface(unittest.TestCase):
    def test_arguments(self):
        self.assertEqual(list(inspect.signature(kind).parameters), ["n", "i", "j", "t"])
        self.assertEqual(kind(n=2, i=0, j=1, t=[0, 10]), [1])

    def test_a_list_of_whole_numbers_is_given_back(self):
        answers = [kind(2, i, j, [6, 2]) for i in (0, 1, 2) for j in (0, 1)] + [kind(0, 0, 0, [])]
        for answer in answers:
            self.assertIs(type(answer), list)
            self.assertEqual([type(number) for number in answer], [int])

    def test_t_is_not_changed(self):
        for n, i, j, t in [(3, 1, 0, [216, 15, 0]), (3, 3, 0, [216, 15, 0]), (3, 0, 0, [256, 1, 2]), (9, 0, 0, [7])]:
            handed = SealedList(t)
            kind(n, i, j, handed)
            self.assertEqual(handed, t)

    def test_each_call_stands_by_itself(self):
        t = [216, 15, 0]
        first = kind(3, 0, 0, t)
        self.assertEqual(kind(3, 2, 1, t), [2])
        self.assertEqual(kind(3, 3, 1, t), [-2])
        self.assertEqual(kind(3, 0, 0, [0]), [-22])
        self.assertEqual(kind(3, 0, 0, t), first)
        first.append(99)
        self.assertEqual(kind(3, 0, 0, t), [3])

    def test_a_list_is_read_anew_each_time(self):
        t = [2]
        self.assertEqual(kind(1, 0, 0, t), [1])
        t[0] = 1
        self.assertEqual(kind(1, 0, 0, t), [2])
        t.append(0)
        self.assertEqual(kind(1, 0, 0, t), [-22])


if __name__ == "__main__":
    unittest.main()
