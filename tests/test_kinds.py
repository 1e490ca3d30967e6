import inspect
import itertools
import unittest

from towerwatch.towers import kind, kinds
from tests.support import RULE_LIMITS, UNFIT, SealedList, kind_by_definition, rule_of


class OrdinaryKinds(unittest.TestCase):
    def test_one_tower(self):
        self.assertEqual([kinds(1, [rule]) for rule in (0, 1, 2, 3)], [[0, 0], [1, 2], [1, 1], [0, 0]])

    def test_two_towers(self):
        self.assertEqual(kinds(2, [6, 2]), [4, 3, 3, 1, 2])
        self.assertEqual(kinds(2, [12, 0]), [1, 0, 1, 0, 0])
        self.assertEqual(kinds(2, [0, 5]), [1, 0, 0, 2, 0])

    def test_three_towers(self):
        t = [rule_of(3, lambda f: f[1] if f[0] else f[2]), rule_of(3, lambda f: not f[2]), 0]
        self.assertEqual(kinds(3, t), [4, 3, 1, 1, 0, 0, 2, 0, 0, 0])

    def test_four_towers(self):
        t = [
            rule_of(4, lambda f: f[1]),
            rule_of(4, lambda f: f[0] and f[2] and not f[1] and not f[3]),
            rule_of(4, lambda f: f[0] or f[1] != f[2]),
            rule_of(4, lambda f: not f[0]),
        ]
        self.assertEqual(kinds(4, t), [9, 0, 1, 0, 0, 1, 2, 1, 2, 1, 3, 3, 0, 2, 0, 0, 0])

    def test_a_watching_of_both_sorts_is_counted_once(self):
        self.assertEqual(kinds(4, [27030] * 4), [16] + [3] * 16)

    def test_the_watcher_tells_the_row_and_the_watched_the_place_in_it(self):
        for n in (1, 2, 3, 4):
            for j in range(n):
                for i in range(n):
                    t = [0] * n
                    t[j] = rule_of(n, lambda f: not f[i])
                    expected = [1] + [0] * (n * n)
                    expected[1 + j * n + i] = 2
                    self.assertEqual(kinds(n, t), expected)

    def test_every_pair_of_rules_of_two_towers(self):
        for t in itertools.product(range(16), repeat=2):
            self.check_towers(2, list(t))

    def test_many_rules_of_three_and_four_towers(self):
        for start in range(0, 256, 3):
            self.check_towers(3, [start, start * 7 % 256, start * 31 % 256])
        for start in range(0, 65536, 509):
            self.check_towers(4, [start, start * 7 % 65536, start * 31 % 65536, 65535 - start])

    def check_towers(self, n, t):
        expected = [kind_by_definition(n, i, rule) for rule in t for i in range(n)]
        answer = kinds(n, t)
        self.assertEqual(answer, [n * n - expected.count(0)] + expected, (n, t))
        self.assertEqual([[number] for number in answer[1:]], [kind(n, i, j, t) for j in range(n) for i in range(n)])


class Corners(unittest.TestCase):
    def test_towers_that_watch_themselves(self):
        for n in (1, 2, 3, 4):
            kept = [rule_of(n, lambda f: f[tower]) for tower in range(n)]
            turned = [rule_of(n, lambda f: not f[tower]) for tower in range(n)]
            self.assertEqual(kinds(n, kept), [n] + [int(i == j) for j in range(n) for i in range(n)])
            self.assertEqual(kinds(n, turned), [n] + [2 * int(i == j) for j in range(n) for i in range(n)])

    def test_rules_that_never_change(self):
        for n in (1, 2, 3, 4):
            for t in itertools.product((0, RULE_LIMITS[n][0]), repeat=n):
                self.assertEqual(kinds(n, list(t)), [0] + [0] * (n * n))

    def test_rules_that_look_as_if_they_watched(self):
        seeming = rule_of(2, lambda f: (f[0] and f[1]) or (f[0] and not f[1]))
        self.assertEqual(kinds(2, [seeming, 15]), [1, 1, 0, 0, 0])
        seeming = rule_of(3, lambda f: (f[0] != f[2]) != (f[1] != f[2]))
        self.assertEqual(kinds(3, [0, 0, seeming]), [2, 0, 0, 0, 0, 0, 0, 3, 3, 0])


class Refusals(unittest.TestCase):
    def test_towers_and_rules_that_do_not_fit(self):
        for n, t in UNFIT:
            self.assertEqual(kinds(n, t), [-22], (n, t))

    def test_the_last_rule_that_fits(self):
        for n, (last, first_beyond) in RULE_LIMITS.items():
            self.assertEqual(kinds(n, [last] * n), [0] + [0] * (n * n))

    def test_rules_that_would_fit_more_towers(self):
        self.assertEqual(kinds(1, [15]), [-22])
        self.assertEqual(kinds(2, [3, 255]), [-22])
        self.assertEqual(kinds(3, [255, 255, 65535]), [-22])


class Interface(unittest.TestCase):
    def test_arguments(self):
        self.assertEqual(list(inspect.signature(kinds).parameters), ["n", "t"])
        self.assertEqual(kinds(n=1, t=[2]), [1, 1])

    def test_a_list_of_whole_numbers_is_given_back(self):
        for n, t, length in [(2, [6, 2], 5), (4, [27030] * 4, 17), (1, [0], 2), (0, [], 1)]:
            answer = kinds(n, t)
            self.assertIs(type(answer), list)
            self.assertEqual([type(number) for number in answer], [int] * length)

    def test_t_is_not_changed(self):
        for n, t in [(3, [216, 15, 0]), (3, [256, 1, 2]), (3, [1]), (9, [7])]:
            handed = SealedList(t)
            kinds(n, handed)
            self.assertEqual(handed, t)

    def test_each_call_stands_by_itself(self):
        t = [6, 2]
        first = kinds(2, t)
        self.assertEqual(kinds(1, [1]), [1, 2])
        self.assertEqual(kinds(2, [6]), [-22])
        self.assertEqual(kinds(2, t), first)
        first.append(99)
        self.assertEqual(kinds(2, t), [4, 3, 3, 1, 2])

    def test_a_list_is_read_anew_each_time(self):
        t = [2]
        self.assertEqual(kinds(1, t), [1, 1])
        t[0] = 3
        self.assertEqual(kinds(1, t), [0, 0])
        t.append(0)
        self.assertEqual(kinds(1, t), [-22])


if __name__ == "__main__":
    unittest.main()
