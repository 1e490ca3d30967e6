import inspect
import itertools
import unittest

from towerwatch.towers import ring
from tests.support import RULE_LIMITS, UNFIT, SealedList, ring_by_definition, rule_of, rules_round

PARITY_OF_FOUR = rule_of(4, lambda f: sum(f) % 2 == 1)


class OrdinaryRings(unittest.TestCase):
    def test_rings_of_one(self):
        self.assertEqual(ring(1, [2], [0]), [1])
        self.assertEqual(ring(1, [1], [0]), [2])
        self.assertEqual(ring(2, [6, 2], [0]), [3])
        self.assertEqual(ring(2, [6, 2], [1]), [2])
        self.assertEqual(ring(3, [0, 0, rule_of(3, lambda f: f[2])], [2]), [1])
        self.assertEqual(ring(4, [0, rule_of(4, lambda f: f[1] != f[3]), 0, 0], [1]), [3])

    def test_rings_of_two(self):
        lifted_by_1, lowered_by_1 = 12, 3
        lifted_by_0, lowered_by_0, both = 10, 5, 6
        self.assertEqual(ring(2, [lifted_by_1, lifted_by_0], [0, 1]), [1])
        self.assertEqual(ring(2, [lifted_by_1, lowered_by_0], [0, 1]), [2])
        self.assertEqual(ring(2, [lowered_by_1, lifted_by_0], [0, 1]), [2])
        self.assertEqual(ring(2, [lowered_by_1, lowered_by_0], [0, 1]), [1])
        self.assertEqual(ring(2, [both, lifted_by_0], [0, 1]), [3])
        self.assertEqual(ring(2, [lowered_by_1, both], [0, 1]), [3])
        self.assertEqual(ring(2, [both, both], [0, 1]), [3])

    def test_rings_of_three(self):
        t = [rule_of(3, lambda f: not f[2]), rule_of(3, lambda f: f[0]), rule_of(3, lambda f: f[1])]
        self.assertEqual(ring(3, t, [0, 1, 2]), [2])
        t[1] = rule_of(3, lambda f: not f[0])
        self.assertEqual(ring(3, t, [0, 1, 2]), [1])
        t[2] = rule_of(3, lambda f: not f[1])
        self.assertEqual(ring(3, t, [0, 1, 2]), [2])
        t[0] = rule_of(3, lambda f: f[0] != f[2])
        self.assertEqual(ring(3, t, [0, 1, 2]), [3])
        t[1] = rule_of(3, lambda f: f[0] == f[2])
        self.assertEqual(ring(3, t, [0, 1, 2]), [3])

    def test_several_watchings_that_both_lift_and_lower(self):
        for length in (2, 3, 4):
            for l in itertools.permutations(range(4), length):
                self.assertEqual(ring(4, [PARITY_OF_FOUR] * 4, list(l)), [3])

    def test_what_else_a_tower_watches_makes_no_difference(self):
        t = [rule_of(3, lambda f: f[1] and not f[0] and not f[2]), rule_of(3, lambda f: f[0] or not f[2]), 0]
        self.assertEqual(ring(3, t, [0, 1]), [1])
        self.assertEqual(ring(3, t, [0]), [2])

    def test_rings_of_every_length_and_all_sorts_of_watching(self):
        answered = set()
        for n in (1, 2, 3, 4):
            # One tower by itself has no other flag to hang on, so it can't be both lifted and lowered.
            sorts_there_are = ["+", "-"] if n == 1 else ["+", "-", "+-"]
            for length in range(1, n + 1):
                for l in itertools.permutations(range(n), length):
                    for sorts in itertools.product(sorts_there_are, repeat=length):
                        answered.add((n, length, self.check_sorts(n, list(l), sorts)))
        expected = {(n, length, answer) for n in (1, 2, 3, 4) for length in range(1, n + 1) for answer in (1, 2, 3)}
        self.assertEqual(answered, expected - {(1, 1, 3)})

    def check_sorts(self, n, l, sorts):
        lowerings = {choice.count("-") % 2 for choice in itertools.product(*sorts)}
        expected = (0 in lowerings) + 2 * (1 in lowerings)
        self.assertEqual(ring(n, rules_round(n, l, sorts), l), [expected], (n, l, sorts))
        return expected

    def test_every_pair_of_rules_of_two_towers(self):
        for t in itertools.product(range(16), repeat=2):
            self.check_towers(2, list(t))

    def test_many_rules_of_three_and_four_towers(self):
        for start in range(0, 256, 5):
            self.check_towers(3, [start, start * 7 % 256, start * 31 % 256])
        for start in range(0, 65536, 4099):
            self.check_towers(4, [start, start * 7 % 65536, PARITY_OF_FOUR, 65535 - start])

    def check_towers(self, n, t):
        for length in range(1, n + 1):
            for l in itertools.permutations(range(n), length):
                self.assertEqual(ring(n, t, list(l)), [ring_by_definition(n, t, list(l))], (n, t, l))


class TheWayOfTheWatching(unittest.TestCase):
    def test_each_is_watched_by_the_next(self):
        # 1 watches 0, 2 watches 1, 0 watches 2.
        t = [rule_of(3, lambda f: f[2]), rule_of(3, lambda f: f[0]), rule_of(3, lambda f: not f[1])]
        for l in ([0, 1, 2], [1, 2, 0], [2, 0, 1]):
            self.assertEqual(ring(3, t, l), [2])
        for l in ([0, 2, 1], [2, 1, 0], [1, 0, 2]):
            self.assertEqual(ring(3, t, l), [-6])

    def test_the_two_ways_round_may_differ(self):
        # Up the numbers all lift; down the numbers one lowers.
        t = [
            rule_of(3, lambda f: f[2] and not f[1]),
            rule_of(3, lambda f: f[0] and f[2]),
            rule_of(3, lambda f: f[1] and f[0]),
        ]
        self.assertEqual(ring(3, t, [0, 1, 2]), [1])
        self.assertEqual(ring(3, t, [0, 2, 1]), [2])

    def test_begun_elsewhere_it_is_answered_alike(self):
        for length in (2, 3, 4):
            for l in itertools.permutations(range(4), length):
                for sorts in itertools.product(["+", "-", "+-"], repeat=length):
                    t = rules_round(4, l, sorts)
                    answers = [ring(4, t, list(l[start:] + l[:start])) for start in range(length)]
                    self.assertIn(answers[0], [[1], [2], [3]])
                    self.assertEqual(answers, [answers[0]] * length, (t, l))

    def test_it_need_not_begin_with_its_least_tower(self):
        t = rules_round(4, [3, 1, 2, 0], ["+", "-", "+", "+"])
        self.assertEqual(ring(4, t, [3, 1, 2, 0]), [2])
        self.assertEqual(ring(4, t, [2, 0, 3, 1]), [2])
        self.assertEqual(ring(4, t, [0, 3, 1, 2]), [2])


class Corners(unittest.TestCase):
    def test_a_tower_that_watches_itself(self):
        for n in (1, 2, 3, 4):
            kept = [rule_of(n, lambda f: f[tower]) for tower in range(n)]
            turned = [rule_of(n, lambda f: not f[tower]) for tower in range(n)]
            for tower in range(n):
                self.assertEqual(ring(n, kept, [tower]), [1])
                self.assertEqual(ring(n, turned, [tower]), [2])
        for tower in range(4):
            self.assertEqual(ring(4, [PARITY_OF_FOUR] * 4, [tower]), [3])

    def test_watching_itself_is_no_watching_by_the_next(self):
        self.assertEqual(ring(2, [10, 12], [0, 1]), [-6])

    def test_a_tower_alone_that_does_not_watch_itself(self):
        self.assertEqual(ring(1, [0], [0]), [-6])
        self.assertEqual(ring(1, [3], [0]), [-6])
        self.assertEqual(ring(2, [12, 10], [0]), [-6])
        self.assertEqual(ring(2, [12, 10], [1]), [-6])
        self.assertEqual(ring(4, [rule_of(4, lambda f: f[1] != f[2])] * 4, [3]), [-6])

    def test_rules_that_never_change(self):
        for n in (1, 2, 3, 4):
            for rule in (0, RULE_LIMITS[n][0]):
                for length in range(1, n + 1):
                    for l in itertools.permutations(range(n), length):
                        self.assertEqual(ring(n, [rule] * n, list(l)), [-6])

    def test_a_rule_that_looks_as_if_it_watched(self):
        seeming = rule_of(2, lambda f: (f[0] and f[1]) or (f[0] and not f[1]))
        self.assertEqual(ring(2, [seeming, 10], [0, 1]), [-6])
        self.assertEqual(ring(2, [seeming, 10], [0]), [1])
        seeming = rule_of(3, lambda f: (f[0] != f[2]) != (f[1] != f[2]))
        self.assertEqual(ring(3, [0, 0, seeming], [2]), [-6])
        self.assertEqual(ring(3, [rule_of(3, lambda f: f[2]), 0, seeming], [0, 2]), [3])
        self.assertEqual(ring(3, [seeming, 0, rule_of(3, lambda f: f[0])], [0, 2]), [-6])

    def test_a_ring_that_can_be_even_and_odd(self):
        self.assertEqual(ring(2, [6, 10], [0, 1]), [3])
        self.assertEqual(ring(3, rules_round(3, [0, 2, 1], ["-", "+-", "-"]), [0, 2, 1]), [3])

    def test_a_ring_of_four(self):
        for lowerings in range(5):
            t = rules_round(4, [0, 1, 2, 3], ["-"] * lowerings + ["+"] * (4 - lowerings))
            self.assertEqual(ring(4, t, [0, 1, 2, 3]), [1 + lowerings % 2])
        t = rules_round(4, [0, 2, 1, 3], ["+", "+-", "-", "+-"])
        self.assertEqual(ring(4, t, [0, 2, 1, 3]), [3])

    def test_one_tower(self):
        self.assertEqual([ring(1, [rule], [0]) for rule in (0, 1, 2, 3)], [[-6], [2], [1], [-6]])


class Refusals(unittest.TestCase):
    def test_towers_and_rules_that_do_not_fit(self):
        for n, t in UNFIT:
            self.assertEqual(ring(n, t, [0]), [-22], (n, t))

    def test_the_last_rule_that_fits(self):
        for n, (last, first_beyond) in RULE_LIMITS.items():
            for tower in range(n):
                t = [rule_of(n, lambda f: f[tower])] * n
                t[(tower + 1) % n] = last
                self.assertEqual(ring(n, t, [(tower + 1) % n]), [-6])

    def test_no_tower_in_l(self):
        for n in (1, 2, 3, 4):
            self.assertEqual(ring(n, [rule_of(n, lambda f: f[0])] * n, []), [-22])

    def test_a_tower_that_there_is_not(self):
        for n in (1, 2, 3, 4):
            t = [rule_of(n, lambda f: sum(f) % 2 == 1)] * n
            for absent in (n, n + 1, 65535):
                self.assertEqual(ring(n, t, [absent]), [-22])
                for length in range(1, n + 1):
                    for place in range(length + 1):
                        l = list(range(length))
                        l.insert(place, absent)
                        self.assertEqual(ring(n, t, l), [-22], (n, l))

    def test_the_last_tower_is_there(self):
        for n in (1, 2, 3, 4):
            self.assertEqual(ring(n, [rule_of(n, lambda f: f[n - 1])] * n, [n - 1]), [1])

    def test_a_tower_twice(self):
        everyone = [PARITY_OF_FOUR] * 4
        for l in ([0, 0], [3, 3], [0, 0, 1], [0, 1, 1], [2, 0, 1, 1], [0, 1, 0], [1, 2, 3, 1], [0, 1, 0, 2],
                  [0, 1, 2, 1], [0, 1, 0, 1], [0, 1, 2, 3, 0], [0, 1, 2, 3, 3], [3, 3, 3]):
            self.assertEqual(ring(4, everyone, l), [-22], l)
        self.assertEqual(ring(1, [2], [0, 0]), [-22])
        self.assertEqual(ring(2, [6, 6], [1, 0, 1]), [-22])
        self.assertEqual(ring(3, [150] * 3, [2, 1, 0, 2]), [-22])

    def test_ten_in_l(self):
        everyone = [PARITY_OF_FOUR] * 4
        for l in (list(range(10)), [0] * 10, [0, 1, 2, 3] * 2 + [0, 1], [65535] * 10, [0, 1, 2, 3] + [4] * 6):
            self.assertEqual(ring(4, everyone, l), [-22], l)

    def test_each_of_the_watchings_is_needed(self):
        for length in (1, 2, 3, 4):
            for l in itertools.permutations(range(4), length):
                for sort in ("+", "-", "+-"):
                    whole = rules_round(4, l, [sort] * length)
                    for watcher in l:
                        for never_changing in (0, 65535):
                            t = list(whole)
                            t[watcher] = never_changing
                            self.assertEqual(ring(4, t, list(l)), [-6], (t, l))

    def test_a_way_by_another_tower_is_not_enough(self):
        t = rules_round(3, [0, 1, 2], ["+", "+", "+"])
        for l in ([0, 1], [1, 2], [0, 2], [2, 0], [0]):
            self.assertEqual(ring(3, t, l), [-6], l)

    def test_22_is_told_ahead_of_6(self):
        for l in ([], [4], [0, 4], [4, 0], [0, 65535, 1], [0, 0], [0, 1, 0], [0, 1, 2, 3, 0], list(range(10))):
            self.assertEqual(ring(4, [0, 65535, 0, 0], l), [-22], l)
        for n, t in UNFIT:
            for l in ([], [0], [0, 1], [n % 65536], [65535], [0, 0], list(range(10))):
                self.assertEqual(ring(n, t, l), [-22], (n, t, l))


class Interface(unittest.TestCase):
    def test_arguments(self):
        self.assertEqual(list(inspect.signature(ring).parameters), ["n", "t", "l"])
        self.assertEqual(ring(n=2, t=[12, 5], l=[0, 1]), [2])

    def test_a_list_of_whole_numbers_is_given_back(self):
        for n, t, l in [(1, [2], [0]), (1, [1], [0]), (2, [6, 6], [0, 1]), (1, [0], [0]), (1, [2], []), (0, [], [])]:
            answer = ring(n, t, l)
            self.assertIs(type(answer), list)
            self.assertEqual([type(number) for number in answer], [int])

    def test_t_and_l_are_not_changed(self):
        for n, t, l in [(2, [12, 5], [1, 0]), (3, [150] * 3, [2, 0, 1]), (2, [0, 0], [1, 0]), (2, [6, 6], [1, 1, 0]),
                        (2, [6, 6], [2, 0]), (2, [16, 6], [1, 0]), (9, [7], [3, 2])]:
            handed_t, handed_l = SealedList(t), SealedList(l)
            ring(n, handed_t, handed_l)
            self.assertEqual((handed_t, handed_l), (t, l))

    def test_each_call_stands_by_itself(self):
        t, l = [12, 5], [1, 0]
        first = ring(2, t, l)
        self.assertEqual(ring(2, t, [0]), [-6])
        self.assertEqual(ring(2, [12, 10], l), [1])
        self.assertEqual(ring(2, t, [0, 0]), [-22])
        self.assertEqual(ring(2, t, l), first)
        first.append(99)
        self.assertEqual(ring(2, t, l), [2])

    def test_lists_are_read_anew_each_time(self):
        t, l = [12, 5], [1, 0]
        self.assertEqual(ring(2, t, l), [2])
        t[1] = 10
        self.assertEqual(ring(2, t, l), [1])
        l.pop()
        self.assertEqual(ring(2, t, l), [-6])
        l.append(1)
        self.assertEqual(ring(2, t, l), [-22])


if __name__ == "__main__":
    unittest.main()
