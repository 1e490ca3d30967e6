import inspect
import itertools
import unittest

from towerwatch.towers import layers
from tests.support import (
    RULE_LIMITS, UNFIT, SealedList, few_watchings, layers_by_definition, rings_told, rule_of, rules_round,
    without_a_ring,
)

LIFTED_BY = [rule_of(4, lambda f: f[i]) for i in range(4)]
LOWERED_BY = [rule_of(4, lambda f: not f[i]) for i in range(4)]


class OrdinaryLayers(unittest.TestCase):
    def test_one_tower(self):
        self.assertEqual([layers(1, [rule]) for rule in (0, 1, 2, 3)], [[1, 0], [-33], [-33], [1, 0]])

    def test_two_towers(self):
        self.assertEqual(layers(2, [0, 15]), [1, 0, 0])
        self.assertEqual(layers(2, [0, 10]), [2, 0, 1])
        self.assertEqual(layers(2, [0, 5]), [2, 0, 1])
        self.assertEqual(layers(2, [12, 15]), [2, 1, 0])
        self.assertEqual(layers(2, [3, 0]), [2, 1, 0])

    def test_three_towers(self):
        lifted_by = [rule_of(3, lambda f: f[i]) for i in range(3)]
        self.assertEqual(layers(3, [0, 255, 0]), [1, 0, 0, 0])
        self.assertEqual(layers(3, [0, lifted_by[0], lifted_by[0]]), [2, 0, 1, 1])
        self.assertEqual(layers(3, [lifted_by[2], 0, 0]), [2, 1, 0, 0])
        self.assertEqual(layers(3, [0, rule_of(3, lambda f: f[0] != f[2]), 255]), [2, 0, 1, 0])
        self.assertEqual(layers(3, [0, lifted_by[0], lifted_by[1]]), [3, 0, 1, 2])
        self.assertEqual(layers(3, [lifted_by[1], lifted_by[2], 0]), [3, 2, 1, 0])
        self.assertEqual(layers(3, [lifted_by[2], 0, lifted_by[1]]), [3, 2, 0, 1])

    def test_four_towers(self):
        self.assertEqual(layers(4, [0, 0, 65535, 0]), [1, 0, 0, 0, 0])
        self.assertEqual(layers(4, [0, LIFTED_BY[0], LOWERED_BY[0], LIFTED_BY[0]]), [2, 0, 1, 1, 1])
        self.assertEqual(layers(4, [rule_of(4, lambda f: f[1] != (f[2] or f[3])), 0, 0, 0]), [2, 1, 0, 0, 0])
        self.assertEqual(layers(4, [LIFTED_BY[2], LOWERED_BY[3], 0, 0]), [2, 1, 1, 0, 0])
        self.assertEqual(layers(4, [0, LIFTED_BY[0], LIFTED_BY[0], rule_of(4, lambda f: f[1] != f[2])]),
                         [3, 0, 1, 1, 2])
        self.assertEqual(layers(4, [0, 0, LIFTED_BY[1], LOWERED_BY[2]]), [3, 0, 0, 1, 2])
        self.assertEqual(layers(4, [LIFTED_BY[1], LIFTED_BY[3], LIFTED_BY[1], 65535]), [3, 2, 1, 2, 0])
        self.assertEqual(layers(4, [0, LIFTED_BY[0], LIFTED_BY[1], LIFTED_BY[2]]), [4, 0, 1, 2, 3])
        self.assertEqual(layers(4, [LOWERED_BY[1], LOWERED_BY[2], LOWERED_BY[3], 0]), [4, 3, 2, 1, 0])

    def test_a_tower_that_watches_towers_of_different_layers(self):
        self.assertEqual(layers(3, [0, rule_of(3, lambda f: f[0]), rule_of(3, lambda f: f[0] and f[1])]), [3, 0, 1, 2])
        self.assertEqual(layers(3, [rule_of(3, lambda f: f[1] or f[2]), rule_of(3, lambda f: f[2]), 0]), [3, 2, 1, 0])
        # Tower 0 watches layers 0 and 2, with the highest of them first in number, and last.
        t = [rule_of(4, lambda f: f[1] and f[3]), LIFTED_BY[2], LIFTED_BY[3], 0]
        self.assertEqual(layers(4, t), [4, 3, 2, 1, 0])
        t = [rule_of(4, lambda f: f[1] and f[3]), 0, LIFTED_BY[1], LIFTED_BY[2]]
        self.assertEqual(layers(4, t), [4, 3, 0, 1, 2])
        t = [0, LIFTED_BY[0], 0, rule_of(4, lambda f: f[1] and not f[2])]
        self.assertEqual(layers(4, t), [3, 0, 1, 0, 2])
        t = [0, LIFTED_BY[0], rule_of(4, lambda f: f[0] != f[1]), rule_of(4, lambda f: f[0] or f[1] or f[2])]
        self.assertEqual(layers(4, t), [4, 0, 1, 2, 3])

    def test_a_chain_in_whatever_order(self):
        for n in (2, 3, 4):
            for chain in itertools.permutations(range(n)):
                for sort in (False, True):
                    t = [RULE_LIMITS[n][0]] * n
                    for watched, watcher in zip(chain, chain[1:]):
                        t[watcher] = rule_of(n, lambda f: f[watched] == sort)
                    self.assertEqual(layers(n, t), [n] + [chain.index(tower) for tower in range(n)], (n, t))

    def test_every_pair_of_rules_of_two_towers(self):
        for t in itertools.product(range(16), repeat=2):
            self.check_towers(2, list(t))

    def test_many_rules_of_three_and_four_towers(self):
        self.assertEqual({self.check_towers(3, t) for t in few_watchings(3, 1)}, {-33, 1, 2, 3})
        self.assertEqual({self.check_towers(4, t) for t in few_watchings(4, 29)}, {-33, 1, 2, 3, 4})

    def test_many_rules_without_a_ring(self):
        self.assertEqual({self.check_towers(3, t) for t in without_a_ring(3, 1)}, {1, 2, 3})
        self.assertEqual({self.check_towers(4, t) for t in without_a_ring(4, 509)}, {1, 2, 3, 4})

    def check_towers(self, n, t):
        answer = layers(n, t)
        self.assertEqual(answer, layers_by_definition(n, t), (n, t))
        return answer[0]


class Corners(unittest.TestCase):
    def test_a_tower_that_watches_itself(self):
        for n in (1, 2, 3, 4):
            for tower in range(n):
                for sort in (False, True):
                    t = [0] * n
                    t[tower] = rule_of(n, lambda f: f[tower] == sort)
                    self.assertEqual(layers(n, t), [-33])
        self.assertEqual(layers(2, [6, 0]), [-33])
        self.assertEqual(layers(2, [0, rule_of(2, lambda f: f[0] and f[1])]), [-33])

    def test_rules_that_never_change(self):
        for n in (1, 2, 3, 4):
            for t in itertools.product((0, RULE_LIMITS[n][0]), repeat=n):
                self.assertEqual(layers(n, list(t)), [1] + [0] * n)

    def test_a_rule_that_looks_as_if_it_watched(self):
        seeming = rule_of(2, lambda f: (f[0] and f[1]) or (not f[0] and f[1]))
        self.assertEqual(layers(2, [seeming, 0]), [2, 1, 0])
        self.assertEqual(layers(2, [seeming, 10]), [-33])
        seeming = rule_of(3, lambda f: (f[0] != f[2]) != (f[1] != f[2]))
        self.assertEqual(layers(3, [0, 0, seeming]), [2, 0, 0, 1])
        seeming = rule_of(4, lambda f: (f[1] and f[3]) or not (f[1] and f[3]))
        self.assertEqual(layers(4, [0, seeming, 0, LIFTED_BY[1]]), [2, 0, 0, 0, 1])

    def test_a_ring_of_whatever_length(self):
        for n in (1, 2, 3, 4):
            for l in rings_told(n):
                for sorts in itertools.product("+-", repeat=len(l)):
                    self.assertEqual(layers(n, rules_round(n, l, sorts)), [-33], (n, l, sorts))

    def test_a_ring_that_can_be_even_and_odd(self):
        self.assertEqual(layers(2, [6, 10]), [-33])
        self.assertEqual(layers(3, [rule_of(3, lambda f: f[1] != f[2]), rule_of(3, lambda f: f[0]), 0]), [-33])

    def test_a_ring_beside_towers_that_are_on_none(self):
        self.assertEqual(layers(3, [0, rule_of(3, lambda f: f[0]), rule_of(3, lambda f: f[2])]), [-33])
        self.assertEqual(layers(4, [LIFTED_BY[1], LOWERED_BY[0], 0, LIFTED_BY[2]]), [-33])
        self.assertEqual(layers(4, [0, LIFTED_BY[0], LIFTED_BY[3], LIFTED_BY[2]]), [-33])
        # Behind a ring, and ahead of one.
        self.assertEqual(layers(4, [LIFTED_BY[1], LIFTED_BY[0], LIFTED_BY[1], LIFTED_BY[2]]), [-33])
        self.assertEqual(layers(4, [0, LIFTED_BY[0], rule_of(4, lambda f: f[1] and f[3]), LIFTED_BY[2]]), [-33])

    def test_watching_the_same_tower_two_ways_round_is_no_ring(self):
        t = [0, LIFTED_BY[0], LOWERED_BY[0], rule_of(4, lambda f: f[0] and f[1] and f[2])]
        self.assertEqual(layers(4, t), [3, 0, 1, 1, 2])


class Refusals(unittest.TestCase):
    def test_towers_and_rules_that_do_not_fit(self):
        for n, t in UNFIT:
            self.assertEqual(layers(n, t), [-22], (n, t))

    def test_22_is_told_ahead_of_33(self):
        self.assertEqual(layers(1, [2, 2]), [-22])
        self.assertEqual(layers(2, [10]), [-22])
        self.assertEqual(layers(2, [10, 16]), [-22])
        self.assertEqual(layers(2, [16, 3]), [-22])
        self.assertEqual(layers(4, [LIFTED_BY[0]] * 5), [-22])
        self.assertEqual(layers(0, [1]), [-22])
        self.assertEqual(layers(5, [2] * 5), [-22])

    def test_the_last_rule_that_fits(self):
        for n, (last, first_beyond) in RULE_LIMITS.items():
            self.assertEqual(layers(n, [last] * n), [1] + [0] * n)
            self.assertEqual(layers(n, [last] * (n - 1) + [last - 1]), [-33])

    def test_even_and_odd_rings(self):
        for n in (1, 2, 3, 4):
            self.assertEqual(layers(n, [rule_of(n, lambda f: f[tower]) for tower in range(n)]), [-33])
            self.assertEqual(layers(n, [rule_of(n, lambda f: not f[tower]) for tower in range(n)]), [-33])


class Interface(unittest.TestCase):
    def test_arguments(self):
        self.assertEqual(list(inspect.signature(layers).parameters), ["n", "t"])
        self.assertEqual(layers(n=2, t=[12, 0]), [2, 1, 0])

    def test_a_list_of_whole_numbers_is_given_back(self):
        for n, t, length in [(1, [0], 2), (2, [12, 0], 3), (4, [0] * 4, 5), (1, [1], 1), (2, [12, 10], 1), (0, [], 1)]:
            answer = layers(n, t)
            self.assertIs(type(answer), list)
            self.assertEqual([type(number) for number in answer], [int] * length)

    def test_t_is_not_changed(self):
        for n, t in [(2, [12, 0]), (2, [12, 10]), (4, [0] * 4), (2, [16, 6]), (3, [1]), (9, [7])]:
            handed = SealedList(t)
            layers(n, handed)
            self.assertEqual(handed, t)

    def test_each_call_stands_by_itself(self):
        t = [12, 0]
        first = layers(2, t)
        self.assertEqual(layers(3, [0] * 3), [1, 0, 0, 0])
        self.assertEqual(layers(2, [12, 10]), [-33])
        self.assertEqual(layers(2, [6]), [-22])
        self.assertEqual(layers(2, t), first)
        first.append(99)
        self.assertEqual(layers(2, t), [2, 1, 0])

    def test_a_list_is_read_anew_each_time(self):
        t = [12, 0]
        self.assertEqual(layers(2, t), [2, 1, 0])
        t[0] = 3
        t[1] = 5
        self.assertEqual(layers(2, t), [-33])
        t.append(0)
        self.assertEqual(layers(2, t), [-22])


if __name__ == "__main__":
    unittest.main()
