import inspect
import itertools
import unittest

from towerwatch.towers import even, ring
from tests.support import (
    RULE_LIMITS, UNFIT, SealedList, few_watchings, rings_told, rule_of, rules_round, shortest_by_definition,
)

PARITY_OF_FOUR = rule_of(4, lambda f: sum(f) % 2 == 1)


class OrdinaryRings(unittest.TestCase):
    def test_one_tower(self):
        self.assertEqual([even(1, [rule]) for rule in (0, 1, 2, 3)], [[-33], [-33], [1, 0], [-33]])

    def test_two_towers(self):
        self.assertEqual(even(2, [12, 10]), [2, 0, 1])
        self.assertEqual(even(2, [3, 5]), [2, 0, 1])
        self.assertEqual(even(2, [3, 10]), [-33])
        self.assertEqual(even(2, [0, 12]), [1, 1])

    def test_three_towers(self):
        self.assertEqual(even(3, [rule_of(3, lambda f: f[i]) for i in (2, 0, 1)]), [3, 0, 1, 2])
        self.assertEqual(even(3, [rule_of(3, lambda f: f[i]) for i in (1, 2, 0)]), [3, 0, 2, 1])
        self.assertEqual(even(3, [rule_of(3, lambda f: not f[i]) for i in (2, 0, 1)]), [-33])
        self.assertEqual(even(3, [0, rule_of(3, lambda f: not f[2]), rule_of(3, lambda f: not f[1])]), [2, 1, 2])
        self.assertEqual(even(3, [rule_of(3, lambda f: f[2])] * 3), [1, 2])

    def test_four_towers(self):
        self.assertEqual(even(4, [rule_of(4, lambda f: f[i]) for i in (3, 0, 1, 2)]), [4, 0, 1, 2, 3])
        self.assertEqual(even(4, [rule_of(4, lambda f: not f[i]) for i in (1, 3, 0, 2)]), [4, 0, 2, 3, 1])
        self.assertEqual(even(4, [0] + [rule_of(4, lambda f: f[i]) for i in (2, 3, 1)]), [3, 1, 3, 2])
        self.assertEqual(even(4, [rule_of(4, lambda f: f[2]), 0, rule_of(4, lambda f: f[0]), 0]), [2, 0, 2])

    def test_one_ring_of_every_length(self):
        for n in (1, 2, 3, 4):
            for l in rings_told(n):
                for sorts in itertools.product("+-", repeat=len(l)):
                    expected = [len(l)] + l if sorts.count("-") % 2 == 0 else [-33]
                    self.assertEqual(even(n, rules_round(n, l, sorts)), expected, (n, l, sorts))

    def test_a_shorter_ring_that_can_only_be_odd(self):
        self.assertEqual(even(2, [rule_of(2, lambda f: f[1] and not f[0]), 10]), [2, 0, 1])
        t = [rule_of(3, lambda f: f[2] and not f[1]), rule_of(3, lambda f: f[0]), rule_of(3, lambda f: f[1])]
        self.assertEqual([ring(3, t, [0, 1]), even(3, t)], [[2], [3, 0, 1, 2]])
        t = [rule_of(4, lambda f: f[3] and not f[2])] + [rule_of(4, lambda f: f[i]) for i in (0, 1, 2)]
        self.assertEqual([ring(4, t, [0, 1, 2]), even(4, t)], [[2], [4, 0, 1, 2, 3]])
        t = [rule_of(4, lambda f: f[3] and not f[0])] + [rule_of(4, lambda f: f[i]) for i in (0, 1, 2)]
        self.assertEqual([ring(4, t, [0]), even(4, t)], [[2], [4, 0, 1, 2, 3]])

    def test_the_shorter_one_is_told_though_the_longer_has_a_lesser_tower(self):
        lifted_by = [rule_of(4, lambda f: f[i]) for i in range(4)]
        self.assertEqual(even(4, [lifted_by[1], lifted_by[0], 0, lifted_by[3]]), [1, 3])
        t = [lifted_by[2], lifted_by[0], rule_of(4, lambda f: f[1] and f[3]), lifted_by[2]]
        self.assertEqual([ring(4, t, [0, 1, 2]), even(4, t)], [[1], [2, 2, 3]])

    def test_rings_as_long_are_in_order_of_the_first_tower(self):
        lifted_by = [rule_of(4, lambda f: f[i]) for i in range(4)]
        self.assertEqual(even(4, lifted_by), [1, 0])
        self.assertEqual(even(4, [0, lifted_by[1], lifted_by[2], 0]), [1, 1])
        self.assertEqual(even(4, [lifted_by[3], lifted_by[2], lifted_by[1], lifted_by[0]]), [2, 0, 3])
        t = lifted_by[2:] + [rule_of(4, lambda f: f[1] and not f[3]), rule_of(4, lambda f: f[2] and not f[0])]
        self.assertEqual([ring(4, t, [1, 2, 3]), ring(4, t, [2, 3]), even(4, t)], [[1], [2], [3, 0, 3, 2]])

    def test_rings_as_long_are_in_order_of_a_later_tower(self):
        star = [rule_of(4, lambda f: f[1] and f[2] and f[3])] + [rule_of(4, lambda f: f[0])] * 3
        self.assertEqual(even(4, star), [2, 0, 1])
        star[1] = 0
        self.assertEqual(even(4, star), [2, 0, 2])
        t = [rule_of(4, lambda f: f[2] and f[3])] + [rule_of(4, lambda f: f[i]) for i in (0, 1, 1)]
        self.assertEqual([ring(4, t, [0, 1, 3]), even(4, t)], [[1], [3, 0, 1, 2]])
        t = [rule_of(4, lambda f: f[3] and not f[1]), rule_of(4, lambda f: f[0] and f[2]),
             rule_of(4, lambda f: not f[0]), rule_of(4, lambda f: f[1])]
        self.assertEqual([ring(4, t, [0, 2, 1]), ring(4, t, [0, 1]), even(4, t)], [[1], [2], [3, 0, 1, 3]])

    def test_rings_of_four_are_in_order_of_a_later_tower(self):
        # Each is lifted by the one ahead of it and lowered by the one behind it: any two neighbours are an odd ring.
        for l in ([0, 1, 2, 3], [0, 1, 3, 2], [0, 2, 1, 3], [0, 2, 3, 1], [0, 3, 1, 2], [0, 3, 2, 1]):
            t = [0] * 4
            for place in range(4):
                t[l[place]] = rule_of(4, lambda f: f[l[place - 1]] and not f[l[(place + 1) % 4]])
            other_way = [l[0], l[3], l[2], l[1]]
            self.assertEqual([ring(4, t, l), ring(4, t, other_way)], [[1], [1]])
            self.assertEqual(even(4, t), [4] + min(l, other_way))

    def test_one_earlier_in_order_that_can_only_be_odd_is_passed_over(self):
        self.assertEqual(even(3, [rule_of(3, lambda f: not f[0]), 0, rule_of(3, lambda f: f[2])]), [1, 2])
        t = [rule_of(4, lambda f: f[1])] + [rule_of(4, lambda f: not f[i]) for i in (0, 3, 2)]
        self.assertEqual([ring(4, t, [0, 1]), even(4, t)], [[2], [2, 2, 3]])
        t = [rule_of(3, lambda f: f[tower - 2] and not f[tower - 1]) for tower in range(3)]
        self.assertEqual([ring(3, t, [0, 1, 2]), even(3, t)], [[2], [3, 0, 2, 1]])

    def test_every_pair_of_rules_of_two_towers(self):
        for t in itertools.product(range(16), repeat=2):
            self.check_towers(2, list(t))

    def test_many_rules_of_three_and_four_towers(self):
        lengths = {self.check_towers(3, t) for t in few_watchings(3, 1)}
        self.assertEqual(lengths, {-33, 1, 2, 3})
        lengths = {self.check_towers(4, t) for t in few_watchings(4, 29)}
        self.assertEqual(lengths, {-33, 1, 2, 3, 4})

    def check_towers(self, n, t):
        answer = even(n, t)
        self.assertEqual(answer, shortest_by_definition(n, t, (1, 3)), (n, t))
        if answer != [-33]:
            self.assertEqual(answer[1], min(answer[1:]))
            self.assertIn(ring(n, t, answer[1:]), [[1], [3]])
        return answer[0]


class Corners(unittest.TestCase):
    def test_a_tower_that_watches_itself(self):
        for n in (1, 2, 3, 4):
            for tower in range(n):
                t = [0] * n
                t[tower] = rule_of(n, lambda f: f[tower])
                self.assertEqual(even(n, t), [1, tower])
                t[tower] = rule_of(n, lambda f: not f[tower])
                self.assertEqual(even(n, t), [-33])

    def test_going_round_an_odd_ring_twice_does_not_make_it_even(self):
        self.assertEqual(even(1, [1]), [-33])
        self.assertEqual(even(2, [3, 10]), [-33])
        self.assertEqual(even(2, [rule_of(2, lambda f: not f[0] and not f[1]), 10]), [-33])

    def test_rules_that_never_change(self):
        for n in (1, 2, 3, 4):
            for t in itertools.product((0, RULE_LIMITS[n][0]), repeat=n):
                self.assertEqual(even(n, list(t)), [-33])

    def test_a_rule_that_looks_as_if_it_watched(self):
        seeming = rule_of(2, lambda f: (f[0] and f[1]) or (not f[0] and f[1]))
        self.assertEqual(even(2, [seeming, 10]), [2, 0, 1])
        self.assertEqual(even(2, [seeming, 15]), [-33])
        seeming = rule_of(3, lambda f: (f[0] != f[2]) != (f[1] != f[2]))
        self.assertEqual(even(3, [0, 0, seeming]), [-33])
        self.assertEqual(even(3, [0, rule_of(3, lambda f: f[2]), seeming]), [2, 1, 2])

    def test_a_ring_that_can_be_even_and_odd(self):
        self.assertEqual(even(2, [6, 0]), [1, 0])
        self.assertEqual(even(2, [rule_of(2, lambda f: f[0] == f[1]), 5]), [1, 0])
        t = [rule_of(3, lambda f: f[1] != f[2]), rule_of(3, lambda f: not f[0]), 0]
        self.assertEqual([ring(3, t, [0, 1]), even(3, t)], [[3], [2, 0, 1]])
        self.assertEqual(even(4, [PARITY_OF_FOUR] * 4), [1, 0])

    def test_a_ring_of_four(self):
        for lowerings in range(5):
            t = rules_round(4, [0, 3, 1, 2], ["-"] * lowerings + ["+"] * (4 - lowerings))
            self.assertEqual(even(4, t), [[4, 0, 3, 1, 2], [-33]][lowerings % 2])

    def test_it_begins_with_its_least_tower(self):
        for l in itertools.permutations(range(4), 3):
            told = l[l.index(min(l)):] + l[:l.index(min(l))]
            self.assertEqual(even(4, rules_round(4, l, "--+")), [3] + list(told))


class Refusals(unittest.TestCase):
    def test_towers_and_rules_that_do_not_fit(self):
        for n, t in UNFIT:
            self.assertEqual(even(n, t), [-22], (n, t))

    def test_they_are_refused_though_there_would_be_a_ring(self):
        self.assertEqual(even(1, [2, 2]), [-22])
        self.assertEqual(even(2, [10]), [-22])
        self.assertEqual(even(2, [10, 16]), [-22])
        self.assertEqual(even(0, [2]), [-22])
        self.assertEqual(even(5, [2] * 5), [-22])

    def test_the_last_rule_that_fits(self):
        for n, (last, first_beyond) in RULE_LIMITS.items():
            t = [last] * n
            self.assertEqual(even(n, t), [-33])
            t[0] = rule_of(n, lambda f: f[0])
            self.assertEqual(even(n, t), [1, 0])

    def test_no_ring_at_all(self):
        for n in (1, 2, 3, 4):
            chain = [0] + [rule_of(n, lambda f: f[tower - 1]) for tower in range(1, n)]
            self.assertEqual(even(n, chain), [-33])
            wide = [rule_of(n, lambda f: sum(f[tower + 1:]) % 2) for tower in range(n)]
            self.assertEqual(even(n, wide), [-33])

    def test_rings_but_none_that_can_be_even(self):
        for n in (1, 2, 3, 4):
            self.assertEqual(even(n, [rule_of(n, lambda f: not f[tower]) for tower in range(n)]), [-33])
        self.assertEqual(even(4, rules_round(4, [0, 3, 1, 2], "+-++")), [-33])
        # Each of the rings 0-1, 0-2 and 0-3 lowers once; no other two towers watch one another.
        star = [rule_of(4, lambda f: f[1] and f[2] and f[3])] + [rule_of(4, lambda f: not f[0])] * 3
        self.assertEqual(even(4, star), [-33])


class Interface(unittest.TestCase):
    def test_arguments(self):
        self.assertEqual(list(inspect.signature(even).parameters), ["n", "t"])
        self.assertEqual(even(n=2, t=[12, 10]), [2, 0, 1])

    def test_a_list_of_whole_numbers_is_given_back(self):
        for n, t, length in [(1, [2], 2), (2, [12, 10], 3), (2, [6, 6], 2), (1, [0], 1), (1, [1], 1), (0, [], 1)]:
            answer = even(n, t)
            self.assertIs(type(answer), list)
            self.assertEqual([type(number) for number in answer], [int] * length)

    def test_t_is_not_changed(self):
        for n, t in [(2, [12, 10]), (2, [3, 10]), (4, [0] * 4), (2, [16, 6]), (3, [1]), (9, [7])]:
            handed = SealedList(t)
            even(n, handed)
            self.assertEqual(handed, t)

    def test_each_call_stands_by_itself(self):
        t = [12, 10]
        first = even(2, t)
        self.assertEqual(even(1, [2]), [1, 0])
        self.assertEqual(even(2, [3, 10]), [-33])
        self.assertEqual(even(2, [6]), [-22])
        self.assertEqual(even(2, t), first)
        first.append(99)
        self.assertEqual(even(2, t), [2, 0, 1])

    def test_a_list_is_read_anew_each_time(self):
        t = [12, 10]
        self.assertEqual(even(2, t), [2, 0, 1])
        t[0] = 3
        self.assertEqual(even(2, t), [-33])
        t.append(0)
        self.assertEqual(even(2, t), [-22])


if __name__ == "__main__":
    unittest.main()
