"""What holds over the whole program, over many rules and by its own answers."""

import itertools
import unittest

from towerwatch.towers import even, kind, kinds, layers, odd, ring
from tests.support import RULE_LIMITS, UNFIT, few_watchings, rule_of, rules_round, without_a_ring

# Rules with rings and without: all of one and two towers, a choice of three and four.
MANY_TOWERS = (
    [(n, list(t)) for n in (1, 2) for t in itertools.product(range(RULE_LIMITS[n][1]), repeat=n)]
    + [(3, t) for t in few_watchings(3, 3) + without_a_ring(3, 7)]
    + [(3, [start, start * 7 % 256, start * 31 % 256]) for start in range(0, 256, 5)]
    + [(4, t) for t in few_watchings(4, 101) + without_a_ring(4, 2003)]
    + [(4, rules_round(4, [0, 2, 3, 1], sorts)) for sorts in itertools.product("+-", repeat=4)]
    + [(4, [start, start * 7 % 65536, start * 31 % 65536, 65535 - start]) for start in range(0, 65536, 4099)]
)


def all_at_once(t, state):
    return sum((rule >> state & 1) << tower for tower, rule in enumerate(t))


def states_behind(n, t, steps):
    """What the flags may be behind so many steps, whatever state they begin with."""
    states = set(range(2 ** n))
    for step in range(steps):
        states = {all_at_once(t, state) for state in states}
    return states


def choices_of_towers(n):
    return [list(l) for length in range(1, n + 1) for l in itertools.permutations(range(n), length)]


class ComingToRest(unittest.TestCase):
    def test_without_a_ring_all_flags_are_put_for_good(self):
        counts = {(n, self.check_rest(n, t)) for n, t in MANY_TOWERS if layers(n, t) != [-33]}
        self.assertEqual(counts, {(n, count) for n in (1, 2, 3, 4) for count in range(1, n + 1)})

    def check_rest(self, n, t):
        count = layers(n, t)[0]
        rest = states_behind(n, t, count)
        self.assertEqual(len(rest), 1, (n, t))
        self.assertEqual({all_at_once(t, state) for state in rest}, rest, (n, t))
        return count

    def test_a_tower_is_at_rest_behind_its_own_layer(self):
        for n, t in MANY_TOWERS:
            for tower, layer in enumerate(layers(n, t)[1:]):
                flags = {state >> tower & 1 for state in states_behind(n, t, layer + 1)}
                self.assertEqual(len(flags), 1, (n, t, tower))

    def test_a_chain_takes_as_many_steps_as_it_has_layers(self):
        for n in (1, 2, 3, 4):
            for chain in itertools.permutations(range(n)):
                t = [0] * n
                for watched, watcher in zip(chain, chain[1:]):
                    t[watcher] = rule_of(n, lambda f: not f[watched])
                count = layers(n, t)[0]
                self.assertEqual([len(states_behind(n, t, steps)) == 1 for steps in (count - 1, count)], [False, True])


class LayersOrARing(unittest.TestCase):
    def test_layers_are_refused_just_where_a_ring_is_told(self):
        seen = set()
        for n, t in MANY_TOWERS:
            told = even(n, t) != [-33] or odd(n, t) != [-33]
            self.assertEqual(layers(n, t) == [-33], told, (n, t))
            seen.add((n, told))
        self.assertEqual(seen, set(itertools.product((1, 2, 3, 4), (False, True))))

    def test_each_layer_there_is_has_a_tower_and_each_tower_watches_lower_layers(self):
        for n, t in MANY_TOWERS:
            answer = layers(n, t)
            if answer != [-33]:
                self.assertEqual(sorted(set(answer[1:])), list(range(answer[0])), (n, t))
                for i, j in itertools.product(range(n), repeat=2):
                    if kind(n, i, j, t) != [0]:
                        self.assertLess(answer[1 + i], answer[1 + j], (n, t))


class WatchingAndTheRules(unittest.TestCase):
    def test_whom_a_tower_does_not_watch_makes_no_difference(self):
        for n, t in MANY_TOWERS:
            for i, j in itertools.product(range(n), repeat=2):
                differs = any((t[j] >> state & 1) != (t[j] >> (state ^ 2 ** i) & 1) for state in range(2 ** n))
                self.assertEqual(kind(n, i, j, t) != [0], differs, (n, i, j, t))

    def test_kinds_tells_what_kind_tells(self):
        for n, t in MANY_TOWERS:
            told = [kind(n, i, j, t)[0] for j in range(n) for i in range(n)]
            self.assertEqual(kinds(n, t), [n * n - told.count(0)] + told, (n, t))


class RingsBegunElsewhere(unittest.TestCase):
    def test_they_are_answered_alike(self):
        seen = set()
        for n, t in MANY_TOWERS:
            answers = {tuple(l): ring(n, t, l) for l in choices_of_towers(n)}
            for l, answer in answers.items():
                self.assertEqual(answers[l[1:] + l[:1]], answer, (n, t, l))
                seen.add((len(l), answer[0]))
        self.assertEqual(seen, set(itertools.product((1, 2, 3, 4), (-6, 1, 2, 3))))


class ShortestRings(unittest.TestCase):
    def check_shortest(self, tell, wanted):
        seen = set()
        for n, t in MANY_TOWERS:
            told = tell(n, t)
            lengths = [len(l) for l in choices_of_towers(n) if ring(n, t, l) in wanted]
            self.assertEqual(told[0], min(lengths, default=-33), (n, t))
            if lengths:
                self.assertEqual(told[0], len(told) - 1)
                self.assertIn(ring(n, t, told[1:]), wanted)
            seen.add(told[0])
        self.assertEqual(seen, {-33, 1, 2, 3, 4})

    def test_none_that_can_be_even_is_shorter_than_the_even_one(self):
        self.check_shortest(even, ([1], [3]))

    def test_none_that_can_be_odd_is_shorter_than_the_odd_one(self):
        self.check_shortest(odd, ([2], [3]))


class Refusals(unittest.TestCase):
    def answers(self, n, t):
        return [kind(n, 0, 0, t), kinds(n, t), ring(n, t, [0]), even(n, t), odd(n, t), layers(n, t)]

    def test_what_does_not_fit_is_refused_by_all(self):
        for n, t in UNFIT:
            self.assertEqual(self.answers(n, t), [[-22]] * 6, (n, t))

    def test_a_refusal_is_its_number_alone_and_no_other_number_is_below_0(self):
        for n, t in MANY_TOWERS:
            for answer in self.answers(n, t):
                if answer not in ([-6], [-33]):
                    self.assertGreaterEqual(min(answer), 0, (n, t, answer))


if __name__ == "__main__":
    unittest.main()
