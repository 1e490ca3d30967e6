"""What the tests share: rules written as words, and the document's definitions, read literally."""

import functools
import itertools


def rule_of(n, says_up):
    """The rule, as a number, of a tower whose flag is up next where says_up(flags) holds."""
    rule = 0
    for state in range(2 ** n):
        flags = [bool(state & 2 ** tower) for tower in range(n)]
        if says_up(flags):
            rule += 2 ** state
    return rule


@functools.lru_cache(maxsize=None)
def kind_by_definition(n, i, rule):
    """How a tower with this rule watches tower i, over tuples of flags instead of numbered states."""
    rows = {}
    digits = bin(rule)[2:].zfill(2 ** n)[::-1]
    for backwards in itertools.product("01", repeat=n):
        rows[backwards[::-1]] = digits[int("".join(backwards), 2)]
    changes = set()
    for flags, said in rows.items():
        if flags[i] == "0":
            changes.add(said + rows[flags[:i] + ("1",) + flags[i + 1:]])
    return ("01" in changes) + 2 * ("10" in changes)


def ring_by_definition(n, t, l):
    """What ring is to answer of different towers l that there are: every choice of lifting or lowering is tried."""
    watchings = []
    for watched, watcher in zip(l, l[1:] + l[:1]):
        kind = kind_by_definition(n, watched, t[watcher])
        watchings.append({0: "", 1: "+", 2: "-", 3: "+-"}[kind])
    if "" in watchings:
        return -6
    lowerings = {choice.count("-") % 2 for choice in itertools.product(*watchings)}
    return {(0,): 1, (1,): 2, (0, 1): 3}[tuple(sorted(lowerings))]


def rings_by_definition(n, t):
    """Every ring, told from its least tower on, with what ring is to answer of it."""
    rings = {}
    for length in range(1, n + 1):
        for l in itertools.permutations(range(n), length):
            answer = ring_by_definition(n, t, list(l))
            if answer != -6:
                least = l.index(min(l))
                rings[l[least:] + l[:least]] = answer
    return rings


def shortest_by_definition(n, t, answers):
    """What even or odd is to answer, if the rings looked for are those of which ring answers one of these."""
    fitting = [l for l, answer in rings_by_definition(n, t).items() if answer in answers]
    if not fitting:
        return [-33]
    first = min(fitting, key=lambda l: (len(l), l))
    return [len(first)] + list(first)


def layers_by_definition(n, t):
    """What layers is to answer."""
    if rings_by_definition(n, t):
        return [-33]

    def layer_of(tower):
        watched = [i for i in range(n) if kind_by_definition(n, i, t[tower])]
        return 1 + max(layer_of(i) for i in watched) if watched else 0

    found = [layer_of(tower) for tower in range(n)]
    return [len(set(found))] + found


def rings_told(n):
    """Every choice of different towers that begins with its least one."""
    return [list(l) for length in range(1, n + 1) for l in itertools.permutations(range(n), length) if l[0] == min(l)]


def rules_round(n, l, sorts):
    """Rules by which the towers l are a ring: sorts tells how each of them is watched by the next ("+", "-", "+-").

    All other towers never change. For "+-" the watcher hangs on one more flag, so it takes two towers at least.
    """
    t = [0] * n
    for watched, watcher, sort in zip(l, l[1:] + l[:1], sorts):
        beside = (watched + 1) % n
        says_up = {
            "+": lambda f: f[watched],
            "-": lambda f: not f[watched],
            "+-": lambda f: f[watched] != f[beside],
        }[sort]
        t[watcher] = rule_of(n, says_up)
    return t


def few_watchings(n, stride):
    """Every stride-th list of rules out of those that watch one tower or two, or none: rings of each length come up."""
    rules = [0]
    for i in range(n):
        rules += [rule_of(n, lambda f: f[i]), rule_of(n, lambda f: not f[i])]
    for i in range(n - 1):
        rules += [rule_of(n, lambda f: f[i] != f[i + 1]), rule_of(n, lambda f: f[i + 1] and not f[i])]
    return [list(t) for t in itertools.islice(itertools.product(rules, repeat=n), 0, None, stride)]


def rules_in_order(n, order, tables):
    """Rules by which each tower hangs on those ahead of it in this order alone: there is no ring.

    A tower's table is a number: if the flags ahead of it, read as a number, make k, it tells in place k.
    """
    t = [0] * n
    for place, (tower, table) in enumerate(zip(order, tables)):
        ahead = order[:place]
        t[tower] = rule_of(n, lambda f: table >> sum(f[watched] << k for k, watched in enumerate(ahead)) & 1)
    return t


def without_a_ring(n, stride):
    """Every stride-th list of rules out of those without a ring, in all orders (some come up several times)."""
    tables = [range(2 ** 2 ** place) for place in range(n)]
    choices = itertools.product(itertools.permutations(range(n)), itertools.product(*tables))
    return [rules_in_order(n, order, chosen) for order, chosen in itertools.islice(choices, 0, None, stride)]


class SealedList(list):
    """A list that can be read alone: whoever changes it, if only for a while, fails."""

    def refuse(self, *args, **kwargs):
        raise AssertionError("what is handed in was changed")

    __setitem__ = __delitem__ = __iadd__ = __imul__ = refuse
    append = clear = extend = insert = pop = remove = reverse = sort = refuse


# For each number of towers, the last rule that fits and the first that doesn't.
# With 4 towers the latter is beyond what the interface hands over; it is refused all the same.
RULE_LIMITS = {1: (3, 4), 2: (15, 16), 3: (255, 256), 4: (65535, 65536)}

# Pairs of n and t that every call refuses with -22.
UNFIT = (
    [(n, [0] * length) for n in (0, 5, 4294967295) for length in range(11)]
    + [(n, [0] * length) for n in (1, 2, 3, 4) for length in range(11) if length != n]
    + [(n, [0] * place + [too_great] + [0] * (n - place - 1))
       for n in (1, 2, 3, 4)
       for place in range(n)
       for too_great in sorted({RULE_LIMITS[n][1], max(65535, RULE_LIMITS[n][1])})]
)
