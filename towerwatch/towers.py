"""Who watches whom: how the towers' rules hang on one another's flags."""

MOST_TOWERS = 4

# The refusals.
DOES_NOT_FIT = -22
NO_SUCH_TOWER = -2
NOT_WATCHED = -6
NO_SUCH_RING = -33
THERE_IS_A_RING = -33

# What a watching is made of; both together add up to 3.
LIFTED = 1
LOWERED = 2

# What a ring can be; both together add up to 3.
CAN_BE_EVEN = 1
CAN_BE_ODD = 2


def power_of_two(exponent):
    power = 1
    for step in range(exponent):
        power = power * 2
    return power


def bit_at(number, place):
    return number // power_of_two(place) % 2


def fits(n, t):
    # n comes first: the limit below may only be reckoned for a small n.
    if n < 1 or n > MOST_TOWERS:
        return False
    if len(t) != n:
        return False
    limit = power_of_two(power_of_two(n))
    return all([rule < limit for rule in t])


def watching(n, i, rule):
    lifted = 0
    lowered = 0
    for state in range(power_of_two(n)):
        if bit_at(state, i) == 0:
            while_down = bit_at(rule, state)
            while_up = bit_at(rule, state + power_of_two(i))
            if while_down < while_up:
                lifted = LIFTED
            if while_down > while_up:
                lowered = LOWERED
    return lifted + lowered


def are_different_towers(n, l):
    if len(l) == 0:
        return False
    return all([tower < n and l.count(tower) == 1 for tower in l])


def watchings_round(n, t, l):
    found = []
    for place in range(len(l)):
        # Behind the last tower the first one comes again.
        watcher = l[(place + 1) % len(l)]
        found.append(watching(n, l[place], t[watcher]))
    return found


def what_can_be(found):
    # One watching that leaves the choice is enough: it alone turns even into odd.
    if LIFTED + LOWERED in found:
        return CAN_BE_EVEN + CAN_BE_ODD
    if found.count(LOWERED) % 2 == 0:
        return CAN_BE_EVEN
    return CAN_BE_ODD


def one_tower_longer(n, choices):
    longer = []
    for towers in choices:
        # A ring is told from its least tower on, so only greater ones come behind the first.
        for tower in range(towers[0] + 1, n):
            if tower not in towers:
                longer.append(towers + [tower])
    return longer


def can_be(n, t, towers, wanted):
    found = watchings_round(n, t, towers)
    if 0 in found:
        return False
    return what_can_be(found) in (wanted, CAN_BE_EVEN + CAN_BE_ODD)


def shortest_ring(n, t, wanted):
    # Shorter choices come first, and those as long in order, so the first that can be is the one to tell.
    choices = [[tower] for tower in range(n)]
    while len(choices) > 0:
        for towers in choices:
            if can_be(n, t, towers, wanted):
                return [len(towers)] + towers
        choices = one_tower_longer(n, choices)
    return [NO_SUCH_RING]


def watches_placed_ones_alone(n, rule, placed):
    return all([i in placed or watching(n, i, rule) == 0 for i in range(n)])


def next_layer(n, t, placed):
    unplaced = [tower for tower in range(n) if tower not in placed]
    return [tower for tower in unplaced if watches_placed_ones_alone(n, t[tower], placed)]


def kind(n, i, j, t):
    if not fits(n, t):
        return [DOES_NOT_FIT]
    if i >= n or j >= n:
        return [NO_SUCH_TOWER]
    return [watching(n, i, t[j])]


def kinds(n, t):
    if not fits(n, t):
        return [DOES_NOT_FIT]
    found = []
    for rule in t:
        for i in range(n):
            found.append(watching(n, i, rule))
    count = len([each for each in found if each != 0])
    return [count] + found


def ring(n, t, l):
    if not fits(n, t) or not are_different_towers(n, l):
        return [DOES_NOT_FIT]
    found = watchings_round(n, t, l)
    if 0 in found:
        return [NOT_WATCHED]
    return [what_can_be(found)]


def even(n, t):
    if not fits(n, t):
        return [DOES_NOT_FIT]
    return shortest_ring(n, t, CAN_BE_EVEN)


def odd(n, t):
    if not fits(n, t):
        return [DOES_NOT_FIT]
    return shortest_ring(n, t, CAN_BE_ODD)


def layers(n, t):
    if not fits(n, t):
        return [DOES_NOT_FIT]
    placed = {}
    count = 0
    while len(placed) < n:
        towers = next_layer(n, t, placed)
        # If each one that is left watches one that is left, itself perhaps, going on so comes round: a ring.
        if len(towers) == 0:
            return [THERE_IS_A_RING]
        for tower in towers:
            placed[tower] = count
        count = count + 1
    return [count] + [placed[tower] for tower in range(n)]
