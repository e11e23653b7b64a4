"""The calls on towers whose rules tell from the state whether a flag is up next."""

REFUSED = -22
MOST_TOWERS = 4


def power_of_two(exponent):
    power = 1
    for step in range(exponent):
        power = power * 2
    return power


def are_towers(n, t):
    # n is held first: the limit for the rules is only reckoned for a small n.
    if n < 1 or n > MOST_TOWERS:
        return False
    if len(t) != n:
        return False
    limit = power_of_two(power_of_two(n))
    for rule in t:
        if rule < 0 or rule >= limit:
            return False
    return True


def flag_next(rule, state):
    return (rule >> state) & 1


def all_at_once(t, state):
    brought = 0
    weight = 1
    for rule in t:
        brought = brought + flag_next(rule, state) * weight
        weight = weight * 2
    return brought


def rests(n, t):
    if not are_towers(n, t):
        return [REFUSED]
    resting = [state for state in range(power_of_two(n)) if all_at_once(t, state) == state]
    return [len(resting)] + resting
