"""The calls on towers whose rules tell from the state whether a flag is up next."""

REFUSED = -22
NEVER = -33
MOST_TOWERS = 4


def power_of_two(exponent):
    power = 1
    for step in range(exponent):
        power = power * 2
    return power


def are_towers(n, t):
    # n is held first: the limit for the rules is only reckoned for a small n.
    if n < 1 or n > MOST_TOWERS:
        return False
    if len(t) != n:
        return False
    limit = power_of_two(power_of_two(n))
    for rule in t:
        if rule < 0 or rule >= limit:
            return False
    return True


def is_state(n, s):
    return s >= 0 and s < power_of_two(n)


def is_order(n, order):
    return sorted(order) == list(range(n))


def may_begin(n, s, t):
    # The towers are held first: how many states a great n has could not be reckoned here.
    return are_towers(n, t) and is_state(n, s)


def may_pass(n, s, t, order):
    # The order is held last: a great n has no list of towers that could be made here.
    return may_begin(n, s, t) and is_order(n, order)


def flag_now(state, tower):
    return (state >> tower) & 1


def flag_next(rule, state):
    return (rule >> state) & 1


def all_at_once(t, state):
    brought = 0
    weight = 1
    for rule in t:
        brought = brought + flag_next(rule, state) * weight
        weight = weight * 2
    return brought


def is_at_rest(t, state):
    return all_at_once(t, state) == state


def alone(t, tower, state):
    change = flag_next(t[tower], state) - flag_now(state, tower)
    return state + change * power_of_two(tower)


def one_pass(t, order, state):
    reached = state
    for tower in order:
        reached = alone(t, tower, reached)
    return reached


def all_orders(n):
    # Each beginning goes on with the lesser tower first, so that the orders come in order.
    orders = [[]]
    for turn in range(n):
        longer = []
        for order in orders:
            for tower in range(n):
                if tower not in order:
                    longer.append(order + [tower])
        orders = longer
    return orders


def brings_rest_at_once(n, t, order):
    for state in range(power_of_two(n)):
        if not is_at_rest(t, one_pass(t, order, state)):
            return False
    return True


def rests(n, t):
    if not are_towers(n, t):
        return [REFUSED]
    resting = [state for state in range(power_of_two(n)) if is_at_rest(t, state)]
    return [len(resting)] + resting


def pass_of(n, s, t, order):
    if not may_pass(n, s, t, order):
        return [REFUSED]
    return [one_pass(t, order, s)]


def sweeps(n, s, t, order):
    if not may_pass(n, s, t, order):
        return [REFUSED]
    reached = s
    # Behind as many passes as there are states, one state has come twice: without rest till then it goes round.
    for passes in range(power_of_two(n)):
        if is_at_rest(t, reached):
            return [passes, reached]
        reached = one_pass(t, order, reached)
    return [NEVER]


def best(n, t):
    if not are_towers(n, t):
        return [REFUSED]
    enough = [order for order in all_orders(n) if brings_rest_at_once(n, t, order)]
    if len(enough) == 0:
        return [NEVER]
    return [len(enough)] + enough[0]


def brings(n, s, t):
    if not may_begin(n, s, t):
        return [REFUSED]
    brought = sorted(set([one_pass(t, order, s) for order in all_orders(n)]))
    return [len(brought)] + brought
