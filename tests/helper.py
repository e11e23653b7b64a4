"""What the tests reckon by themselves, from the document's words, and never by the program."""


def states_of(n):
    return list(range(2 ** n))


def towers_up(state):
    """The towers whose flags are up, read off the state's binary digits."""
    digits = reversed(bin(state)[2:])
    return {tower for tower, digit in enumerate(digits) if digit == "1"}


def rules_that_bring(brought):
    """The rules under which, all at once, state s becomes brought[s]."""
    n = (len(brought) - 1).bit_length()
    return [sum(2 ** s for s, to in enumerate(brought) if tower in towers_up(to)) for tower in range(n)]


def states_at_rest(n, t):
    """Each flag is up in the state just if its rule has the state among those it counts."""
    told = [towers_up(rule) for rule in t]  # a rule's digits stand for states as a state's do for towers
    return [s for s in states_of(n) if {j for j in range(n) if s in told[j]} == towers_up(s)]


def spread(count, below, seed):
    """Numbers that are scattered, yet the same in every run."""
    numbers = []
    value = seed
    for _ in range(count):
        value = (value * 6364136223846793005 + 1442695040888963407) % 2 ** 64
        numbers.append((value >> 33) % below)
    return numbers


class Untouchable(list):
    """A list that tells at once when something is changed in it, even if it's put back later."""

    def refuse(self, *args, **kwargs):
        raise AssertionError("what was handed in is changed")

    __setitem__ = __delitem__ = __iadd__ = __imul__ = refuse
    append = extend = insert = pop = remove = clear = sort = reverse = refuse
