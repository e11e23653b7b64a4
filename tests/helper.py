"""What the tests reckon by themselves, from the document's words and never by the program, and what they share."""

import contextlib
import inspect
import io
import itertools

ALL_STAY = {1: [2], 2: [10, 12], 3: [170, 204, 240], 4: [43690, 52428, 61680, 65280]}
GREATEST_RULE = {1: 3, 2: 15, 3: 255, 4: 65535}


def states_of(n):
    return list(range(2 ** n))


def towers_up(state):
    """The towers whose flags are up, read off the state's binary digits."""
    digits = reversed(bin(state)[2:])
    return {tower for tower, digit in enumerate(digits) if digit == "1"}


def rules_that_bring(brought):
    """The rules under which, all at once, state s becomes brought[s]."""
    n = (len(brought) - 1).bit_length()
    return [sum(2 ** s for s, to in enumerate(brought) if tower in towers_up(to)) for tower in range(n)]


def states_at_rest(n, t):
    """Each flag is up in the state just if its rule has the state among those it counts."""
    told = [towers_up(rule) for rule in t]  # a rule's digits stand for states as a state's do for towers
    return [s for s in states_of(n) if {j for j in range(n) if s in told[j]} == towers_up(s)]


def orders_of(n):
    return [list(order) for order in itertools.permutations(range(n))]


def state_behind_pass(s, t, order):
    """The flags that are up are kept as towers, which each tower of the order joins or leaves."""
    up = towers_up(s)
    for tower in order:
        seen = sum(2 ** j for j in up)
        up = up | {tower} if seen in towers_up(t[tower]) else up - {tower}
    return sum(2 ** j for j in up)


def sweeps_from_each_state(n, t, order):
    """Gone backwards from the states at rest, a pass each step: what isn't met so never comes to rest."""
    answers = {s: [0, s] for s in states_at_rest(n, t)}
    latest = dict(answers)
    while latest:
        brought = {s: state_behind_pass(s, t, order) for s in states_of(n) if s not in answers}
        latest = {s: [latest[to][0] + 1, latest[to][1]] for s, to in brought.items() if to in latest}
        answers.update(latest)
    return [answers.get(s, [-33]) for s in states_of(n)]


def orders_that_bring_rest_at_once(n, t):
    """The orders in which one pass takes the whole of the states into those at rest."""
    resting = set(states_at_rest(n, t))
    return [order for order in orders_of(n) if {state_behind_pass(s, t, order) for s in states_of(n)} <= resting]


def states_that_passes_bring(n, s, t):
    """Gone by which towers have acted, not by orders: each of them may have been the last to act."""
    brought = {frozenset(): {s}}
    for size in range(1, n + 1):
        for acted in map(frozenset, itertools.combinations(range(n), size)):
            brought[acted] = {state_behind_pass(ahead, t, [last])
                              for last in acted for ahead in brought[acted - {last}]}
    return sorted(brought[frozenset(range(n))])


def state_all_at_once(n, s, t):
    return sum(2 ** tower for tower in range(n) if s in towers_up(t[tower]))


def watched_by(n, rule):
    """The towers whose flag the rule hangs on: turned over by itself, it somewhere makes another answer."""
    told = towers_up(rule)
    return {tower for tower in range(n) for s in states_of(n) if (s in told) != (s ^ 2 ** tower in told)}


def orders_with_the_watched_ahead(n, t):
    """None at all if a tower hangs on itself, by however many others."""
    watched = [watched_by(n, rule) for rule in t]
    return [order for order in orders_of(n)
            if all(watched[tower] <= set(order[:turn]) for turn, tower in enumerate(order))]


def rule_watching(n, watched, table):
    """The rule that reads the flags of the watched towers as a number, and is up if the table counts that number."""
    told = towers_up(table)
    return sum(2 ** s for s in states_of(n)
               if sum(2 ** k for k, tower in enumerate(watched) if tower in towers_up(s)) in told)


def spread(count, below, seed):
    """Numbers that are scattered, yet the same in every run."""
    numbers = []
    value = seed
    for _ in range(count):
        value = (value * 6364136223846793005 + 1442695040888963407) % 2 ** 64
        numbers.append((value >> 33) % below)
    return numbers


def scattered_rules(n, count, seed):
    numbers = spread(n * count, GREATEST_RULE[n] + 1, seed)
    return [numbers[start:start + n] for start in range(0, len(numbers), n)]


def scattered_rules_that_watch_few(n, count, seed):
    """Each tower watches two at most, perhaps itself: with so few of them rest is not as rare as else."""
    numbers = iter(spread(3 * n * count, 2 ** 12, seed))
    return [[rule_watching(n, [next(numbers) % n, next(numbers) % n], next(numbers) % 16) for _ in range(n)]
            for _ in range(count)]


def scattered_rules_one_flag_short_of_rest(n, s, tower, count, seed):
    """In state s the tower's flag alone would change, and then none; what other states bring is scattered."""
    numbers = spread(count * 2 ** n, 2 ** n, seed)
    for start in range(0, len(numbers), 2 ** n):
        brought = numbers[start:start + 2 ** n]
        brought[s] = brought[s ^ 2 ** tower] = s ^ 2 ** tower
        yield rules_that_bring(brought)


def scattered_rules_in_an_order(order, count, seed):
    """Each tower watches none but those ahead of it in the order, so that none hangs on itself."""
    n = len(order)
    numbers = iter(spread(n * count, 2 ** 16, seed))
    for _ in range(count):
        t = [0] * n
        for turn, tower in enumerate(order):
            t[tower] = rule_watching(n, order[:turn], next(numbers) % 2 ** 2 ** turn)
        yield t


class Untouchable(list):
    """A list that tells at once when something is changed in it, even if it's put back later."""

    def refuse(self, *args, **kwargs):
        raise AssertionError("what was handed in is changed")

    __setitem__ = __delitem__ = __iadd__ = __imul__ = refuse
    append = extend = insert = pop = remove = clear = sort = reverse = refuse


class Handing:
    """Hands a call what it takes; `call`, and in `names` what it takes, are given by the class that takes this over."""

    def ask(self, n, s, t, order):
        handed = {"n": n, "s": s, "t": t, "order": order}
        return self.call(*[handed[name] for name in self.names])


class Refusing(Handing):
    def refused(self, n, s, t, order):
        self.assertEqual(self.ask(n, s, t, order), [-22], (n, s, t, order))

    def taken(self, n, s, t, order):
        self.assertNotEqual(self.ask(n, s, t, order)[0], -22, (n, s, t, order))


class TowersRefusals(Refusing):
    """The -22 for n and for t."""

    def test_what_is_refused_below_in_one_thing_is_taken_without_it(self):
        for n, t in ALL_STAY.items():
            for order in orders_of(n):
                self.taken(n, 0, t, order)

    def test_n_is_not_1_to_4(self):
        self.refused(0, 0, [], [])
        self.refused(5, 0, [0] * 5, [0, 1, 2, 3, 4])
        for n in (0, 5, 4294967295):
            for length in range(11):
                self.refused(n, 0, [0] * length, list(range(length)))

    def test_n_is_another_than_the_lists_are_made_for(self):
        for n in (1, 2, 3, 4):
            for other in {1, 2, 3, 4} - {n}:
                self.refused(other, 0, [0] * n, list(range(n)))

    def test_t_has_too_few_or_too_many_rules(self):
        for n, t in ALL_STAY.items():
            for wrong in ([], t[:-1], t[1:], t + [0], t + t[-1:], [0] * 10):
                self.refused(n, 0, wrong, list(range(n)))

    def test_a_rule_is_too_great(self):
        for n in (1, 2, 3):
            for place in range(n):
                for rule in (GREATEST_RULE[n] + 1, 65535):
                    t = list(ALL_STAY[n])
                    t[place] = rule
                    self.refused(n, 0, t, list(range(n)))

    def test_the_greatest_rule_is_taken(self):
        for n, rule in GREATEST_RULE.items():
            for place in range(n):
                t = list(ALL_STAY[n])
                t[place] = rule
                self.taken(n, 0, t, list(range(n)))

    def test_several_refusals_are_due(self):
        self.refused(0, 4294967295, [65535] * 10, [65535] * 10)
        self.refused(4294967295, 4294967295, [], [])
        for n in (1, 2, 3):
            self.refused(n, 2 ** n, [65535] * n, [n] * n)

    def test_numbers_of_n_and_t_that_are_not_as_told(self):
        self.refused(-1, 0, [2], [0])
        self.refused(4294967296, 0, [2], [0])
        self.refused(4, 0, [0, 0, 0, 65536], [0, 1, 2, 3])
        self.refused(4, 0, [0] * 11, [0, 1, 2, 3])
        for n in (1, 2, 3, 4):
            for place in range(n):
                self.refused(n, 0, [-1 if j == place else 0 for j in range(n)], list(range(n)))


class StateRefusals(Refusing):
    """The -22 for s."""

    def test_s_is_not_a_state(self):
        for n, t in ALL_STAY.items():
            for s in (2 ** n, 2 ** n + 1, 2 ** n + n, 65535, 4294967295):
                self.refused(n, s, t, list(range(n)))

    def test_the_greatest_state_is_taken(self):
        for n, t in ALL_STAY.items():
            for s in states_of(n):
                self.taken(n, s, t, list(range(n)))

    def test_numbers_of_s_that_are_not_as_told(self):
        for n, t in ALL_STAY.items():
            self.refused(n, -1, t, list(range(n)))
            self.refused(n, 4294967296, t, list(range(n)))


class OrderRefusals(Refusing):
    """The -22 for order."""

    def test_order_has_too_few_or_too_many_towers(self):
        for n, t in ALL_STAY.items():
            for order in orders_of(n):
                for wrong in ([], order[:-1], order[1:], order + [n], order + [0], [n] + order, order + order):
                    self.refused(n, 0, t, wrong)
            self.refused(n, 0, t, list(range(10)))
            self.refused(n, 0, t, [0] * 10)

    def test_order_has_a_tower_twice(self):
        for n, t in ALL_STAY.items():
            for order in itertools.product(range(n), repeat=n):
                if list(order) not in orders_of(n):
                    self.refused(n, 0, t, list(order))

    def test_order_has_a_tower_that_is_not_there(self):
        for n, t in ALL_STAY.items():
            for order in orders_of(n):
                for place in range(n):
                    for tower in (n, 4, 9, 65535):
                        wrong = list(order)
                        wrong[place] = tower
                        self.refused(n, 0, t, wrong)

    def test_numbers_of_order_that_are_not_as_told(self):
        self.refused(4, 0, [0] * 4, list(range(11)))
        for n, t in ALL_STAY.items():
            for place in range(n):
                self.refused(n, 0, t, [j - n if j == place else j for j in range(n)])


class PlainCalling(Handing):
    """What the interface says of every call."""

    CALLS = [(n, s, ALL_STAY[n], order) for n in (1, 2, 3, 4) for s in (0, n, 2 ** n - 1) for order in orders_of(n)]
    CALLS += [(2, s, t, order) for s in range(5) for t in ([3, 5], [12, 5]) for order in ([0, 1], [1, 0])]
    CALLS += [(0, 0, [], []), (3, 0, [256, 0, 0], [2, 1, 0]), (2, 0, [1] * 10, [0, 1]), (3, 1, [1, 2, 3], [2, 1, 2])]

    def test_names_and_order_of_what_is_handed_in(self):
        parameters = inspect.signature(self.call).parameters.values()
        self.assertEqual([p.name for p in parameters], self.names)
        self.assertTrue(all(p.default is inspect.Parameter.empty for p in parameters))
        handed = {"order": [1, 0], "t": [3, 5], "s": 3, "n": 2}
        by_name = {name: value for name, value in handed.items() if name in self.names}
        self.assertEqual(self.call(**by_name), self.ask(2, 3, [3, 5], [1, 0]))

    def test_a_list_of_plain_whole_numbers_is_given_back(self):
        for n, s, t, order in self.CALLS:
            answer = self.ask(n, s, t, order)
            self.assertIs(type(answer), list)
            self.assertEqual({type(number) for number in answer}, {int})

    def test_lists_are_not_changed_not_for_a_while_either(self):
        for n, s, t, order in self.CALLS:
            rules, towers = Untouchable(t), Untouchable(order)
            self.ask(n, s, rules, towers)
            self.assertEqual((list(rules), list(towers)), (t, order))

    def test_nothing_is_kept(self):
        first = [self.ask(n, s, list(t), list(order)) for n, s, t, order in self.CALLS]
        again = [self.ask(n, s, list(t), list(order)) for n, s, t, order in self.CALLS]
        backwards = [self.ask(n, s, list(t), list(order)) for n, s, t, order in reversed(self.CALLS)]
        self.assertEqual(again, first)
        self.assertEqual(backwards[::-1], first)

    def test_what_is_done_to_lists_later_leaves_no_trace(self):
        for n, s, t, order in self.CALLS:
            rules, towers = list(t), list(order)
            answer = self.ask(n, s, rules, towers)
            expected = list(answer)
            answer.append(99)
            answer[0] = 98
            self.assertEqual((rules, towers), (t, order))
            self.assertEqual(self.ask(n, s, rules, towers), expected)
            rules.append(0)
            self.assertEqual(self.ask(n, s, rules, towers), [-22])

    def test_nothing_is_printed(self):
        out, err = io.StringIO(), io.StringIO()
        with contextlib.redirect_stdout(out), contextlib.redirect_stderr(err):
            for n, s, t, order in self.CALLS:
                self.ask(n, s, t, order)
        self.assertEqual(out.getvalue() + err.getvalue(), "")
