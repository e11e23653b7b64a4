"""What the document promises over the whole program, held through the functions of its interface alone."""

import importlib
import itertools
import unittest

from tests.helper import (ALL_STAY, GREATEST_RULE, orders_of, orders_with_the_watched_ahead, rule_watching,
                          scattered_rules, scattered_rules_in_an_order, scattered_rules_one_flag_short_of_rest,
                          scattered_rules_that_watch_few, state_all_at_once, states_of)
from towersrest.desk import best, brings, pass_of, rests, sweeps


def rules_of_all_kinds():
    """Each t of one and of two towers, and scattered ones of three and of four."""
    for n in (1, 2):
        for t in itertools.product(range(GREATEST_RULE[n] + 1), repeat=n):
            yield n, list(t)
    for n, count in ((3, 60), (4, 12)):
        for t in scattered_rules(n, count, 210 + n) + scattered_rules_that_watch_few(n, count, 220 + n):
            yield n, t


class APassChangesNothingJustAtRest(unittest.TestCase):
    def test_in_any_order(self):
        for n, t in rules_of_all_kinds():
            resting = rests(n, t)[1:]
            for s in states_of(n):
                for order in orders_of(n):
                    self.assertEqual(pass_of(n, s, t, order) == [s], s in resting, (n, s, t, order))
                    self.assertEqual(sweeps(n, s, t, order) == [0, s], s in resting, (n, s, t, order))

    def test_a_pass_may_bring_what_it_began_with_just_at_rest(self):
        for n, t in rules_of_all_kinds():
            resting = rests(n, t)[1:]
            for s in states_of(n):
                brought = brings(n, s, t)
                self.assertEqual(s in brought[1:], s in resting, (n, s, t))
                self.assertEqual(brought == [1, s], s in resting, (n, s, t))

    def test_at_rest_is_a_state_that_comes_of_itself_all_at_once(self):
        for n, t in rules_of_all_kinds():
            own = [s for s in states_of(n) if state_all_at_once(n, s, t) == s]
            self.assertEqual(rests(n, t), [len(own)] + own, (n, t))


class NoTowerHangsOnItself(unittest.TestCase):
    def hold(self, n, t):
        orders = orders_with_the_watched_ahead(n, t)
        resting = rests(n, t)[1:]
        for order in orders:
            for s in states_of(n):
                passes, rest = sweeps(n, s, t, order)
                self.assertEqual(passes, 0 if s in resting else 1, (n, s, t, order))
                self.assertEqual(pass_of(n, s, t, order), [rest])
                self.assertIn(rest, brings(n, s, t)[1:])
        if orders:
            self.assertGreaterEqual(best(n, t)[0], len(orders), (n, t))
            self.assertLessEqual(best(n, t)[1:], min(orders), (n, t))
        return len(orders)

    def test_each_t_of_one_and_of_two_towers(self):
        held = [self.hold(n, list(t)) for n in (1, 2)
                for t in itertools.product(range(GREATEST_RULE[n] + 1), repeat=n)]
        # One tower held, 2 ways; two held, 4 ways; one held and one that watches it, 2 times 2 ways for either.
        self.assertEqual(len([count for count in held if count]), 2 + 4 + 4 + 4)

    def test_scattered_t_of_three_and_of_four_towers(self):
        for n, count in ((3, 10), (4, 3)):
            for order in orders_of(n):
                for t in scattered_rules_in_an_order(order, count, 230 + n):
                    self.assertGreaterEqual(self.hold(n, t), 1)

    def test_another_order_may_need_more_passes(self):
        # Tower 0 is held up, each other shows the one numbered just below it: against the order, a pass each.
        for n in (1, 2, 3, 4):
            t = [GREATEST_RULE[n]] + [rule_watching(n, [tower - 1], 2) for tower in range(1, n)]
            self.assertEqual(sweeps(n, 0, t, list(range(n))), [1, 2 ** n - 1])
            self.assertEqual(sweeps(n, 0, t, list(range(n))[::-1]), [n, 2 ** n - 1])
            self.assertEqual(best(n, t), [1] + list(range(n)))


class OneFlagAloneWouldChangeAndThenNone(unittest.TestCase):
    def hold(self, n, s, t, brought):
        self.assertEqual(brings(n, s, t), [1, brought], (n, s, t))
        for order in orders_of(n):
            self.assertEqual(pass_of(n, s, t, order), [brought], (n, s, t, order))
            self.assertEqual(sweeps(n, s, t, order), [1, brought], (n, s, t, order))

    def test_wherever_it_is_so(self):
        met = 0
        for n, t in rules_of_all_kinds():
            for s in states_of(n):
                brought = state_all_at_once(n, s, t)
                if (brought ^ s).bit_count() == 1 and brought in rests(n, t)[1:]:
                    self.hold(n, s, t, brought)
                    met += 1
        self.assertGreater(met, 100)

    def test_rules_made_for_it(self):
        for n, count in ((1, 2), (2, 5), (3, 5), (4, 2)):
            for s in states_of(n):
                for tower in range(n):
                    for t in scattered_rules_one_flag_short_of_rest(n, s, tower, count, 240 + s):
                        self.hold(n, s, t, s ^ 2 ** tower)


class FewerPassesThanStatesOrNever(unittest.TestCase):
    def test_gone_through_pass_by_pass(self):
        for n, t in rules_of_all_kinds():
            resting = rests(n, t)[1:]
            for s in states_of(n):
                for order in orders_of(n):
                    self.hold(n, s, t, order, resting)

    def hold(self, n, s, t, order, resting):
        answer = sweeps(n, s, t, order)
        if answer == [-33]:
            for _ in range(2 ** n + 1):
                self.assertNotIn(s, resting)
                s = pass_of(n, s, t, order)[0]
            return
        passes, rest = answer
        self.assertLess(passes, 2 ** n)
        for _ in range(passes):
            self.assertNotIn(s, resting)
            s = pass_of(n, s, t, order)[0]
        self.assertEqual(s, rest)
        self.assertIn(rest, resting)


class BestAsTheOthersTellIt(unittest.TestCase):
    def test_rest_comes_behind_one_pass_at_most_in_just_these_orders(self):
        for n, t in rules_of_all_kinds():
            enough = [order for order in orders_of(n)
                      if all(sweeps(n, s, t, order)[0] in (0, 1) for s in states_of(n))]
            self.assertEqual(best(n, t), [len(enough)] + enough[0] if enough else [-33], (n, t))


class Corners(unittest.TestCase):
    def test_one_tower(self):
        told = {
            0: ([1, 0], [[0], [0]], [[0, 0], [1, 0]], [1, 0], [[1, 0], [1, 0]]),
            1: ([0], [[1], [0]], [[-33], [-33]], [-33], [[1, 1], [1, 0]]),
            2: ([2, 0, 1], [[0], [1]], [[0, 0], [0, 1]], [1, 0], [[1, 0], [1, 1]]),
            3: ([1, 1], [[1], [1]], [[1, 1], [0, 1]], [1, 0], [[1, 1], [1, 1]]),
        }
        for rule, (resting, passed, swept, in_orders, brought) in told.items():
            self.assertEqual(rests(1, [rule]), resting)
            self.assertEqual([pass_of(1, s, [rule], [0]) for s in (0, 1)], passed)
            self.assertEqual([sweeps(1, s, [rule], [0]) for s in (0, 1)], swept)
            self.assertEqual(best(1, [rule]), in_orders)
            self.assertEqual([brings(1, s, [rule]) for s in (0, 1)], brought)

    def test_all_at_rest(self):
        for n, t in ALL_STAY.items():
            self.assertEqual(rests(n, t), [2 ** n] + states_of(n))
            self.assertEqual(best(n, t), [len(orders_of(n))] + list(range(n)))
            for s in states_of(n):
                self.assertEqual(brings(n, s, t), [1, s])
                for order in orders_of(n):
                    self.assertEqual(pass_of(n, s, t, order), [s])
                    self.assertEqual(sweeps(n, s, t, order), [0, s])

    def test_none_ever(self):
        for n, t in ALL_STAY.items():
            for tower in range(n):
                turning = list(t)
                turning[tower] = GREATEST_RULE[n] - t[tower]
                self.assertEqual(rests(n, turning), [0])
                self.assertEqual(best(n, turning), [-33])
                for s in states_of(n):
                    self.assertEqual(brings(n, s, turning), [1, s ^ 2 ** tower])
                    for order in orders_of(n):
                        self.assertEqual(pass_of(n, s, turning, order), [s ^ 2 ** tower])
                        self.assertEqual(sweeps(n, s, turning, order), [-33])

    def test_two_that_turn_each_other(self):
        t = [3, 5]
        self.assertEqual(rests(2, t), [2, 1, 2])
        self.assertEqual((pass_of(2, 0, t, [0, 1]), pass_of(2, 0, t, [1, 0])), ([1], [2]))
        self.assertEqual((sweeps(2, 3, t, [0, 1]), sweeps(2, 3, t, [1, 0])), ([1, 2], [1, 1]))
        self.assertEqual(best(2, t), [2, 0, 1])
        self.assertEqual([brings(2, s, t) for s in states_of(2)], [[2, 1, 2], [1, 1], [1, 2], [2, 1, 2]])

    def test_an_order_that_never_rests_where_another_does(self):
        ring = [204, 240, 170]
        self.assertEqual(rests(3, ring), [2, 0, 7])
        self.assertEqual(sweeps(3, 2, ring, [0, 1, 2]), [-33])
        self.assertEqual(sweeps(3, 2, ring, [0, 2, 1]), [1, 7])
        self.assertEqual(sweeps(3, 2, ring, [2, 1, 0]), [1, 0])
        self.assertEqual(best(3, ring), [3, 0, 2, 1])
        self.assertEqual(brings(3, 2, ring), [4, 0, 1, 5, 7])

    def test_a_pass_that_brings_back_what_was(self):
        # Tower 0 shows 1, tower 1 shows 0 turned over: a second pass brings back what was ahead of the first.
        t = [12, 5]
        for order in ([0, 1], [1, 0]):
            for s in (1, 2) if order == [0, 1] else (0, 3):
                between = pass_of(2, s, t, order)[0]
                self.assertNotEqual(between, s)
                self.assertEqual(pass_of(2, between, t, order), [s])
                self.assertEqual(sweeps(2, s, t, order), [-33])
        self.assertEqual((rests(2, t), best(2, t)), ([0], [-33]))


class Interface(unittest.TestCase):
    CALLS = {"rests": (2, [3, 5]), "pass_of": (2, 0, [3, 5], [0, 1]), "sweeps": (2, 0, [3, 5], [0, 1]),
             "best": (2, [3, 5]), "brings": (2, 0, [3, 5])}

    def test_the_functions_are_there_by_their_names(self):
        desk = importlib.import_module("towersrest.desk")
        answers = {name: getattr(desk, name)(*handed) for name, handed in self.CALLS.items()}
        self.assertEqual(answers, {"rests": [2, 1, 2], "pass_of": [1], "sweeps": [1, 1], "best": [2, 0, 1],
                                   "brings": [2, 1, 2]})

    def test_nothing_but_a_refusal_is_below_0(self):
        for n, t in rules_of_all_kinds():
            answers = [rests(n, t), best(n, t)] + [brings(n, s, t) for s in states_of(n)]
            answers += [call(n, s, t, order) for call in (pass_of, sweeps) for s in states_of(n)
                        for order in (list(range(n)), list(range(n))[::-1])]
            for answer in answers:
                self.assertTrue(answer == [-33] or min(answer) >= 0, (n, t, answer))

    def test_one_call_leaves_nothing_for_another(self):
        def ask_all():
            ring = [204, 240, 170]
            return [rests(3, ring), pass_of(3, 2, ring, [2, 1, 0]), sweeps(3, 2, ring, [0, 1, 2]), best(3, ring),
                    brings(3, 2, ring), rests(2, [0]), pass_of(1, 0, [0], []), sweeps(1, 0, [1], [0]),
                    best(0, []), brings(1, 2, [0]), best(4, ALL_STAY[4]), brings(4, 5, ALL_STAY[4])]

        first = ask_all()
        for answer in ask_all():
            answer.append(99)
            answer.reverse()
        self.assertEqual(ask_all(), first)


if __name__ == "__main__":
    unittest.main()
