import itertools
import unittest

from tests.helper import (ALL_STAY, GREATEST_RULE, PlainCalling, TowersRefusals, orders_of,
                          orders_that_bring_rest_at_once, orders_with_the_watched_ahead, rule_watching,
                          rules_that_bring, scattered_rules, scattered_rules_in_an_order,
                          scattered_rules_that_watch_few, state_behind_pass, states_at_rest, states_of)
from towersrest.desk import best, pass_of, rests, sweeps

SHOWING, TURNING = 2, 1  # the tables of a rule that watches one tower: up if that is, or up if that is not


def answer_for(orders):
    # Python puts the list with the lesser number, where two first differ, first.
    return [len(orders)] + min(orders) if orders else [-33]


def chain_of(order, head, links):
    """The order's first tower is held as head says, each other watches the one ahead of it as its link says."""
    n = len(order)
    t = [GREATEST_RULE[n] * head] * n
    for ahead, tower, link in zip(order, order[1:], links):
        t[tower] = rule_watching(n, [ahead], link)
    return t


def all_chains_of(order):
    for head in (0, 1):
        for links in itertools.product((SHOWING, TURNING), repeat=len(order) - 1):
            yield chain_of(order, head, links)


class Ordinary(unittest.TestCase):
    def hold(self, n, t):
        self.assertEqual(best(n, t), answer_for(orders_that_bring_rest_at_once(n, t)), (n, t))

    def test_written_answers(self):
        # One is held up, the other shows it.
        self.assertEqual(best(2, [15, 10]), [1, 0, 1])
        self.assertEqual(best(2, [12, 15]), [1, 1, 0])
        # Each of three shows the flag of the next in the ring, one way round and the other.
        self.assertEqual(best(3, [240, 170, 204]), [3, 0, 1, 2])
        self.assertEqual(best(3, [204, 240, 170]), [3, 0, 2, 1])
        # Tower 0 shows 1, or shows 3; all others are held.
        self.assertEqual(best(4, [52428, 0, 65535, 65535]), [12, 1, 0, 2, 3])
        self.assertEqual(best(4, [65280, 0, 65535, 0]), [12, 1, 2, 3, 0])
        # Towers 0 and 1 show 3, and towers 2 and 3 are held.
        self.assertEqual(best(4, [65280, 65280, 0, 65535]), [8, 2, 3, 0, 1])

    def test_each_t_of_one_and_of_two_towers(self):
        for n in (1, 2):
            for t in itertools.product(range(GREATEST_RULE[n] + 1), repeat=n):
                self.hold(n, list(t))

    def test_scattered_t_of_three_and_of_four_towers(self):
        for n, count in ((3, 1500), (4, 150)):
            for t in scattered_rules(n, count, 600 + n):
                self.hold(n, t)

    def test_scattered_t_of_towers_that_watch_few(self):
        counts = set()
        for n, count in ((3, 800), (4, 400)):
            for t in scattered_rules_that_watch_few(n, count, 700 + n):
                self.hold(n, t)
                counts.add((n, len(orders_that_bring_rest_at_once(n, t))))
        # The t above are no test if they are all alike.
        self.assertLessEqual({(3, count) for count in range(7)}, counts)
        self.assertGreaterEqual(len({count for n, count in counts if n == 4}), 12)


class FromEachState(unittest.TestCase):
    def test_rest_from_some_states_is_not_enough(self):
        # From states 2 and 3 a pass of tower 0, then tower 1, brings rest; from 0 and 1 it doesn't.
        self.assertEqual([pass_of(2, s, [1, 6], [0, 1]) for s in range(4)], [[3], [0], [2], [2]])
        self.assertEqual([pass_of(2, s, [1, 6], [1, 0]) for s in range(4)], [[1], [2], [2], [0]])
        self.assertEqual(rests(2, [1, 6]), [1, 2])
        self.assertEqual(best(2, [1, 6]), [-33])

    def test_one_state_alone_speaks_against_an_order(self):
        """All stay, but from state s it takes a turn of `first`, and only behind that one of `second`."""
        for n in (2, 3, 4):
            for s in states_of(n):
                for first, second in itertools.permutations(range(n), 2):
                    brought = states_of(n)
                    between = s ^ 2 ** first
                    brought[s] = between
                    brought[between] = between ^ 2 ** second
                    t = rules_that_bring(brought)
                    enough = [o for o in orders_of(n) if o.index(first) < o.index(second)]
                    self.assertEqual(best(n, t), answer_for(enough), (n, t))
                    self.only_from(s, n, t, [o for o in orders_of(n) if o not in enough])

    def only_from(self, s, n, t, orders):
        resting = states_at_rest(n, t)
        for order in orders:
            short = [state for state in states_of(n) if state_behind_pass(state, t, order) not in resting]
            self.assertEqual(short, [s])


class First(unittest.TestCase):
    def test_each_order_is_the_first_somewhere(self):
        for n in (1, 2, 3, 4):
            for order in orders_of(n):
                self.assertEqual(best(n, chain_of(order, 1, [SHOWING] * (n - 1))), [1] + order)

    def test_the_lesser_tower_where_two_first_differ(self):
        # One tower shows another, which is held, as all others are: it may act anywhere behind that one.
        for n in (2, 3, 4):
            for watched, watching in itertools.permutations(range(n), 2):
                t = [0] * n
                t[watching] = rule_watching(n, [watched], SHOWING)
                first = list(range(n))
                if watching < watched:
                    first.remove(watching)
                    first.insert(first.index(watched) + 1, watching)
                self.assertEqual(best(n, t)[1:], first, (n, watched, watching))


class Corners(unittest.TestCase):
    def test_one_tower(self):
        self.assertEqual(best(1, [0]), [1, 0])
        self.assertEqual(best(1, [1]), [-33])
        self.assertEqual(best(1, [2]), [1, 0])
        self.assertEqual(best(1, [3]), [1, 0])

    def test_all_at_rest(self):
        self.assertEqual(best(1, ALL_STAY[1]), [1, 0])
        self.assertEqual(best(2, ALL_STAY[2]), [2, 0, 1])
        self.assertEqual(best(3, ALL_STAY[3]), [6, 0, 1, 2])
        self.assertEqual(best(4, ALL_STAY[4]), [24, 0, 1, 2, 3])

    def test_none_ever(self):
        for n, t in ALL_STAY.items():
            for place in range(n):
                turning = list(t)
                turning[place] = GREATEST_RULE[n] - t[place]
                self.assertEqual(best(n, turning), [-33])

    def test_two_that_turn_each_other(self):
        # Each is up if the other is down: who acts first has its way.
        self.assertEqual(best(2, [3, 5]), [2, 0, 1])
        self.assertEqual(best(2, [12, 10]), [2, 0, 1])
        # One shows the other, which shows it turned over.
        self.assertEqual(best(2, [12, 5]), [-33])
        self.assertEqual(best(2, [3, 10]), [-33])

    def test_an_order_that_never_rests_where_another_does(self):
        # The ring: in three orders one pass is enough, in the three others rest may never come.
        ring = [204, 240, 170]
        never = [order for order in orders_of(3) if [-33] in [sweeps(3, s, ring, order) for s in states_of(3)]]
        self.assertEqual(never, [[0, 1, 2], [1, 2, 0], [2, 0, 1]])
        self.assertEqual(best(3, ring), [3, 0, 2, 1])
        # Here the other order brings rest from state 2, but not from each state.
        self.assertEqual(sweeps(2, 2, [14, 2], [0, 1]), [-33])
        self.assertEqual(sweeps(2, 2, [14, 2], [1, 0]), [1, 0])
        self.assertEqual(best(2, [14, 2]), [-33])


class WhatHolds(unittest.TestCase):
    def enough(self, n, t, order):
        resting = rests(n, t)[1:]
        return all(pass_of(n, s, t, order)[0] in resting for s in states_of(n))

    def test_a_chain_in_each_order(self):
        for n in (1, 2, 3, 4):
            for order in orders_of(n):
                for t in all_chains_of(order):
                    self.assertEqual(orders_with_the_watched_ahead(n, t), [order])
                    self.assertTrue(self.enough(n, t, order), (n, t))
                    self.assertEqual(best(n, t), [1] + order, (n, t))

    def test_no_tower_hangs_on_itself(self):
        for n, count in ((1, 4), (2, 20), (3, 20), (4, 5)):
            for order in orders_of(n):
                for t in scattered_rules_in_an_order(order, count, 800 + n):
                    self.hold_in_each_order_with_the_watched_ahead(n, t, order)

    def hold_in_each_order_with_the_watched_ahead(self, n, t, made_in):
        orders = orders_with_the_watched_ahead(n, t)
        self.assertIn(made_in, orders)
        for order in orders:
            self.assertTrue(self.enough(n, t, order), (n, t, order))
        answer = best(n, t)
        self.assertGreaterEqual(answer[0], len(orders), (n, t))
        self.assertLessEqual(answer[1:], min(orders), (n, t))


class Refusals(TowersRefusals, unittest.TestCase):
    call = staticmethod(best)
    names = ["n", "t"]

    def test_minus_22_comes_ahead_of_minus_33(self):
        # A tower that turns its own flag never comes to rest.
        self.assertEqual(best(1, [1]), [-33])
        self.assertEqual(best(0, [1]), [-22])
        self.assertEqual(best(2, [1]), [-22])
        self.assertEqual(best(5, [1]), [-22])
        self.assertEqual(best(1, [1, 1]), [-22])
        self.assertEqual(best(1, [1, 4]), [-22])
        self.assertEqual(best(1, [4]), [-22])
        self.assertEqual(best(2, [5, 16]), [-22])
        self.assertEqual(best(2, [16, 3]), [-22])

    def test_the_greatest_rule(self):
        # Held up, all of them: in every order one pass is enough.
        self.assertEqual(best(1, [3]), [1, 0])
        self.assertEqual(best(2, [15, 15]), [2, 0, 1])
        self.assertEqual(best(3, [255, 255, 255]), [6, 0, 1, 2])
        self.assertEqual(best(4, [65535, 65535, 65535, 65535]), [24, 0, 1, 2, 3])


class Calling(PlainCalling, unittest.TestCase):
    call = staticmethod(best)
    names = ["n", "t"]

    def test_the_number_of_orders_then_n_towers_or_a_refusal_alone(self):
        for n in (1, 2, 3, 4):
            for t in scattered_rules_that_watch_few(n, 60, 50 + n):
                answer = best(n, t)
                if answer != [-33]:
                    self.assertIn(answer[1:], orders_of(n))
                    self.assertGreaterEqual(answer[0], 1)


if __name__ == "__main__":
    unittest.main()
