import itertools
import unittest

from tests.helper import (ALL_STAY, GREATEST_RULE, OrderRefusals, PlainCalling, StateRefusals, TowersRefusals,
                          orders_of, scattered_rules, state_behind_pass, states_at_rest, states_of,
                          sweeps_from_each_state)
from towersrest.desk import sweeps

# Rules, an order, and the state from which rest comes only when all other states have come.
LONGEST = {
    1: ([0], [0], 1),
    2: ([1, 6], [0, 1], 1),
    3: ([93, 153, 224], [0, 1, 2], 4),
    4: ([42602, 12691, 30930, 59033], [0, 1, 2, 3], 7),
}


def from_each_state(n, t, order):
    return [sweeps(n, s, t, order) for s in states_of(n)]


class Ordinary(unittest.TestCase):
    def hold_each_state_and_order(self, n, t):
        for order in orders_of(n):
            self.assertEqual(from_each_state(n, t, order), sweeps_from_each_state(n, t, order), (n, t, order))

    def test_written_answers(self):
        # Each of two shows the other's flag.
        self.assertEqual(sweeps(2, 1, [12, 10], [0, 1]), [1, 0])
        self.assertEqual(sweeps(2, 1, [12, 10], [1, 0]), [1, 3])
        # Tower 0 stays, each other shows the flag of the one numbered just below it.
        chain = [43690, 43690, 52428, 61680]
        self.assertEqual(sweeps(4, 1, chain, [0, 1, 2, 3]), [1, 15])
        self.assertEqual(sweeps(4, 1, chain, [1, 3, 2, 0]), [2, 15])
        self.assertEqual(sweeps(4, 1, chain, [3, 2, 1, 0]), [3, 15])
        self.assertEqual(sweeps(4, 14, chain, [3, 2, 1, 0]), [3, 0])
        self.assertEqual(sweeps(4, 9, chain, [3, 2, 1, 0]), [3, 15])

    def test_each_t_of_one_and_of_two_towers(self):
        for n in (1, 2):
            for t in itertools.product(range(GREATEST_RULE[n] + 1), repeat=n):
                self.hold_each_state_and_order(n, list(t))

    def test_scattered_t_of_three_and_of_four_towers(self):
        for n, count in ((3, 300), (4, 60)):
            for t in scattered_rules(n, count, 900 + n):
                self.hold_each_state_and_order(n, t)


class Corners(unittest.TestCase):
    def test_one_tower(self):
        self.assertEqual(from_each_state(1, [0], [0]), [[0, 0], [1, 0]])
        self.assertEqual(from_each_state(1, [1], [0]), [[-33], [-33]])
        self.assertEqual(from_each_state(1, [2], [0]), [[0, 0], [0, 1]])
        self.assertEqual(from_each_state(1, [3], [0]), [[1, 1], [0, 1]])

    def test_a_state_that_is_at_rest_already(self):
        for n, count in ((2, 60), (3, 60), (4, 60)):
            for t in scattered_rules(n, count, 40 + n):
                for s in states_at_rest(n, t):
                    for order in orders_of(n):
                        self.assertEqual(sweeps(n, s, t, order), [0, s])

    def test_all_at_rest(self):
        for n, t in ALL_STAY.items():
            for order in orders_of(n):
                self.assertEqual(from_each_state(n, t, order), [[0, s] for s in states_of(n)])

    def test_none_ever(self):
        for n, t in ALL_STAY.items():
            for place in range(n):
                turning = list(t)
                turning[place] = GREATEST_RULE[n] - t[place]
                for order in orders_of(n):
                    self.assertEqual(from_each_state(n, turning, order), [[-33]] * 2 ** n)

    def test_two_that_turn_each_other(self):
        # Each is up if the other is down.
        self.assertEqual(from_each_state(2, [3, 5], [0, 1]), [[1, 1], [0, 1], [0, 2], [1, 2]])
        self.assertEqual(from_each_state(2, [3, 5], [1, 0]), [[1, 2], [0, 1], [0, 2], [1, 1]])
        # One shows the other, which shows it turned over.
        for t in ([12, 5], [3, 10]):
            for order in ([0, 1], [1, 0]):
                self.assertEqual(from_each_state(2, t, order), [[-33]] * 4)

    def test_an_order_that_never_rests_where_another_does(self):
        self.assertEqual(sweeps(2, 2, [14, 2], [0, 1]), [-33])
        self.assertEqual(sweeps(2, 2, [14, 2], [1, 0]), [1, 0])
        # Three towers, each of which shows the flag of the one behind it in the ring.
        self.assertEqual(sweeps(3, 1, [240, 170, 204], [2, 1, 0]), [-33])
        self.assertEqual(sweeps(3, 1, [240, 170, 204], [0, 1, 2]), [1, 0])
        self.assertEqual(sweeps(3, 1, [240, 170, 204], [1, 2, 0]), [1, 7])

    def test_a_pass_that_brings_back_what_was_is_no_rest(self):
        self.assertEqual(state_behind_pass(1, [12, 5], [0, 1]), 2)
        self.assertEqual(state_behind_pass(2, [12, 5], [0, 1]), 1)
        self.assertEqual(sweeps(2, 1, [12, 5], [0, 1]), [-33])

    def test_many_passes_are_needed(self):
        # 1 brings 0, that brings 3, that brings 2.
        self.assertEqual(sweeps(2, 1, [1, 6], [0, 1]), [3, 2])
        self.assertEqual(sweeps(3, 4, *LONGEST[3][:2]), [7, 3])
        self.assertEqual(sweeps(4, 7, *LONGEST[4][:2]), [15, 9])
        for n, (t, order, farthest) in LONGEST.items():
            passes = 2 ** n - 1
            s = farthest
            for left in range(passes, 0, -1):
                self.assertEqual(sweeps(n, s, t, order)[0], left)
                s = state_behind_pass(s, t, order)
            self.assertEqual(sweeps(n, s, t, order), [0, s])


class WhatHolds(unittest.TestCase):
    def test_rest_comes_behind_fewer_passes_than_there_are_states_or_never(self):
        for n, count in ((1, 20), (2, 100), (3, 100), (4, 20)):
            for t in scattered_rules(n, count, 300 + n):
                for order in orders_of(n):
                    for s in states_of(n):
                        self.hold(n, s, t, order)

    def hold(self, n, s, t, order):
        """Gone through by passes, far beyond as many as there are states."""
        resting = states_at_rest(n, t)
        way = [s]
        for _ in range(2 ** n + 5):
            way.append(state_behind_pass(way[-1], t, order))
        passes = [k for k, state in enumerate(way) if state in resting]
        if passes:
            self.assertLess(passes[0], 2 ** n)
            self.assertEqual(sweeps(n, s, t, order), [passes[0], way[passes[0]]], (n, s, t, order))
        else:
            self.assertEqual(sweeps(n, s, t, order), [-33], (n, s, t, order))


class Refusals(TowersRefusals, StateRefusals, OrderRefusals, unittest.TestCase):
    call = staticmethod(sweeps)
    names = ["n", "s", "t", "order"]

    def test_minus_22_comes_ahead_of_minus_33(self):
        # One tower that turns its own flag never comes to rest.
        self.assertEqual(sweeps(1, 0, [1], [0]), [-33])
        self.refused(0, 0, [1], [0])
        self.refused(2, 0, [1], [0])
        self.refused(1, 2, [1], [0])
        self.refused(1, 0, [1, 1], [0])
        self.refused(1, 0, [4], [0])
        self.refused(1, 0, [1], [])
        self.refused(1, 0, [1], [1])
        self.refused(1, 0, [1], [0, 0])


class Calling(PlainCalling, unittest.TestCase):
    call = staticmethod(sweeps)
    names = ["n", "s", "t", "order"]


if __name__ == "__main__":
    unittest.main()
