import itertools
import unittest

from tests.helper import (ALL_STAY, GREATEST_RULE, OrderRefusals, PlainCalling, StateRefusals, TowersRefusals,
                          orders_of, scattered_rules, state_behind_pass, states_at_rest, states_of)
from towersrest.desk import pass_of


def rules_for_what_holds():
    """Each t of one and of two towers, and scattered ones of three and of four."""
    for n in (1, 2):
        for t in itertools.product(range(GREATEST_RULE[n] + 1), repeat=n):
            yield n, list(t)
    for n, count in ((3, 200), (4, 40)):
        for t in scattered_rules(n, count, 500 + n):
            yield n, t


class Ordinary(unittest.TestCase):
    def hold_each_state_and_order(self, n, t):
        for s in states_of(n):
            for order in orders_of(n):
                self.assertEqual(pass_of(n, s, t, order), [state_behind_pass(s, t, order)], (n, s, t, order))

    def test_written_answers(self):
        # Each of two shows the other's flag: who acts first takes over what the other shows.
        self.assertEqual(pass_of(2, 1, [12, 10], [0, 1]), [0])
        self.assertEqual(pass_of(2, 1, [12, 10], [1, 0]), [3])
        # Three towers, each of which shows the flag of the one behind it in the ring.
        self.assertEqual(pass_of(3, 1, [240, 170, 204], [0, 1, 2]), [0])
        self.assertEqual(pass_of(3, 1, [240, 170, 204], [2, 1, 0]), [2])
        self.assertEqual(pass_of(3, 1, [240, 170, 204], [1, 2, 0]), [7])

    def test_each_tower_acts_on_the_state_as_those_ahead_of_it_left_it(self):
        # Tower 0 stays, each other shows the flag of the one numbered just below it.
        chain = [43690, 43690, 52428, 61680]
        self.assertEqual(pass_of(4, 1, chain, [0, 1, 2, 3]), [15])
        self.assertEqual(pass_of(4, 1, chain, [1, 3, 2, 0]), [7])
        self.assertEqual(pass_of(4, 1, chain, [3, 2, 1, 0]), [3])
        self.assertEqual(pass_of(4, 14, chain, [0, 1, 2, 3]), [0])
        self.assertEqual(pass_of(4, 14, chain, [3, 2, 1, 0]), [12])

    def test_order_names_towers_and_not_their_turns(self):
        # Tower 2 shows 0, tower 0 shows 1, tower 1 shows 2.
        self.assertEqual(pass_of(3, 1, [204, 240, 170], [2, 1, 0]), [7])
        self.assertEqual(pass_of(3, 1, [204, 240, 170], [2, 0, 1]), [6])
        self.assertEqual(pass_of(3, 1, [204, 240, 170], [1, 2, 0]), [4])

    def test_each_t_of_one_and_of_two_towers(self):
        for n in (1, 2):
            for t in itertools.product(range(GREATEST_RULE[n] + 1), repeat=n):
                self.hold_each_state_and_order(n, list(t))

    def test_scattered_t_of_three_and_of_four_towers(self):
        for n, count in ((3, 300), (4, 60)):
            for t in scattered_rules(n, count, n):
                self.hold_each_state_and_order(n, t)


class Corners(unittest.TestCase):
    def test_one_tower(self):
        for rule, brought in ((0, (0, 0)), (1, (1, 0)), (2, (0, 1)), (3, (1, 1))):
            self.assertEqual(pass_of(1, 0, [rule], [0]), [brought[0]])
            self.assertEqual(pass_of(1, 1, [rule], [0]), [brought[1]])

    def test_all_at_rest(self):
        for n, t in ALL_STAY.items():
            for s in states_of(n):
                for order in orders_of(n):
                    self.assertEqual(pass_of(n, s, t, order), [s])

    def test_two_that_turn_each_other(self):
        # Each is up if the other is down.
        self.assertEqual([pass_of(2, s, [3, 5], [0, 1]) for s in range(4)], [[1], [1], [2], [2]])
        self.assertEqual([pass_of(2, s, [3, 5], [1, 0]) for s in range(4)], [[2], [1], [2], [1]])

    def test_a_pass_that_brings_back_what_was(self):
        self.assertEqual(pass_of(1, pass_of(1, 0, [1], [0])[0], [1], [0]), [0])
        # Tower 0 shows 1, tower 1 shows 0 turned over.
        self.assertEqual(pass_of(2, 2, [12, 5], [0, 1]), [1])
        self.assertEqual(pass_of(2, 1, [12, 5], [0, 1]), [2])
        self.assertEqual(pass_of(2, 0, [12, 5], [1, 0]), [3])
        self.assertEqual(pass_of(2, 3, [12, 5], [1, 0]), [0])


class WhatHolds(unittest.TestCase):
    def test_a_pass_changes_nothing_just_if_it_is_at_rest(self):
        for n, t in rules_for_what_holds():
            resting = states_at_rest(n, t)
            for s in states_of(n):
                for order in orders_of(n):
                    self.assertEqual(pass_of(n, s, t, order) == [s], s in resting, (n, s, t, order))


class Refusals(TowersRefusals, StateRefusals, OrderRefusals, unittest.TestCase):
    call = staticmethod(pass_of)
    names = ["n", "s", "t", "order"]


class Calling(PlainCalling, unittest.TestCase):
    call = staticmethod(pass_of)
    names = ["n", "s", "t", "order"]


if __name__ == "__main__":
    unittest.main()
