import itertools
import unittest

from tests.helper import (ALL_STAY, GREATEST_RULE, PlainCalling, StateRefusals, TowersRefusals, orders_of,
                          scattered_rules, scattered_rules_one_flag_short_of_rest, scattered_rules_that_watch_few,
                          states_at_rest, states_of, states_that_passes_bring)
from towersrest.desk import brings, pass_of


def from_each_state(n, t):
    return [brings(n, s, t) for s in states_of(n)]


class Ordinary(unittest.TestCase):
    def hold_each_state(self, n, t):
        for s in states_of(n):
            brought = states_that_passes_bring(n, s, t)
            self.assertEqual(brings(n, s, t), [len(brought)] + brought, (n, s, t))

    def test_written_answers(self):
        # Each of two shows the other's flag: who acts first takes over what the other shows.
        self.assertEqual(from_each_state(2, [12, 10]), [[1, 0], [2, 0, 3], [2, 0, 3], [1, 3]])
        # Tower 0 is held up, tower 1 shows it.
        self.assertEqual(from_each_state(2, [15, 10]), [[2, 1, 3], [1, 3], [2, 1, 3], [1, 3]])
        # Each of three shows the flag of the next in the ring.
        self.assertEqual(brings(3, 1, [204, 240, 170]), [4, 0, 4, 6, 7])
        self.assertEqual(brings(3, 6, [204, 240, 170]), [4, 0, 1, 3, 7])
        # Tower 0 stays, each other shows the flag of the one numbered just below it.
        self.assertEqual(brings(4, 1, [43690, 43690, 52428, 61680]), [3, 3, 7, 15])
        self.assertEqual(brings(4, 14, [43690, 43690, 52428, 61680]), [3, 0, 8, 12])

    def test_each_t_of_one_and_of_two_towers(self):
        for n in (1, 2):
            for t in itertools.product(range(GREATEST_RULE[n] + 1), repeat=n):
                self.hold_each_state(n, list(t))

    def test_scattered_t_of_three_and_of_four_towers(self):
        for n, count in ((3, 400), (4, 60)):
            for t in scattered_rules(n, count, 100 + n):
                self.hold_each_state(n, t)
            for t in scattered_rules_that_watch_few(n, count, 110 + n):
                self.hold_each_state(n, t)

    def test_what_pass_of_brings_in_one_order_or_another(self):
        for n, count in ((1, 4), (2, 30), (3, 30), (4, 15)):
            for t in scattered_rules(n, count, 130 + n):
                for s in states_of(n):
                    passes = [pass_of(n, s, t, order)[0] for order in orders_of(n)]
                    self.assertEqual(brings(n, s, t)[1:], sorted(set(passes)), (n, s, t))

    def test_each_state_is_told_once_and_they_rise(self):
        for n, count in ((2, 50), (3, 50), (4, 20)):
            for t in scattered_rules(n, count, 150 + n):
                for count_first, *told in from_each_state(n, t):
                    self.assertEqual(len(told), count_first)
                    self.assertTrue(all(lesser < greater for lesser, greater in zip(told, told[1:])), told)
                    self.assertTrue(0 <= told[0] and told[-1] < 2 ** n, told)

    def test_several_orders_bring_one_state(self):
        # All are held: from wherever, each of the 1, 2, 6, 24 orders brings the same.
        for n in (1, 2, 3, 4):
            for shown in states_of(n):
                t = [GREATEST_RULE[n] if shown >> tower & 1 else 0 for tower in range(n)]
                self.assertEqual(from_each_state(n, t), [[1, shown]] * 2 ** n)


class Corners(unittest.TestCase):
    def test_one_tower(self):
        self.assertEqual(from_each_state(1, [0]), [[1, 0], [1, 0]])
        self.assertEqual(from_each_state(1, [1]), [[1, 1], [1, 0]])
        self.assertEqual(from_each_state(1, [2]), [[1, 0], [1, 1]])
        self.assertEqual(from_each_state(1, [3]), [[1, 1], [1, 1]])

    def test_a_state_at_rest(self):
        for n, t in ALL_STAY.items():
            self.assertEqual(from_each_state(n, t), [[1, s] for s in states_of(n)])
        for n, count in ((1, 20), (2, 60), (3, 60), (4, 60)):
            for t in scattered_rules(n, count, 170 + n):
                for s in states_at_rest(n, t):
                    self.assertEqual(brings(n, s, t), [1, s])

    def test_one_flag_alone_would_change_and_then_none(self):
        # Towers 1 and 2 stay, tower 0 is held up.
        self.assertEqual(brings(3, 4, [255, 204, 240]), [1, 5])
        for n, count in ((1, 2), (2, 10), (3, 10), (4, 5)):
            for s in states_of(n):
                for tower in range(n):
                    for t in scattered_rules_one_flag_short_of_rest(n, s, tower, count, 190 + s):
                        self.assertEqual(brings(n, s, t), [1, s ^ 2 ** tower], (n, s, t))

    def test_one_flag_alone_would_change_but_then_another(self):
        # State 0 brings 1, and that 3, which stays: tower 1 gets its turn behind tower 0 in one order alone.
        self.assertEqual(brings(2, 0, [15, 10]), [2, 1, 3])

    def test_two_that_turn_each_other(self):
        # Each is up if the other is down: who acts first has its way.
        self.assertEqual(from_each_state(2, [3, 5]), [[2, 1, 2], [1, 1], [1, 2], [2, 1, 2]])
        # One shows the other, which shows it turned over.
        self.assertEqual(from_each_state(2, [12, 5]), [[2, 2, 3], [2, 0, 2], [2, 1, 3], [2, 0, 1]])

    def test_many_orders_bring_different_states(self):
        self.assertEqual(brings(3, 1, [23, 7, 218]), [5, 2, 4, 5, 6, 7])
        answer = brings(4, 4, [48827, 14885, 59693, 44374])
        self.assertEqual(answer, [12, 1, 2, 3, 5, 7, 8, 9, 10, 11, 13, 14, 15])

    def test_none_ever(self):
        # A tower turns its own flag, the others stay: there is no rest, but always a state that comes.
        for n, t in ALL_STAY.items():
            for place in range(n):
                turning = list(t)
                turning[place] = GREATEST_RULE[n] - t[place]
                self.assertEqual(from_each_state(n, turning), [[1, s ^ 2 ** place] for s in states_of(n)])


class Refusals(TowersRefusals, StateRefusals, unittest.TestCase):
    call = staticmethod(brings)
    names = ["n", "s", "t"]

    def test_the_greatest_rule_and_the_greatest_state(self):
        self.assertEqual(brings(1, 1, [3]), [1, 1])
        self.assertEqual(brings(2, 3, [15, 15]), [1, 3])
        self.assertEqual(brings(3, 7, [255, 255, 255]), [1, 7])
        self.assertEqual(brings(4, 15, [65535, 65535, 65535, 65535]), [1, 15])

    def test_one_more_than_the_greatest(self):
        for n, s, rule in ((1, 2, 4), (2, 4, 16), (3, 8, 256), (4, 16, 65536)):
            self.assertEqual(brings(n, s, [rule - 1] * n), [-22])
            self.assertEqual(brings(n, s - 1, [rule] * n), [-22])
            self.assertEqual(brings(n, s - 1, [rule - 1] * n), [1, s - 1])


class Calling(PlainCalling, unittest.TestCase):
    call = staticmethod(brings)
    names = ["n", "s", "t"]


if __name__ == "__main__":
    unittest.main()
