import contextlib
import inspect
import io
import itertools
import unittest

from tests.helper import (ALL_STAY, GREATEST_RULE, Untouchable, rules_that_bring, spread, states_at_rest,
                          states_of)
from towersrest.desk import rests


def answer_for(states):
    return [len(states)] + states


class Ordinary(unittest.TestCase):
    def hold(self, n, t):
        self.assertEqual(rests(n, t), answer_for(states_at_rest(n, t)), (n, t))

    def test_written_answers(self):
        self.assertEqual(rests(2, [0, 0]), [1, 0])
        self.assertEqual(rests(2, [15, 15]), [1, 3])
        self.assertEqual(rests(2, [10, 10]), [2, 0, 3])
        # Three towers, each of which shows the flag of the one behind it in the ring.
        self.assertEqual(rests(3, [240, 170, 204]), [2, 0, 7])
        # Tower 0 stays, tower 1 shows 0, tower 2 shows 1 turned over.
        self.assertEqual(rests(3, [170, 170, 51]), [2, 3, 4])
        # Towers 0 and 1 stay, 2 is up if both are, 3 if one is.
        self.assertEqual(rests(4, [43690, 52428, 34952, 61166]), [4, 0, 9, 10, 15])

    def test_tower_0_counts_one_and_comes_first(self):
        self.assertEqual(rests(4, [65535, 0, 0, 0]), [1, 1])
        self.assertEqual(rests(4, [0, 65535, 0, 0]), [1, 2])
        self.assertEqual(rests(4, [0, 0, 65535, 0]), [1, 4])
        self.assertEqual(rests(4, [0, 0, 0, 65535]), [1, 8])

    def test_each_t_of_one_and_of_two_towers(self):
        for n in (1, 2):
            for t in itertools.product(range(GREATEST_RULE[n] + 1), repeat=n):
                self.hold(n, list(t))

    def test_each_rule_in_each_place_of_three_towers(self):
        for place in range(3):
            for rule in range(256):
                t = list(ALL_STAY[3])
                t[place] = rule
                self.hold(3, t)

    def test_scattered_t_of_three_and_of_four_towers(self):
        for n, below in ((3, 256), (4, 65536)):
            numbers = spread(1500 * n, below, n)
            for start in range(0, len(numbers), n):
                self.hold(n, numbers[start:start + n])

    def test_rules_made_for_what_each_state_shall_bring(self):
        for n in (1, 2, 3, 4):
            size = 2 ** n
            numbers = spread(300 * size, size, 70 + n)
            for start in range(0, len(numbers), size):
                brought = numbers[start:start + size]
                staying = [s for s in states_of(n) if brought[s] == s]
                self.assertEqual(rests(n, rules_that_bring(brought)), answer_for(staying), brought)

    def test_just_one_state_or_all_but_one_at_rest(self):
        for n in (1, 2, 3, 4):
            last = 2 ** n - 1
            for odd in states_of(n):
                alone = [s if s == odd else last - s for s in states_of(n)]
                self.assertEqual(rests(n, rules_that_bring(alone)), [1, odd])
                others = [last - s if s == odd else s for s in states_of(n)]
                expected = answer_for([s for s in states_of(n) if s != odd])
                self.assertEqual(rests(n, rules_that_bring(others)), expected)


class Corners(unittest.TestCase):
    def test_one_tower(self):
        self.assertEqual(rests(1, [0]), [1, 0])
        self.assertEqual(rests(1, [1]), [0])
        self.assertEqual(rests(1, [2]), [2, 0, 1])
        self.assertEqual(rests(1, [3]), [1, 1])

    def test_all_at_rest(self):
        for n, t in ALL_STAY.items():
            self.assertEqual(rests(n, t), answer_for(states_of(n)))

    def test_none_ever(self):
        for n, t in ALL_STAY.items():
            for place in range(n):
                turning = list(t)
                turning[place] = GREATEST_RULE[n] - t[place]
                self.assertEqual(rests(n, turning), [0])

    def test_two_that_turn_each_other(self):
        self.assertEqual(rests(2, [12, 10]), [2, 0, 3])
        self.assertEqual(rests(2, [3, 5]), [2, 1, 2])
        self.assertEqual(rests(2, [12, 5]), [0])
        self.assertEqual(rests(2, [3, 10]), [0])


class Refusals(unittest.TestCase):
    def refused(self, n, t):
        self.assertEqual(rests(n, t), [-22], (n, t))

    def test_n_is_not_1_to_4(self):
        self.refused(0, [])
        self.refused(0, [0])
        self.refused(5, [0, 0, 0, 0, 0])
        self.refused(5, [0, 0, 0, 0])
        self.refused(10, [0] * 10)
        for length in range(11):
            self.refused(4294967295, [0] * length)

    def test_t_is_empty(self):
        for n in (1, 2, 3, 4):
            self.refused(n, [])

    def test_t_has_one_rule_too_few(self):
        for n in (1, 2, 3, 4):
            self.refused(n, [0] * (n - 1))
            self.refused(n, ALL_STAY[n][:-1])

    def test_t_has_one_rule_too_many(self):
        for n in (1, 2, 3, 4):
            self.refused(n, [0] * (n + 1))
            self.refused(n, ALL_STAY[n] + [0])

    def test_t_has_ten_rules(self):
        for n in (1, 2, 3, 4):
            self.refused(n, [0] * 10)

    def test_a_rule_is_too_great(self):
        for n in (1, 2, 3):
            for place in range(n):
                for rule in (GREATEST_RULE[n] + 1, GREATEST_RULE[n] + 2, 65535):
                    t = [0] * n
                    t[place] = rule
                    self.refused(n, t)

    def test_the_greatest_rule_is_taken(self):
        for n, rule in GREATEST_RULE.items():
            self.assertEqual(rests(n, [rule] * n), [1, 2 ** n - 1])
            for place in range(n):
                t = [0] * n
                t[place] = rule
                self.assertEqual(rests(n, t), [1, 2 ** place])

    def test_numbers_that_are_not_as_told(self):
        self.refused(-1, [0])
        self.refused(4294967296, [0])
        self.refused(4, [0] * 11)
        self.refused(4, [0, 0, 0, 65536])
        for n in (1, 2, 3, 4):
            for place in range(n):
                t = [0] * n
                t[place] = -1
                self.refused(n, t)


class Calling(unittest.TestCase):
    CALLS = [(n, t) for n, t in ALL_STAY.items()] + [(2, [3, 5]), (1, [1]), (0, []), (3, [256, 0, 0]), (2, [1] * 10)]

    def test_names_and_order_of_what_is_handed_in(self):
        parameters = inspect.signature(rests).parameters.values()
        self.assertEqual([p.name for p in parameters], ["n", "t"])
        self.assertTrue(all(p.default is inspect.Parameter.empty for p in parameters))
        self.assertEqual(rests(t=[3, 5], n=2), [2, 1, 2])

    def test_a_list_of_plain_whole_numbers_is_given_back(self):
        for n, t in self.CALLS:
            answer = rests(n, t)
            self.assertIs(type(answer), list)
            self.assertEqual({type(number) for number in answer}, {int})

    def test_t_is_not_changed_not_for_a_while_either(self):
        for n, t in self.CALLS:
            handed = Untouchable(t)
            rests(n, handed)
            self.assertEqual(list(handed), t)

    def test_nothing_is_kept(self):
        first = [rests(n, list(t)) for n, t in self.CALLS]
        again = [rests(n, list(t)) for n, t in self.CALLS]
        backwards = [rests(n, list(t)) for n, t in reversed(self.CALLS)]
        self.assertEqual(again, first)
        self.assertEqual(backwards[::-1], first)

    def test_what_is_done_to_lists_later_leaves_no_trace(self):
        for n, t in self.CALLS:
            handed = list(t)
            answer = rests(n, handed)
            expected = list(answer)
            answer.append(99)
            answer[0] = 98
            self.assertEqual(handed, t)
            self.assertEqual(rests(n, handed), expected)
        handed = [3, 5]
        rests(2, handed)
        handed[0] = 12
        self.assertEqual(rests(2, handed), [0])

    def test_nothing_is_printed(self):
        out, err = io.StringIO(), io.StringIO()
        with contextlib.redirect_stdout(out), contextlib.redirect_stderr(err):
            for n, t in self.CALLS:
                rests(n, t)
        self.assertEqual(out.getvalue() + err.getvalue(), "")


if __name__ == "__main__":
    unittest.main()
