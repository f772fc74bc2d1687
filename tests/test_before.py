import random
import unittest

from partnernumbers.numbers import before
from tests.helper import ALL_M, GREATEST, WRONG_M, WRONG_PAIRS, near_zero, true_sign


class BeforeTest(unittest.TestCase):
    def check_less(self, m, x, y):
        with self.subTest(m=m, x=x, y=y):
            self.assertEqual(before(m, x, y), [1])
            self.assertEqual(before(m, y, x), [0])

    def check_pair(self, m, x, y):
        order = true_sign(m, y[0] - x[0], y[1] - x[1])
        answers = (before(m, x, y), before(m, y, x))
        self.assertEqual(answers, ([1 if order > 0 else 0], [1 if order < 0 else 0]), (m, x, y))

    def check_refused(self, m, x, y):
        with self.subTest(m=m, x=x, y=y):
            self.assertEqual(before(m, x, y), [-22])

    def test_ordinary_numbers(self):
        for m in ALL_M:
            self.check_less(m, [1, 0], [2, 0])
            self.check_less(m, [-2, 0], [-1, 0])
            self.check_less(m, [m, 0], [0, 1])
            self.check_less(m, [0, 1], [m + 1, 0])
            self.check_less(m, [0, -1], [-m, 0])
            self.check_less(m, [-m - 1, 0], [0, -1])
            self.check_less(m, [5, -1], [5, 1])
            self.check_less(m, [-3, -5], [3, 5])
            self.check_less(m, [7, -7], [-7, 7])

    def test_which_w_belongs_to_which_m(self):
        for m, below, above in ((1, 16, 17), (2, 24, 25), (3, 33, 34), (4, 42, 43)):
            self.check_less(m, [below, 0], [0, 10])
            self.check_less(m, [0, 10], [above, 0])

    def test_zero_against_others(self):
        for m in ALL_M:
            for x in ([1, 0], [0, 1], [-m, 1], [m + 1, -1]):
                self.check_less(m, [0, 0], x)
                self.check_less(m, [-x[0], -x[1]], [0, 0])

    def test_a_number_against_itself(self):
        for m in ALL_M:
            for x in ([0, 0], [5, 0], [0, -5], [3, 4], [-3, 4], [GREATEST, -GREATEST], [832040, -514229]):
                with self.subTest(m=m, x=x):
                    self.assertEqual(before(m, x, x), [0])
                    self.assertEqual(before(m, x, list(x)), [0])

    def test_every_small_pair(self):
        numbers = [[a, b] for a in range(-5, 6) for b in range(-3, 4)]
        for m in ALL_M:
            for x in numbers:
                for y in numbers:
                    self.check_pair(m, x, y)

    def test_of_two_one_is_less_or_they_are_one(self):
        numbers = [[a, b] for a in range(-9, 10, 3) for b in range(-6, 7, 2)]
        for m in ALL_M:
            for x in numbers:
                for y in numbers:
                    less = before(m, x, y)[0] + before(m, y, x)[0]
                    self.assertEqual(less, 0 if x == y else 1, (m, x, y))

    def test_near_neighbours_with_great_parts(self):
        for m in ALL_M:
            for x, above in near_zero(m):
                ends = ([0, 0], x) if above else (x, [0, 0])
                self.check_less(m, ends[0], ends[1])
                # The same step apart, told by a whole number against so many w.
                ends = ([0, -x[1]], [x[0], 0]) if above else ([x[0], 0], [0, -x[1]])
                self.check_less(m, ends[0], ends[1])
                # And below 0.
                ends = ([-x[0], 0], [0, x[1]]) if above else ([0, x[1]], [-x[0], 0])
                self.check_less(m, ends[0], ends[1])

    def test_powers_of_the_partner_among_themselves(self):
        for m in ALL_M:
            numbers = [x for x, above in near_zero(m)]
            for x in numbers:
                for y in numbers:
                    self.check_pair(m, x, y)

    def test_the_ends_of_the_range(self):
        parts = (-GREATEST, 1 - GREATEST, 0, GREATEST - 1, GREATEST)
        numbers = [[a, b] for a in parts for b in parts]
        for m in ALL_M:
            for x in numbers:
                for y in numbers:
                    self.check_pair(m, x, y)

    def test_a_difference_beyond_the_range_is_no_refusal(self):
        for m in ALL_M:
            self.check_less(m, [-GREATEST, 0], [GREATEST, 0])
            self.check_less(m, [0, -GREATEST], [0, GREATEST])
            self.check_less(m, [GREATEST, -GREATEST], [-GREATEST, GREATEST])
            self.check_less(m, [-GREATEST, -GREATEST], [GREATEST, GREATEST])

    def test_many_pairs(self):
        source = random.Random(2)
        for m in ALL_M:
            for turn in range(2000):
                parts = [source.randint(-GREATEST, GREATEST) for part in range(4)]
                self.check_pair(m, parts[:2], parts[2:])

    def test_wrong_m(self):
        for m in WRONG_M:
            self.check_refused(m, [1, 2], [3, 4])
            self.check_refused(m, [0, 0], [0, 0])

    def test_wrong_x_and_y(self):
        for m in ALL_M + WRONG_M:
            for x, y in WRONG_PAIRS:
                self.check_refused(m, x, y)


if __name__ == "__main__":
    unittest.main()
