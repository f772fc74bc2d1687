import random
import unittest
from fractions import Fraction

from partnernumbers.numbers import divide, norm, times, unit
from tests.helper import ALL_M, ENDS, GREATEST, WRONG_LENGTHS, WRONG_M, WRONG_NUMBERS, WRONG_PAIRS, near_zero

SMALL = [[a, b] for a in range(-4, 5) for b in range(-4, 5)]


def true_parts(m, x, y):
    """The two fractions p, q for which p and q w times y is x; y is not 0.

    p y and q (w y) are x, part by part: two equations, out of which p and q are told.
    """
    c, d = y
    e, f = d, c + m * d
    whole = c * f - d * e
    return Fraction(x[0] * f - x[1] * e, whole), Fraction(c * x[1] - d * x[0], whole)


def true_answer(m, x, y):
    if y == [0, 0]:
        return [-33]
    parts = true_parts(m, x, y)
    if any(part.denominator != 1 for part in parts):
        return [-33]
    return [0] + [int(part) for part in parts]


class DivideTest(unittest.TestCase):
    def check(self, m, x, y, a, b):
        with self.subTest(m=m, x=x, y=y):
            self.assertEqual(divide(m, x, y), [0, a, b])

    def check_none(self, m, x, y):
        with self.subTest(m=m, x=x, y=y):
            self.assertEqual(divide(m, x, y), [-33])

    def check_by_fractions(self, m, x, y):
        self.assertEqual(divide(m, x, y), true_answer(m, x, y), (m, x, y))

    def check_back(self, m, x, y):
        """The product of x and y, which is in the range, gives back either by the other."""
        product = times(m, x, y)[1:]
        if y != [0, 0]:
            self.assertEqual(divide(m, product, y), [0] + x, (m, x, y))
        if x != [0, 0]:
            self.assertEqual(divide(m, product, x), [0] + y, (m, x, y))

    def test_ordinary_numbers(self):
        # 2 and 3 w by 5 and 7 w is 31 and (29 + 21 m) w.
        for m, b in ((1, 50), (2, 71), (3, 92), (4, 113)):
            self.check(m, [31, b], [5, 7], 2, 3)
            self.check(m, [31, b], [2, 3], 5, 7)
            self.check(m, [-31, -b], [5, 7], -2, -3)
            self.check(m, [31, b], [-5, -7], -2, -3)
            self.check(m, [-31, -b], [-5, -7], 2, 3)
        # 2 less 3 w by 5 and 7 w is -11 and (-1 - 21 m) w.
        for m, b in ((1, -22), (2, -43), (3, -64), (4, -85)):
            self.check(m, [-11, b], [5, 7], 2, -3)
            self.check(m, [-11, b], [2, -3], 5, 7)
            self.check(m, [11, -b], [2, -3], -5, -7)
            self.check(m, [11, -b], [-2, 3], 5, 7)

    def test_by_norms_above_and_below_zero(self):
        # 5 and 7 w has a norm above 0, 2 less 3 w and 0 and 3 w one below.
        for m in ALL_M:
            self.assertGreater(norm(m, [5, 7])[1], 1)
            self.assertLess(norm(m, [2, -3])[1], -1)
            for y in ([5, 7], [2, -3], [0, 3], [-5, -7], [-2, 3], [0, -3]):
                for x in SMALL:
                    self.check_back(m, x, y)

    def test_every_small_pair(self):
        for m in ALL_M:
            for x in SMALL:
                for y in SMALL:
                    self.check_back(m, x, y)
                    self.check_by_fractions(m, x, y)

    def test_by_one_and_by_less_one(self):
        for m in ALL_M:
            for a in ENDS:
                for b in ENDS:
                    self.check(m, [a, b], [1, 0], a, b)
                    self.check(m, [a, b], [-1, 0], -a, -b)

    def test_by_whole_numbers(self):
        for m in ALL_M:
            for whole in (-GREATEST, -5, -2, 2, 5, GREATEST):
                self.check(m, [GREATEST, -GREATEST], [whole, 0], GREATEST // whole, -GREATEST // whole)
                self.check(m, [0, GREATEST], [whole, 0], 0, GREATEST // whole)
                self.check(m, [GREATEST, 0], [whole, 0], GREATEST // whole, 0)
                self.check_none(m, [GREATEST - 1, 0], [whole, 0])

    def test_by_w(self):
        # 1 by w is w less m.
        for m in ALL_M:
            for a in ENDS:
                for b in ENDS:
                    self.check(m, [a, b], [0, 1], b - m * a, a)
                    self.check(m, [a, b], [0, -1], m * a - b, -a)

    def test_by_a_norm_of_one_or_less_one_there_is_always_an_answer(self):
        source = random.Random(18)
        numbers = [[a, b] for a in (-GREATEST, -1, 0, 1, GREATEST) for b in (-GREATEST, -1, 0, 1, GREATEST)]
        for m in ALL_M:
            powers = [y for y, above in near_zero(m)] + [unit(m, 0, k)[1:] for k in range(9)]
            for y in powers + [[-a, -b] for a, b in powers]:
                self.assertIn(norm(m, y), ([0, 1], [0, -1]), (m, y))
                for x in numbers + [[source.randint(-GREATEST, GREATEST) for part in range(2)]]:
                    self.assertEqual(len(divide(m, x, y)), 3, (m, x, y))
                    self.check_by_fractions(m, x, y)

    def test_powers_of_w_by_one_another(self):
        for m in ALL_M:
            for j in range(9):
                for k in range(9):
                    answer = unit(m, 0, j - k) if j >= k else unit(m, 1, k - j)
                    self.assertEqual(divide(m, unit(m, 0, j)[1:], unit(m, 0, k)[1:]), answer, (m, j, k))
                    self.assertEqual(divide(m, unit(m, 1, k)[1:], unit(m, 1, j)[1:]), answer, (m, j, k))
                    self.assertEqual(divide(m, unit(m, 0, j)[1:], unit(m, 1, k)[1:]), unit(m, 0, j + k), (m, j, k))

    def test_near_zero_with_great_parts(self):
        for m in ALL_M:
            powers = [x for x, above in near_zero(m)]
            for j, x in enumerate(powers):
                for k, y in enumerate(powers):
                    self.check_by_fractions(m, x, y)
                    if j >= k:
                        self.check(m, x, y, powers[j - k][0], powers[j - k][1])

    def test_a_number_by_itself(self):
        for m in ALL_M:
            for a in ENDS:
                for b in ENDS:
                    if [a, b] != [0, 0]:
                        self.check(m, [a, b], [a, b], 1, 0)
                        self.check(m, [a, b], [-a, -b], -1, 0)

    def test_zero_divided(self):
        for m in ALL_M:
            for a in ENDS:
                for b in ENDS:
                    if [a, b] != [0, 0]:
                        self.check(m, [0, 0], [a, b], 0, 0)

    def test_by_zero(self):
        for m in ALL_M:
            for a in ENDS:
                for b in ENDS:
                    self.check_none(m, [a, b], [0, 0])

    def test_the_ends_of_the_range(self):
        numbers = [[a, b] for a in ENDS for b in ENDS]
        for m in ALL_M:
            for x in numbers:
                for y in numbers:
                    self.check_by_fractions(m, x, y)

    def test_answers_beyond_the_range_are_answered(self):
        for m in ALL_M:
            self.check(m, [GREATEST, 0], [0, 1], -m * GREATEST, GREATEST)
            self.check(m, [-GREATEST, GREATEST], [0, 1], (m + 1) * GREATEST, -GREATEST)
            self.check(m, [GREATEST, GREATEST], [-m, 1], GREATEST, (m + 1) * GREATEST)
            p, q = [abs(part) for part in near_zero(m)[-1][0]]
            turned = 1 if norm(m, [p, -q]) == [0, 1] else -1
            # The partner of p less q w is p - m q and q w.
            self.check(m, [GREATEST, 0], [p, -q], turned * GREATEST * (p - m * q), turned * GREATEST * q)

    def test_no_such_number(self):
        for m in ALL_M:
            self.check_none(m, [1, 2], [2, 0])
            self.check_none(m, [2, 1], [2, 0])
            self.check_none(m, [1, 1], [2, 0])
            self.check_none(m, [-1, 2], [2, 0])
            self.check_none(m, [2, -1], [-2, 0])
            self.check_none(m, [1, 0], [GREATEST, 0])
            self.check_none(m, [0, 1], [-GREATEST, 0])
            self.check_none(m, [1, 0], [0, 2])
            self.check_none(m, [1, 0], [5, 7])
            self.check_none(m, [1, 0], [2, -3])

    def test_with_only_a_only_b_and_both_not_whole(self):
        source = random.Random(19)
        for m in ALL_M:
            tried = {(a, b): 0 for a in (False, True) for b in (False, True)}
            for turn in range(5000):
                x, y = [[source.randint(-12, 12) for part in range(2)] for number in range(2)]
                if y != [0, 0] and y[1] != 0:
                    whole = tuple(part.denominator == 1 for part in true_parts(m, x, y))
                    tried[whole] = tried[whole] + 1
                    self.check_by_fractions(m, x, y)
            self.assertGreater(min(tried.values()), 20, (m, tried))

    def test_many_pairs(self):
        source = random.Random(20)
        for m in ALL_M:
            for greatest in (30, 1000, GREATEST):
                for turn in range(500):
                    parts = [source.randint(-greatest, greatest) for part in range(4)]
                    self.check_by_fractions(m, parts[:2], parts[2:])

    def test_products_divided_by_what_was_multiplied(self):
        source = random.Random(21)
        for m in ALL_M:
            for greatest in (20, 400):
                for turn in range(1000):
                    x, y = [[source.randint(-greatest, greatest) for part in range(2)] for number in range(2)]
                    self.check_back(m, x, y)

    def test_a_product_that_is_off_by_little_is_not_answered_with_the_same(self):
        for m in ALL_M:
            for x, y in (([20, 31], [5, 7]), ([-20, 31], [5, -7]), ([400, -399], [-300, 201])):
                product = times(m, x, y)[1:]
                for off in ([1, 0], [-1, 0], [0, 1], [0, -1]):
                    near = [product[0] + off[0], product[1] + off[1]]
                    self.check_by_fractions(m, near, y)
                    self.assertNotEqual(divide(m, near, y), [0] + x, (m, near, y))

    def test_what_is_divided_comes_out_again(self):
        source = random.Random(22)
        for m in ALL_M:
            tried = 0
            for turn in range(5000):
                x, y = [[source.randint(-40, 40) for part in range(2)], [source.randint(-4, 4) for part in range(2)]]
                answer = divide(m, x, y)
                if answer[0] == 0:
                    tried = tried + 1
                    self.assertEqual(times(m, answer[1:], y), [0] + x, (m, x, y))
            self.assertGreater(tried, 300)

    def check_refused(self, m, x, y):
        with self.subTest(m=m, x=x, y=y):
            self.assertEqual(divide(m, x, y), [-22])

    def test_wrong_m(self):
        for m in WRONG_M:
            for x in ([0, 0], [1, 0], [3, 4], [GREATEST, -GREATEST]):
                for y in ([1, 0], [0, 1], [2, 0], [3, 4], [GREATEST, -GREATEST]):
                    self.check_refused(m, x, y)

    def test_wrong_x_and_y(self):
        for m in ALL_M + WRONG_M:
            for x, y in WRONG_PAIRS:
                self.check_refused(m, x, y)

    def test_wrong_input_is_told_ahead_of_no_such_number(self):
        for m in WRONG_M:
            for x in ([0, 0], [1, 0], [3, 4]) + WRONG_NUMBERS:
                self.check_refused(m, x, [0, 0])
                self.check_refused(m, x, [7, 0])
        for m in ALL_M:
            for x in WRONG_NUMBERS:
                self.check_refused(m, x, [0, 0])
                self.check_refused(m, x, [7, 0])
            for y in WRONG_LENGTHS:
                self.check_refused(m, [0, 0], y)
                self.check_refused(m, [1, 0], y)
            self.check_refused(m, [1, 0], [0, 1000001])
            self.check_refused(m, [1, 0], [-1000001, 0])


if __name__ == "__main__":
    unittest.main()
