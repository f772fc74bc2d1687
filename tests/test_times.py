import random
import unittest

from partnernumbers.numbers import before, plus, sign, times
from tests.helper import ALL_M, ENDS, GREATEST, WRONG_M, WRONG_PAIRS, near_zero, table, tables_product


class TimesTest(unittest.TestCase):
    def check(self, m, x, y, a, b):
        with self.subTest(m=m, x=x, y=y):
            self.assertEqual(times(m, x, y), [0, a, b])
            self.assertEqual(times(m, y, x), [0, a, b])

    def check_by_tables(self, m, x, y):
        answer = times(m, x, y)
        self.assertEqual(answer[0], 0, (m, x, y))
        self.assertEqual(table(m, answer[1:]), tables_product(table(m, x), table(m, y)), (m, x, y))
        self.assertEqual(times(m, y, x), answer, (m, x, y))

    def test_w_by_w(self):
        for m in ALL_M:
            self.check(m, [0, 1], [0, 1], 1, m)
            self.check(m, [0, -1], [0, 1], -1, -m)
            self.check(m, [0, -1], [0, -1], 1, m)

    def test_ordinary_numbers(self):
        # 2 and 3 w by 5 and 7 w is 10 and 29 w and 21 w w, which is 31 and (29 + 21 m) w.
        for m, b in ((1, 50), (2, 71), (3, 92), (4, 113)):
            self.check(m, [2, 3], [5, 7], 31, b)
            self.check(m, [-2, -3], [5, 7], -31, -b)
            self.check(m, [-2, -3], [-5, -7], 31, b)
        # 2 less 3 w by 5 and 7 w is 10 less w less 21 w w.
        for m, b in ((1, -22), (2, -43), (3, -64), (4, -85)):
            self.check(m, [2, -3], [5, 7], -11, b)
            self.check(m, [-2, 3], [5, 7], 11, -b)
            self.check(m, [-2, 3], [-5, -7], -11, b)
        # 2 less 3 w by 5 less 7 w is 10 less 29 w and 21 w w.
        for m, b in ((1, -8), (2, 13), (3, 34), (4, 55)):
            self.check(m, [2, -3], [5, -7], 31, b)
            self.check(m, [2, -3], [-5, 7], -31, -b)

    def test_by_zero(self):
        for m in ALL_M:
            for a in ENDS:
                for b in ENDS:
                    self.check(m, [a, b], [0, 0], 0, 0)

    def test_by_one_and_by_less_one(self):
        for m in ALL_M:
            for a in ENDS:
                for b in ENDS:
                    self.check(m, [a, b], [1, 0], a, b)
                    self.check(m, [a, b], [-1, 0], -a, -b)

    def test_by_a_number_with_b_of_zero(self):
        for m in ALL_M:
            for c in (-GREATEST, -13, -2, 2, 13, GREATEST):
                self.check(m, [11, 17], [c, 0], 11 * c, 17 * c)
                self.check(m, [-11, 17], [c, 0], -11 * c, 17 * c)
                self.check(m, [5, 0], [c, 0], 5 * c, 0)
                self.check(m, [0, 1], [c, 0], 0, c)

    def test_w_and_what_it_makes_one_with(self):
        for m in ALL_M:
            self.check(m, [0, 1], [-m, 1], 1, 0)
            self.check(m, [0, 1], [m, -1], -1, 0)

    def test_every_small_pair(self):
        numbers = [[a, b] for a in range(-4, 5) for b in range(-4, 5)]
        for m in ALL_M:
            for x in numbers:
                for y in numbers:
                    self.check_by_tables(m, x, y)

    def test_the_ends_of_the_range(self):
        square = GREATEST * GREATEST
        for m in ALL_M:
            self.check(m, [GREATEST, GREATEST], [GREATEST, GREATEST], 2 * square, (m + 2) * square)
            self.check(m, [-GREATEST, -GREATEST], [GREATEST, GREATEST], -2 * square, -(m + 2) * square)
            self.check(m, [GREATEST, -GREATEST], [GREATEST, GREATEST], 0, -m * square)
            self.check(m, [GREATEST, -GREATEST], [GREATEST, -GREATEST], 2 * square, (m - 2) * square)
            self.check(m, [-GREATEST, GREATEST], [GREATEST, -GREATEST], -2 * square, (2 - m) * square)
        numbers = [[a, b] for a in ENDS for b in ENDS]
        for m in ALL_M:
            for x in numbers:
                for y in numbers:
                    self.check_by_tables(m, x, y)

    def test_near_zero_with_great_parts(self):
        for m in ALL_M:
            powers = [x for x, above in near_zero(m)]
            for k, x in enumerate(powers):
                for j, y in enumerate(powers):
                    self.check_by_tables(m, x, y)
                    if k + j < len(powers):
                        self.assertEqual(times(m, x, y)[1:], powers[k + j], (m, k, j))

    def test_many_pairs(self):
        source = random.Random(5)
        for m in ALL_M:
            for turn in range(2000):
                parts = [source.randint(-GREATEST, GREATEST) for part in range(4)]
                self.check_by_tables(m, parts[:2], parts[2:])

    def test_a_sum_is_multiplied_part_by_part(self):
        source = random.Random(6)
        for m in ALL_M:
            for turn in range(500):
                x, y, z = [[source.randint(-300, 300) for part in range(2)] for number in range(3)]
                parts = plus(times(m, x, z)[1:], times(m, y, z)[1:])
                self.assertEqual(times(m, plus(x, y)[1:], z), parts, (m, x, y, z))

    def test_products_with_what_is_above_zero_keep_the_order(self):
        source = random.Random(7)
        for m in ALL_M:
            tried = 0
            for greatest in (3, 40, 350):
                for turn in range(1000):
                    x, y, z = [[source.randint(-greatest, greatest) for part in range(2)] for number in range(3)]
                    if sign(m, z) == [2]:
                        tried = tried + 1
                        products = times(m, x, z)[1:], times(m, y, z)[1:]
                        self.assertEqual(before(m, products[0], products[1]), before(m, x, y), (m, x, y, z))
            self.assertGreater(tried, 1000)

    def test_a_product_with_what_is_near_zero_keeps_the_order(self):
        numbers = [[0, 0], [1, 0], [0, 1], [-1, 0], [5, -3], [-5, 3], [12, -5]]
        for m in ALL_M:
            for z, above in near_zero(m):
                if above and z[0] <= 10000:
                    for x in numbers:
                        for y in numbers:
                            products = times(m, x, z)[1:], times(m, y, z)[1:]
                            self.assertEqual(before(m, products[0], products[1]), before(m, x, y), (m, x, y, z))

    def test_wrong_m(self):
        for m in WRONG_M:
            for x in ([0, 0], [1, 0], [3, 4], [GREATEST, -GREATEST]):
                with self.subTest(m=m, x=x):
                    self.assertEqual(times(m, x, [3, 4]), [-22])
                    self.assertEqual(times(m, [0, 0], x), [-22])

    def test_wrong_x_and_y(self):
        for m in ALL_M + WRONG_M:
            for x, y in WRONG_PAIRS:
                with self.subTest(m=m, x=x, y=y):
                    self.assertEqual(times(m, x, y), [-22])


if __name__ == "__main__":
    unittest.main()
