import random
import unittest

from partnernumbers.numbers import sign
from tests.helper import ALL_M, ENDS, GREATEST, WRONG_M_OR_X, near_zero, true_sign


class SignTest(unittest.TestCase):
    def check(self, m, x, answer):
        with self.subTest(m=m, x=x):
            self.assertEqual(sign(m, x), [answer])

    def test_ordinary_numbers(self):
        # w is 1.618.., 2.414.., 3.302.., 4.236..
        for m in ALL_M:
            for x in ([1, 0], [0, 1], [3, 5], [1 - m, 1], [-m, 1], [m + 1, -1], [2 * m + 2, -2]):
                self.check(m, x, 2)
            for x in ([-1, 0], [0, -1], [-3, -5], [m, -1], [-m - 1, 1], [-2 * m - 2, 2]):
                self.check(m, x, 0)

    def test_which_w_belongs_to_which_m(self):
        # Each row: a less 10 w with a just below and just above 10 w.
        for m, below, above in ((1, 16, 17), (2, 24, 25), (3, 33, 34), (4, 42, 43)):
            self.check(m, [below, -10], 0)
            self.check(m, [above, -10], 2)
            self.check(m, [-below, 10], 2)
            self.check(m, [-above, 10], 0)

    def test_only_zero_is_zero(self):
        for m in ALL_M:
            self.check(m, [0, 0], 1)
            for a in range(-30, 31):
                for b in range(-30, 31):
                    self.assertEqual(sign(m, [a, b]) == [1], a == 0 and b == 0, (m, a, b))

    def test_b_of_zero(self):
        for m in ALL_M:
            for a in (1, 2, 999999, GREATEST):
                self.check(m, [a, 0], 2)
                self.check(m, [-a, 0], 0)

    def test_every_small_number(self):
        for m in ALL_M:
            for a in range(-40, 41):
                for b in range(-12, 13):
                    self.assertEqual(sign(m, [a, b]), [true_sign(m, a, b) + 1], (m, a, b))

    def test_near_zero_with_great_parts(self):
        self.check(1, [832040, -514229], 0)
        self.check(1, [514229, -317811], 2)
        for m in ALL_M:
            for x, above in near_zero(m):
                self.check(m, x, 2 if above else 0)
                self.check(m, [-x[0], -x[1]], 0 if above else 2)

    def test_both_whole_neighbours_of_great_b(self):
        for m in ALL_M:
            for b in range(GREATEST // (m + 1) - 500, GREATEST // (m + 1)):
                a = m * b
                step = b
                while step > 0:
                    if true_sign(m, a + step, -b) < 0:
                        a = a + step
                    else:
                        step = step // 2
                self.assertEqual(sign(m, [a, -b]), [0], (m, a, -b))
                self.assertEqual(sign(m, [a + 1, -b]), [2], (m, a + 1, -b))

    def test_the_ends_of_the_range(self):
        for m in ALL_M:
            for a in ENDS:
                for b in ENDS:
                    self.check(m, [a, b], true_sign(m, a, b) + 1)

    def test_many_numbers(self):
        source = random.Random(1)
        for m in ALL_M:
            for turn in range(2000):
                a, b = source.randint(-GREATEST, GREATEST), source.randint(-GREATEST, GREATEST)
                self.assertEqual(sign(m, [a, b]), [true_sign(m, a, b) + 1], (m, a, b))

    def test_wrong_m_and_x(self):
        for m, x in WRONG_M_OR_X:
            with self.subTest(m=m, x=x):
                self.assertEqual(sign(m, x), [-22])


if __name__ == "__main__":
    unittest.main()
