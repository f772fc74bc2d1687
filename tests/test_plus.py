import random
import unittest

from partnernumbers.numbers import before, plus
from tests.helper import ALL_M, GREATEST, WRONG_PAIRS


class PlusTest(unittest.TestCase):
    def check(self, x, y, a, b):
        with self.subTest(x=x, y=y):
            self.assertEqual(plus(x, y), [0, a, b])
            self.assertEqual(plus(y, x), [0, a, b])

    def test_ordinary_numbers(self):
        self.check([1, 2], [30, 40], 31, 42)
        self.check([1, -2], [30, 40], 31, 38)
        self.check([-1, 2], [30, 40], 29, 42)
        self.check([-1, -2], [30, 40], 29, 38)
        self.check([1, 2], [-30, -40], -29, -38)
        self.check([-1, -2], [-30, -40], -31, -42)
        self.check([-1, 2], [30, -40], 29, -38)

    def test_b_of_zero(self):
        self.check([7, 0], [5, 0], 12, 0)
        self.check([7, 0], [-5, 0], 2, 0)
        self.check([7, 0], [0, 5], 7, 5)
        self.check([7, 0], [-9, -5], -2, -5)

    def test_a_number_and_its_opposite(self):
        for x in ([0, 0], [3, 4], [-3, 4], [832040, -514229], [GREATEST, -GREATEST]):
            self.check(x, [-x[0], -x[1]], 0, 0)

    def test_a_number_and_itself(self):
        for x in ([0, 0], [3, 4], [-3, 4], [832040, -514229]):
            self.assertEqual(plus(x, x), [0, 2 * x[0], 2 * x[1]])

    def test_zero_added(self):
        for a in (-GREATEST, -7, 0, 7, GREATEST):
            for b in (-GREATEST, -3, 0, 3, GREATEST):
                self.check([a, b], [0, 0], a, b)

    def test_sums_beyond_the_range_are_answered(self):
        double = 2 * GREATEST
        self.check([GREATEST, GREATEST], [GREATEST, GREATEST], double, double)
        self.check([-GREATEST, -GREATEST], [-GREATEST, -GREATEST], -double, -double)
        self.check([GREATEST, -GREATEST], [GREATEST, -GREATEST], double, -double)
        self.check([-GREATEST, GREATEST], [-GREATEST, GREATEST], -double, double)
        self.check([GREATEST, 0], [1, 0], GREATEST + 1, 0)
        self.check([0, GREATEST], [0, 1], 0, GREATEST + 1)
        self.check([-GREATEST, 0], [-1, 0], -GREATEST - 1, 0)
        self.check([0, -GREATEST], [0, -1], 0, -GREATEST - 1)

    def test_many_pairs(self):
        source = random.Random(3)
        for turn in range(2000):
            a, b, c, d = [source.randint(-GREATEST, GREATEST) for part in range(4)]
            self.assertEqual(plus([a, b], [c, d]), [0, a + c, b + d])

    def test_sums_keep_the_order(self):
        source = random.Random(4)
        half = GREATEST // 2
        for m in ALL_M:
            for greatest in (3, 50, half):
                for turn in range(500):
                    x, y, z = [[source.randint(-greatest, greatest) for part in range(2)] for number in range(3)]
                    self.assertEqual(before(m, plus(x, z)[1:], plus(y, z)[1:]), before(m, x, y), (m, x, y, z))

    def test_wrong_x_and_y(self):
        for x, y in WRONG_PAIRS:
            with self.subTest(x=x, y=y):
                self.assertEqual(plus(x, y), [-22])


if __name__ == "__main__":
    unittest.main()
