import random
import unittest

from partnernumbers.numbers import before, floor, plus, sign
from tests.helper import ALL_M, ENDS, GREATEST, WRONG_M_OR_X, near_zero, true_floor

# Numbers up to this, rounded down or up, stay in the range, w being less than 5.
HANDED_AGAIN = GREATEST // 6 - 1


class FloorTest(unittest.TestCase):
    def check(self, m, x, answer):
        with self.subTest(m=m, x=x):
            self.assertEqual(floor(m, x), [0, answer])

    def check_by_bounds(self, m, x):
        self.assertEqual(floor(m, x), [0, true_floor(m, x[0], x[1])], (m, x))

    def check_by_order(self, m, x):
        whole = floor(m, x)[1]
        self.assertEqual(before(m, x, [whole, 0]), [0], (m, x))
        self.assertEqual(before(m, x, [whole + 1, 0]), [1], (m, x))
        self.assertIn(sign(m, plus(x, [-whole, 0])[1:]), ([1], [2]), (m, x))
        self.assertEqual(sign(m, plus(x, [-whole - 1, 0])[1:]), [0], (m, x))

    def test_zero(self):
        for m in ALL_M:
            self.check(m, [0, 0], 0)

    def test_whole_numbers(self):
        for m in ALL_M:
            for a in ENDS + (-17, -2, 2, 17):
                self.check(m, [a, 0], a)

    def test_w(self):
        # w lies between m and m + 1.
        for m in ALL_M:
            self.check(m, [0, 1], m)
            self.check(m, [0, -1], -m - 1)
            self.check(m, [-m, 1], 0)
            self.check(m, [m, -1], -1)
            self.check(m, [-m - 1, 1], -1)
            self.check(m, [m + 1, -1], 0)

    def test_ordinary_numbers(self):
        # 7 w is 11.3.., 16.8.., 23.1.., 29.6..
        for m, whole in ((1, 11), (2, 16), (3, 23), (4, 29)):
            self.check(m, [5, 7], 5 + whole)
            self.check(m, [-5, 7], whole - 5)
            self.check(m, [5, -7], 4 - whole)
            self.check(m, [-5, -7], -6 - whole)
            self.check(m, [-40, 7], whole - 40)
            self.check(m, [40, -7], 39 - whole)

    def test_every_small_number(self):
        for m in ALL_M:
            for a in range(-30, 31):
                for b in range(-30, 31):
                    self.check_by_bounds(m, [a, b])

    def test_near_zero_with_great_parts(self):
        for m in ALL_M:
            # The first is 1 itself; from the second on they lie between -1 and 1.
            for x, above in near_zero(m)[1:]:
                self.check(m, x, 0 if above else -1)
                self.check(m, [-x[0], -x[1]], -1 if above else 0)

    def test_near_whole_numbers_with_great_parts(self):
        tried = 0
        for m in ALL_M:
            for x, above in near_zero(m)[1:]:
                for whole in (-100000, -1000, -7, -1, 1, 2, 9, 1000, 100000):
                    for near, over in ((x, above), ([-x[0], -x[1]], not above)):
                        if abs(near[0] + whole) <= GREATEST:
                            tried = tried + 1
                            self.check(m, [near[0] + whole, near[1]], whole if over else whole - 1)
        self.assertGreater(tried, 800)

    def test_the_ends_of_the_range(self):
        # A million times w is 1618033.9.., 2414213.5.., 3302775.6.., 4236067.9..
        for m, whole in ((1, 1618033), (2, 2414213), (3, 3302775), (4, 4236067)):
            self.check(m, [0, GREATEST], whole)
            self.check(m, [0, -GREATEST], -whole - 1)
            self.check(m, [GREATEST, GREATEST], GREATEST + whole)
            self.check(m, [-GREATEST, GREATEST], whole - GREATEST)
            self.check(m, [GREATEST, -GREATEST], GREATEST - whole - 1)
            self.check(m, [-GREATEST, -GREATEST], -GREATEST - whole - 1)
            for a in ENDS:
                for b in ENDS:
                    self.check_by_bounds(m, [a, b])

    def test_many_numbers(self):
        source = random.Random(15)
        for m in ALL_M:
            for greatest in (1000, GREATEST):
                for turn in range(1000):
                    self.check_by_bounds(m, [source.randint(-greatest, greatest) for part in range(2)])

    def test_no_greater_and_by_less_than_one(self):
        source = random.Random(16)
        ends = (-HANDED_AGAIN, -1, 0, 1, HANDED_AGAIN)
        for m in ALL_M:
            for x in [[a, b] for a in ends for b in ends]:
                self.check_by_order(m, x)
            for greatest in (5, 100, HANDED_AGAIN):
                for turn in range(300):
                    self.check_by_order(m, [source.randint(-greatest, greatest) for part in range(2)])

    def test_no_greater_and_by_less_than_one_near_zero(self):
        for m in ALL_M:
            for x, above in near_zero(m):
                if x[0] < GREATEST:
                    self.check_by_order(m, x)
                    self.check_by_order(m, [-x[0], -x[1]])

    def test_rounding_down_keeps_the_order(self):
        source = random.Random(17)
        for m in ALL_M:
            for turn in range(500):
                x, y = [[source.randint(-20, 20) for part in range(2)] for number in range(2)]
                if before(m, x, y) == [1]:
                    self.assertLessEqual(floor(m, x)[1], floor(m, y)[1], (m, x, y))

    def test_wrong_m_and_x(self):
        for m, x in WRONG_M_OR_X:
            with self.subTest(m=m, x=x):
                self.assertEqual(floor(m, x), [-22])


if __name__ == "__main__":
    unittest.main()
