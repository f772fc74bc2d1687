import random
import unittest

from partnernumbers.numbers import norm, partner, times
from tests.helper import ALL_M, ENDS, GREATEST, WRONG_M_OR_X, near_zero, table


class NormTest(unittest.TestCase):
    def check(self, m, x, answer):
        with self.subTest(m=m, x=x):
            self.assertEqual(norm(m, x), [0, answer])

    def check_by_tables(self, m, x):
        (p, q), (r, s) = table(m, x)
        self.assertEqual(norm(m, x), [0, p * s - q * r], (m, x))

    def test_zero(self):
        for m in ALL_M:
            self.check(m, [0, 0], 0)

    def test_only_zero_has_the_norm_zero(self):
        for m in ALL_M:
            for a in range(-30, 31):
                for b in range(-30, 31):
                    self.assertEqual(norm(m, [a, b]) == [0, 0], a == 0 and b == 0, (m, a, b))

    def test_whole_numbers(self):
        for m in ALL_M:
            for a in ENDS + (-17, 17):
                self.check(m, [a, 0], a * a)

    def test_w(self):
        for m in ALL_M:
            self.check(m, [0, 1], -1)
            self.check(m, [0, -1], -1)
            self.check(m, [m, -1], -1)
            self.check(m, [0, 7], -49)

    def test_ordinary_numbers(self):
        # 5 and 7 w: 25 and 35 m less 49.
        for m, answer in ((1, 11), (2, 46), (3, 81), (4, 116)):
            self.check(m, [5, 7], answer)
            self.check(m, [-5, -7], answer)
        # 5 less 7 w: 25 less 35 m less 49.
        for m, answer in ((1, -59), (2, -94), (3, -129), (4, -164)):
            self.check(m, [5, -7], answer)
            self.check(m, [-5, 7], answer)

    def test_every_small_number(self):
        for m in ALL_M:
            for a in range(-20, 21):
                for b in range(-20, 21):
                    self.check_by_tables(m, [a, b])

    def test_the_ends_of_the_range(self):
        square = GREATEST * GREATEST
        for m in ALL_M:
            self.check(m, [GREATEST, GREATEST], m * square)
            self.check(m, [-GREATEST, -GREATEST], m * square)
            self.check(m, [GREATEST, -GREATEST], -m * square)
            self.check(m, [-GREATEST, GREATEST], -m * square)
            self.check(m, [0, GREATEST], -square)
            self.check(m, [0, -GREATEST], -square)
            for a in ENDS:
                for b in ENDS:
                    self.check_by_tables(m, [a, b])

    def test_near_zero_with_great_parts(self):
        # The norm of w's partner is -1, so its powers' norms are 1 and -1 in turn.
        for m in ALL_M:
            for x, above in near_zero(m):
                self.check(m, x, 1 if above else -1)
                self.check(m, [-x[0], -x[1]], 1 if above else -1)

    def test_many_numbers(self):
        source = random.Random(12)
        for m in ALL_M:
            for turn in range(2000):
                self.check_by_tables(m, [source.randint(-GREATEST, GREATEST) for part in range(2)])

    def test_a_number_times_its_partner(self):
        source = random.Random(13)
        fifth = GREATEST // 5
        ends = [[a, b] for a in (-fifth, -1, 0, 1, fifth) for b in (-fifth, -1, 0, 1, fifth)]
        for m in ALL_M:
            for x in ends + [[source.randint(-fifth, fifth) for part in range(2)] for turn in range(500)]:
                self.assertEqual(times(m, x, partner(m, x)[1:]), norm(m, x) + [0], (m, x))

    def test_the_partner_has_the_same_norm(self):
        source = random.Random(14)
        fifth = GREATEST // 5
        for m in ALL_M:
            for turn in range(500):
                x = [source.randint(-fifth, fifth) for part in range(2)]
                self.assertEqual(norm(m, partner(m, x)[1:]), norm(m, x), (m, x))

    def test_wrong_m_and_x(self):
        for m, x in WRONG_M_OR_X:
            with self.subTest(m=m, x=x):
                self.assertEqual(norm(m, x), [-22])


if __name__ == "__main__":
    unittest.main()
