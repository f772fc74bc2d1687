import random
import unittest

from partnernumbers.numbers import before, partner, plus, times
from tests.helper import ALL_M, ENDS, GREATEST, WRONG_M_OR_X, near_zero, table


class PartnerTest(unittest.TestCase):
    def check(self, m, x, a, b):
        with self.subTest(m=m, x=x):
            self.assertEqual(partner(m, x), [0, a, b])

    def check_by_tables(self, m, x):
        """A table multiplied with its partner's holds the norm alone: so the one undoes the other, but for the norm."""
        answer = partner(m, x)
        self.assertEqual(answer[0], 0, (m, x))
        (p, q), (r, s) = table(m, x)
        self.assertEqual(table(m, answer[1:]), ((s, -q), (-r, p)), (m, x))

    def test_the_partner_of_w(self):
        for m in ALL_M:
            self.check(m, [0, 1], m, -1)
            self.check(m, [0, -1], -m, 1)
            # It is below 0, above -1.
            self.assertEqual(before(m, [-1, 0], partner(m, [0, 1])[1:]), [1])
            self.assertEqual(before(m, partner(m, [0, 1])[1:], [0, 0]), [1])

    def test_ordinary_numbers(self):
        for m, a in ((1, 12), (2, 19), (3, 26), (4, 33)):
            self.check(m, [5, 7], a, -7)
            self.check(m, [-5, -7], -a, 7)
        for m, a in ((1, -2), (2, -9), (3, -16), (4, -23)):
            self.check(m, [5, -7], a, 7)
            self.check(m, [-5, 7], -a, -7)

    def test_numbers_with_b_of_zero_are_their_own_partners(self):
        for m in ALL_M:
            for a in ENDS + (-17, 17):
                self.check(m, [a, 0], a, 0)

    def test_zero(self):
        for m in ALL_M:
            self.check(m, [0, 0], 0, 0)

    def test_every_small_number(self):
        for m in ALL_M:
            for a in range(-20, 21):
                for b in range(-20, 21):
                    self.check_by_tables(m, [a, b])

    def test_the_ends_of_the_range(self):
        for m in ALL_M:
            self.check(m, [GREATEST, GREATEST], (m + 1) * GREATEST, -GREATEST)
            self.check(m, [-GREATEST, -GREATEST], -(m + 1) * GREATEST, GREATEST)
            self.check(m, [GREATEST, -GREATEST], (1 - m) * GREATEST, GREATEST)
            self.check(m, [-GREATEST, GREATEST], (m - 1) * GREATEST, -GREATEST)
            self.check(m, [0, GREATEST], m * GREATEST, -GREATEST)
            for a in ENDS:
                for b in ENDS:
                    self.check_by_tables(m, [a, b])

    def test_near_zero_with_great_parts(self):
        # The partners of the powers of w's partner are the powers of w: 1, w, and so on.
        for m in ALL_M:
            power = [1, 0]
            for x, above in near_zero(m):
                self.check(m, x, power[0], power[1])
                power = times(m, power, [0, 1])[1:]

    def test_many_numbers(self):
        source = random.Random(8)
        for m in ALL_M:
            for turn in range(2000):
                self.check_by_tables(m, [source.randint(-GREATEST, GREATEST) for part in range(2)])

    def test_the_partners_partner_is_the_number(self):
        source = random.Random(9)
        fifth = GREATEST // 5
        ends = [[a, b] for a in (-fifth, 0, fifth) for b in (-fifth, 0, fifth)]
        for m in ALL_M:
            for x in ends + [[source.randint(-fifth, fifth) for part in range(2)] for turn in range(500)]:
                self.assertEqual(partner(m, partner(m, x)[1:]), [0] + x, (m, x))

    def test_of_a_sum_the_partner_is_the_partners_sum(self):
        source = random.Random(10)
        tenth = GREATEST // 10
        for m in ALL_M:
            for greatest in (3, 50, tenth):
                for turn in range(500):
                    x, y = [[source.randint(-greatest, greatest) for part in range(2)] for number in range(2)]
                    partners = partner(m, x)[1:], partner(m, y)[1:]
                    self.assertEqual(partner(m, plus(x, y)[1:]), plus(partners[0], partners[1]), (m, x, y))

    def test_of_a_product_the_partner_is_the_partners_product(self):
        source = random.Random(11)
        for m in ALL_M:
            for greatest in (3, 40, 400):
                for turn in range(500):
                    x, y = [[source.randint(-greatest, greatest) for part in range(2)] for number in range(2)]
                    partners = partner(m, x)[1:], partner(m, y)[1:]
                    self.assertEqual(
                        partner(m, times(m, x, y)[1:]), times(m, partners[0], partners[1]), (m, x, y)
                    )

    def test_wrong_m_and_x(self):
        for m, x in WRONG_M_OR_X:
            with self.subTest(m=m, x=x):
                self.assertEqual(partner(m, x), [-22])


if __name__ == "__main__":
    unittest.main()
