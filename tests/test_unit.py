import unittest

from partnernumbers.numbers import norm, partner, sign, times, unit
from tests.helper import ALL_M, GREATEST, WRONG_K, WRONG_M, WRONG_S, near_zero, table, tables_product, true_sign

ONE = ((1, 0), (0, 1))
GREATEST_POWER = 60
EXPONENTS = range(-GREATEST_POWER, GREATEST_POWER + 1)


def power(m, exponent):
    """w to the power of the exponent, without the leading 0."""
    return unit(m, 1 if exponent < 0 else 0, abs(exponent))[1:]


def handed_again(m):
    """The exponents whose powers are in the range."""
    return [exponent for exponent in EXPONENTS if max(abs(part) for part in power(m, exponent)) <= GREATEST]


class UnitTest(unittest.TestCase):
    def check(self, m, s, k, a, b):
        with self.subTest(m=m, s=s, k=k):
            self.assertEqual(unit(m, s, k), [0, a, b])

    def test_the_power_of_zero(self):
        for m in ALL_M:
            self.check(m, 0, 0, 1, 0)
            self.check(m, 1, 0, 1, 0)

    def test_the_first_powers(self):
        for m in ALL_M:
            self.check(m, 0, 1, 0, 1)
            self.check(m, 0, 2, 1, m)
            self.check(m, 0, 3, m, m * m + 1)

    def test_the_first_powers_below_zero(self):
        for m in ALL_M:
            self.check(m, 1, 1, -m, 1)
            self.check(m, 1, 2, m * m + 1, -m)
            self.check(m, 1, 3, -m * m * m - 2 * m, m * m + 1)

    def test_the_tenth_powers(self):
        # Neighbours in 0, 1, m, m m + 1 ..
        for m, a, b, c in ((1, 34, 55, 89), (2, 985, 2378, 5741), (3, 12970, 42837, 141481), (4, 98209, 416020, 1762289)):
            self.check(m, 0, 10, a, b)
            self.check(m, 1, 10, c, -b)

    def test_the_greatest_powers(self):
        self.check(1, 0, 60, 956722026041, 1548008755920)
        self.check(1, 1, 60, 2504730781961, -1548008755920)
        self.check(1, 0, 59, 591286729879, 956722026041)
        self.check(1, 1, 59, -1548008755920, 956722026041)

    def test_each_power_is_the_one_ahead_times_w(self):
        for m in ALL_M:
            w = table(m, [0, 1])
            expected = ONE
            for k in range(GREATEST_POWER + 1):
                answer = unit(m, 0, k)
                self.assertEqual(answer[0], 0, (m, k))
                self.assertEqual(table(m, answer[1:]), expected, (m, k))
                expected = tables_product(expected, w)

    def test_each_power_below_zero_is_the_one_ahead_times_one_by_w(self):
        for m in ALL_M:
            one_by_w = ((0, 1), (1, -m))
            self.assertEqual(tables_product(one_by_w, table(m, [0, 1])), ONE)
            expected = ONE
            for k in range(GREATEST_POWER + 1):
                answer = unit(m, 1, k)
                self.assertEqual(answer[0], 0, (m, k))
                self.assertEqual(table(m, answer[1:]), expected, (m, k))
                expected = tables_product(expected, one_by_w)

    def test_powers_multiply_as_powers_do(self):
        for m in ALL_M:
            exponents = handed_again(m)
            self.assertGreater(len(exponents), 18)
            for one in exponents:
                for other in exponents:
                    product = times(m, power(m, one), power(m, other))
                    self.assertEqual(product, [0] + power(m, one + other), (m, one, other))

    def test_powers_of_any_size_multiply_as_powers_do(self):
        for m in ALL_M:
            tables = {exponent: table(m, power(m, exponent)) for exponent in EXPONENTS}
            for one in EXPONENTS:
                for other in (-60, -31, -7, -1, 1, 8, 30, 60):
                    if one + other in tables:
                        product = tables_product(tables[one], tables[other])
                        self.assertEqual(product, tables[one + other], (m, one, other))

    def test_powers_are_above_zero(self):
        for m in ALL_M:
            for exponent in handed_again(m):
                self.assertEqual(sign(m, power(m, exponent)), [2], (m, exponent))
            for exponent in EXPONENTS:
                a, b = power(m, exponent)
                self.assertEqual(true_sign(m, a, b), 1, (m, exponent))

    def test_powers_below_zero_are_those_of_the_partner_but_for_the_sign(self):
        for m in ALL_M:
            for k, (x, above) in enumerate(near_zero(m)):
                self.assertEqual(unit(m, 1, k), [0] + (x if above else [-x[0], -x[1]]), (m, k))

    def test_partner_and_norm_of_a_power(self):
        for m in ALL_M:
            for exponent in handed_again(m):
                turned = 1 if exponent % 2 == 0 else -1
                opposite = [turned * part for part in power(m, -exponent)]
                self.assertEqual(partner(m, power(m, exponent)), [0] + opposite, (m, exponent))
                self.assertEqual(norm(m, power(m, exponent)), [0, turned], (m, exponent))

    def check_refused(self, m, s, k):
        with self.subTest(m=m, s=s, k=k):
            self.assertEqual(unit(m, s, k), [-22])

    def test_wrong_m(self):
        for m in WRONG_M:
            for s in (0, 1) + WRONG_S:
                for k in (0, 1, 2, 60) + WRONG_K:
                    self.check_refused(m, s, k)

    def test_wrong_s(self):
        for m in ALL_M:
            for s in WRONG_S:
                for k in (0, 1, 2, 60) + WRONG_K:
                    self.check_refused(m, s, k)

    def test_wrong_k(self):
        for m in ALL_M:
            for s in (0, 1):
                for k in WRONG_K:
                    self.check_refused(m, s, k)


if __name__ == "__main__":
    unittest.main()
