"""What the second promise says over the whole program, call against call, on one mix of numbers."""

import itertools
import unittest

from partnernumbers.numbers import before, divide, floor, norm, partner, plus, sign, times, unit
from tests.helper import ALL_M, near_zero

# Products of numbers up to this, and of their partners, can be handed over again.
HANDED_AGAIN = 30


def mix(m):
    """Numbers of all signs, with b of 0, near 0 on either side, powers of w, and 0 itself."""
    found = [[a, b] for a in (-7, -2, -1, 0, 1, 2, 7) for b in (-3, -1, 0, 1, 3)]
    for x, above in near_zero(m):
        if x[0] <= HANDED_AGAIN and x not in found:
            found = found + [x, [-x[0], -x[1]]]
    for k in range(3):
        if unit(m, 0, k)[1:] not in found:
            found.append(unit(m, 0, k)[1:])
    return found


def pairs():
    return [(m, x, y) for m in ALL_M for x, y in itertools.product(mix(m), repeat=2)]


def added(x, y):
    return plus(x, y)[1:]


def multiplied(m, x, y):
    return times(m, x, y)[1:]


def partnered(m, x):
    return partner(m, x)[1:]


class PromisesTest(unittest.TestCase):
    def test_the_partner_of_a_sum_is_the_partners_sum(self):
        for m, x, y in pairs():
            self.assertEqual(partner(m, added(x, y)), plus(partnered(m, x), partnered(m, y)), (m, x, y))

    def test_the_partner_of_a_product_is_the_partners_product(self):
        for m, x, y in pairs():
            self.assertEqual(partner(m, multiplied(m, x, y)), times(m, partnered(m, x), partnered(m, y)), (m, x, y))

    def test_the_partners_partner_is_the_number(self):
        for m in ALL_M:
            for x in mix(m):
                self.assertEqual(partner(m, partnered(m, x)), [0] + x, (m, x))

    def test_a_number_times_its_partner_is_its_norm(self):
        for m in ALL_M:
            for x in mix(m):
                self.assertEqual(times(m, x, partnered(m, x)), norm(m, x) + [0], (m, x))

    def test_of_two_numbers_one_is_less_or_they_are_one(self):
        for m, x, y in pairs():
            less = before(m, x, y)[0], before(m, y, x)[0]
            self.assertEqual(sum(less), 0 if x == y else 1, (m, x, y))
            difference = added(y, multiplied(m, [-1, 0], x))
            self.assertEqual(sign(m, difference), [1 + less[0] - less[1]], (m, x, y))

    def test_sums_keep_the_order(self):
        for m, x, y in pairs():
            for z in mix(m)[::5]:
                self.assertEqual(before(m, added(x, z), added(y, z)), before(m, x, y), (m, x, y, z))

    def test_products_with_what_is_above_zero_keep_the_order(self):
        for m, x, y in pairs():
            for z in mix(m)[::5]:
                if sign(m, z) == [2]:
                    order = before(m, multiplied(m, x, z), multiplied(m, y, z))
                    self.assertEqual(order, before(m, x, y), (m, x, y, z))

    def test_rounded_down_it_is_no_greater_and_by_less_than_one(self):
        for m, x, y in pairs():
            for number in (x, multiplied(m, x, y)):
                whole = floor(m, number)[1]
                self.assertEqual(before(m, number, [whole, 0]), [0], (m, number))
                self.assertEqual(before(m, number, [whole + 1, 0]), [1], (m, number))

    def test_powers_of_w_multiply_as_powers_do_and_are_above_zero(self):
        for m in ALL_M:
            powers = {k: unit(m, 0, k) for k in range(9)}
            powers.update({-k: unit(m, 1, k) for k in range(9)})
            for j, k in itertools.product(range(-4, 5), repeat=2):
                self.assertEqual(times(m, powers[j][1:], powers[k][1:]), powers[j + k], (m, j, k))
                self.assertEqual(divide(m, powers[j][1:], powers[k][1:]), powers[j - k], (m, j, k))
            for k in powers:
                self.assertEqual(sign(m, powers[k][1:]), [2], (m, k))

    def test_what_is_divided_comes_out_again(self):
        for m, x, y in pairs():
            answer = divide(m, x, y)
            if answer[0] == 0:
                self.assertEqual(times(m, answer[1:], y), [0] + x, (m, x, y))
            else:
                self.assertEqual(answer, [-33], (m, x, y))

    def test_a_product_is_divided_by_what_was_multiplied(self):
        for m, x, y in pairs():
            expected = [-33] if y == [0, 0] else [0] + x
            self.assertEqual(divide(m, multiplied(m, x, y), y), expected, (m, x, y))

    def test_the_partners_are_divided_as_the_numbers_are(self):
        for m, x, y in pairs():
            answer = divide(m, x, y)
            expected = partner(m, answer[1:]) if answer[0] == 0 else [-33]
            self.assertEqual(divide(m, partnered(m, x), partnered(m, y)), expected, (m, x, y))


if __name__ == "__main__":
    unittest.main()
