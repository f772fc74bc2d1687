"""What the tests share: numbers to try, wrong inputs, and other ways than the program's to order and multiply."""

import math
from fractions import Fraction

ALL_M = (1, 2, 3, 4)
GREATEST = 1000000
ENDS = (-GREATEST, 1 - GREATEST, -1, 0, 1, GREATEST - 1, GREATEST)

WRONG_M = (0, 5, 6, 1000000, 4294967295)
WRONG_S = (2, 3, 1000000, 4294967295)
WRONG_K = (61, 62, 1000000, 4294967295)
WRONG_LENGTHS = ([], [1], [1, 2, 3], [1, 2, 3, 4], [0], [0, 0, 0], [0, 0, 0, 0])
TOO_GREAT = (-1000001, 1000001, -2147483647, 2147483647)
WRONG_NUMBERS = (
    WRONG_LENGTHS
    + tuple([part, 1] for part in TOO_GREAT)
    + tuple([1, part] for part in TOO_GREAT)
    + tuple([part, part] for part in TOO_GREAT)
    + tuple([part, -part] for part in TOO_GREAT)
)

# Each of m and x wrong by itself, and both.
WRONG_M_OR_X = (
    tuple((m, x) for m in WRONG_M for x in ([0, 0], [1, 0], [0, 1], [-1, 1], [3, -4]) + WRONG_NUMBERS)
    + tuple((m, x) for m in ALL_M for x in WRONG_NUMBERS)
)
# Each of x and y wrong by itself, and both.
WRONG_PAIRS = (
    tuple((x, [3, 4]) for x in WRONG_NUMBERS)
    + tuple(([3, 4], y) for y in WRONG_NUMBERS)
    + tuple((x, y) for x in WRONG_NUMBERS for y in WRONG_NUMBERS)
)


def bounds_of_w(m):
    """Two fractions, w between them: w is m and 1 / w, so each step lands on the other side, nearer."""
    low = Fraction(m)
    for _ in range(40):
        high = m + 1 / low
        low = m + 1 / high
    return low, high


BOUNDS = {m: bounds_of_w(m) for m in ALL_M}


def true_sign(m, a, b):
    """1, 0 or -1, as a and b w lies; by bounds alone, which must not leave it open."""
    if a == 0 and b == 0:
        return 0
    ends = [a + b * bound for bound in BOUNDS[m]]
    if min(ends) > 0:
        return 1
    if max(ends) < 0:
        return -1
    raise AssertionError(f"the bounds are too wide for {m}, {a}, {b}")


def true_floor(m, a, b):
    """The greatest whole number that isn't above a and b w; by bounds alone, which must not leave it open."""
    low, high = [math.floor(a + b * bound) for bound in BOUNDS[m]]
    if low != high:
        raise AssertionError(f"the bounds are too wide for {m}, {a}, {b}")
    return low


def near_zero(m):
    """Pairs (number, above): the powers of w's partner, which is below 0 and above -1, up to the range's end.

    With p, q neighbours in 0, 1, m, m m + 1 .. the power is p less q w; even powers are above 0, odd ones below.
    """
    found = []
    q, p, even = 0, 1, True
    while p <= GREATEST:
        found.append(([p, -q], even))
        q, p, even = p, m * p + q, not even
    return found


def table(m, x):
    """What multiplying by x does to w and to 1, row by row; tables multiply and add as their numbers do."""
    a, b = x
    return ((a + m * b, b), (b, a))


def tables_product(one, other):
    columns = tuple(zip(*other))
    return tuple(tuple(sum(p * q for p, q in zip(row, column)) for column in columns) for row in one)


class Guarded(list):
    """A list that fails on any change, also one that would be taken back."""

    def refuse(self, *args, **kwargs):
        raise AssertionError("what was handed in was changed")

    append = clear = extend = insert = pop = remove = reverse = sort = refuse
    __setitem__ = __delitem__ = __iadd__ = __imul__ = refuse
