"""Numbers a and b w, told as [a, b]; w is the one above 0 whose square is m w and 1."""

WRONG_INPUT = -22
NO_SUCH_NUMBER = -33
GREATEST_M = 4
GREATEST_PART = 1000000
GREATEST_POWER = 60


def fits_m(m):
    return 1 <= m and m <= GREATEST_M


def fits_number(x):
    if len(x) != 2:
        return False
    return abs(x[0]) <= GREATEST_PART and abs(x[1]) <= GREATEST_PART


def signed_square(t):
    return t * abs(t)


def side(m, a, b):
    """A whole number that is above 0, 0 or below 0 just as a and b w is; a and b may be of any size."""
    # Twice w is m and the root of m m + 4, so twice the number is 2 a + m b and b times that root.
    # A square that keeps its sign keeps the order too: both parts are squared so, and no root is taken.
    return signed_square(2 * a + m * b) + (m * m + 4) * signed_square(b)


def product(m, x, y):
    """[a, b], both multiplied; what they hold may be of any size."""
    # w by w is m w and 1, so what stands at w by w goes to both parts.
    squares = x[1] * y[1]
    return [x[0] * y[0] + squares, x[0] * y[1] + x[1] * y[0] + m * squares]


def sign(m, x):
    """[2] if x is above 0, [1] if it is 0, [0] if it is below; [-22] if m or x is not as told."""
    if not fits_m(m) or not fits_number(x):
        return [WRONG_INPUT]
    found = side(m, x[0], x[1])
    if found > 0:
        return [2]
    if found == 0:
        return [1]
    return [0]


def before(m, x, y):
    """[1] if x is less than y, else [0]; [-22] if m, x or y is not as told."""
    if not fits_m(m) or not fits_number(x) or not fits_number(y):
        return [WRONG_INPUT]
    if side(m, y[0] - x[0], y[1] - x[1]) > 0:
        return [1]
    return [0]


def plus(x, y):
    """[0, a, b], both added; [-22] if x or y is not as told."""
    if not fits_number(x) or not fits_number(y):
        return [WRONG_INPUT]
    return [0, x[0] + y[0], x[1] + y[1]]


def times(m, x, y):
    """[0, a, b], both multiplied; [-22] if m, x or y is not as told."""
    if not fits_m(m) or not fits_number(x) or not fits_number(y):
        return [WRONG_INPUT]
    return [0] + product(m, x, y)


def partner(m, x):
    """[0, a, b], x with m less w in w's place; [-22] if m or x is not as told."""
    if not fits_m(m) or not fits_number(x):
        return [WRONG_INPUT]
    return [0, x[0] + m * x[1], -x[1]]


def norm(m, x):
    """[0, n], n being x times its partner; [-22] if m or x is not as told."""
    if not fits_m(m) or not fits_number(x):
        return [WRONG_INPUT]
    # w times its partner is -1, and w and its partner together are m.
    return [0, x[0] * x[0] + m * x[0] * x[1] - x[1] * x[1]]


def floor(m, x):
    """[0, n], n being the greatest whole number that is not above x; [-22] if m or x is not as told."""
    if not fits_m(m) or not fits_number(x):
        return [WRONG_INPUT]
    # w lies between m and m + 1, so x lies between what these make of it.
    ends = [x[0] + m * x[1], x[0] + (m + 1) * x[1]]
    low = min(ends)
    high = max(ends) + 1
    # All along low is not above x, and high is.
    while high - low > 1:
        middle = (low + high) // 2
        if side(m, x[0] - middle, x[1]) < 0:
            high = middle
        else:
            low = middle
    return [0, low]


def unit(m, s, k):
    """[0, a, b], w to the power of k, of k below 0 if s is 1; [-22] if m, s or k is not as told."""
    if not fits_m(m) or s > 1 or k > GREATEST_POWER:
        return [WRONG_INPUT]
    # w times w less m is 1, so w less m is w to the power of -1.
    step = [0, 1] if s == 0 else [-m, 1]
    power = [1, 0]
    for turn in range(k):
        power = product(m, power, step)
    return [0] + power


def divide(m, x, y):
    """[0, a, b], the number that times y is x; [-22] if m, x or y is not as told, [-33] if there is none."""
    if not fits_m(m) or not fits_number(x) or not fits_number(y):
        return [WRONG_INPUT]
    # x by y is x times y's partner, by the norm of y: a whole number, so both parts are divided by it alone.
    whole = norm(m, y)[1]
    # m m + 4 is no square for m from 1 to 4, so 0 alone has the norm 0.
    if whole == 0:
        return [NO_SUCH_NUMBER]
    parts = product(m, x, partner(m, y)[1:])
    if parts[0] % whole != 0 or parts[1] % whole != 0:
        return [NO_SUCH_NUMBER]
    return [0, parts[0] // whole, parts[1] // whole]
