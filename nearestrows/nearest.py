"""How far rows of answers are: each call gives back a list of whole numbers."""

REFUSAL = -22
MOST_QUESTIONS = 5


def questions_fit(m):
    return 1 <= m <= MOST_QUESTIONS


def row_count(m):
    """How many rows m questions have; m must fit, for a huge m would be looped through."""
    count = 1
    for q in range(m):
        count = count * 2
    return count


def row_fits(m, row):
    return row < row_count(m)


def answer_to(row, q):
    return (row >> q) & 1


def how_far(m, x, y):
    return len([q for q in range(m) if answer_to(x, q) != answer_to(y, q)])


def far(m, x, y):
    """On how many of m questions rows x and y differ."""
    # m is asked first: row_fits may only be asked of an m that fits.
    if not questions_fit(m) or not row_fits(m, x) or not row_fits(m, y):
        return [REFUSAL]
    return [how_far(m, x, y)]
