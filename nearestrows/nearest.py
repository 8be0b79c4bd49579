"""How far rows of answers are: each call gives back a list of whole numbers."""

REFUSAL = -22
MOST_QUESTIONS = 5
MOST_JUDGES = 15
MOST_WEIGHT = 9


def questions_fit(m):
    return 1 <= m <= MOST_QUESTIONS


def row_count(m):
    """How many rows m questions have; m must fit, for a huge m would be looped through."""
    count = 1
    for q in range(m):
        count = count * 2
    return count


def row_fits(m, row):
    return row < row_count(m)


def rules_fit(m, ok):
    none_twice = len(set(ok)) == len(ok)
    return len(ok) > 0 and none_twice and all([row_fits(m, row) for row in ok])


def judges_fit(ok, v):
    return 1 <= len(v) <= MOST_JUDGES and all([row in ok for row in v])


def panel_fits(m, ok, v):
    # m is asked first: row_fits may only be asked of an m that fits.
    return questions_fit(m) and rules_fit(m, ok) and judges_fit(ok, v)


def weights_fit(m, w):
    return len(w) == m and all([weight <= MOST_WEIGHT for weight in w])


def answer_to(row, q):
    return (row >> q) & 1


def questions_apart(m, x, y):
    return [q for q in range(m) if answer_to(x, q) != answer_to(y, q)]


def how_far(m, x, y):
    return len(questions_apart(m, x, y))


def how_far_weighed(m, x, y, w):
    return sum([w[q] for q in questions_apart(m, x, y)])


def far_in_all(m, row, v):
    return sum([how_far(m, row, said) for said in v])


def far_in_all_weighed(m, row, v, w):
    return sum([how_far_weighed(m, row, said, w) for said in v])


def far_at_worst(m, row, v):
    return max([how_far(m, row, said) for said in v])


def least_far(ok, fars):
    """The least of fars, then the rows that are so far, rising; fars has one for each row of ok, in its order."""
    least = min(fars)
    return [least] + sorted([row for row, so_far in zip(ok, fars) if so_far == least])


def fewer_on(q, v):
    yes = sum([answer_to(said, q) for said in v])
    return min(yes, len(v) - yes)


def fewer_in_all(m, v):
    return sum([fewer_on(q, v) for q in range(m)])


def far(m, x, y):
    """On how many of m questions rows x and y differ."""
    # m is asked first: row_fits may only be asked of an m that fits.
    if not questions_fit(m) or not row_fits(m, x) or not row_fits(m, y):
        return [REFUSAL]
    return [how_far(m, x, y)]


def total(m, r, ok, v):
    """How far row r is in all from what the judges say; r itself needn't be a row that may stand."""
    if not panel_fits(m, ok, v) or not row_fits(m, r):
        return [REFUSAL]
    return [far_in_all(m, r, v)]


def nearest(m, ok, v):
    """How far the rows that may stand and are nearest in all are, then these rows, rising."""
    if not panel_fits(m, ok, v):
        return [REFUSAL]
    return least_far(ok, [far_in_all(m, row, v) for row in ok])


def low(m, ok, v):
    """The fewer, below which no row is in all, then 1 if some row that may stand is just so far, else 0."""
    if not panel_fits(m, ok, v):
        return [REFUSAL]
    fewer = fewer_in_all(m, v)
    reached = fewer in [far_in_all(m, row, v) for row in ok]
    return [fewer, 1 if reached else 0]


def worst(m, ok, v):
    """How far at worst the rows that may stand and are nearest at worst are, then these rows, rising."""
    if not panel_fits(m, ok, v):
        return [REFUSAL]
    return least_far(ok, [far_at_worst(m, row, v) for row in ok])


def weighed(m, ok, v, w):
    """How far the rows that may stand and are nearest in all, weighed, are, then these rows, rising."""
    if not panel_fits(m, ok, v) or not weights_fit(m, w):
        return [REFUSAL]
    return least_far(ok, [far_in_all_weighed(m, row, v, w) for row in ok])
