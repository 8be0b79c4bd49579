"""What the tests share."""

import itertools

REFUSED = [-22]
HUGE = 4294967295


class Answers:
    """Assertions on what a call gives back; mixed into a TestCase."""

    def assert_answer(self, got, expected):
        """Equal, and of the very kinds the interface names (True is not 1 here)."""
        self.assertIs(type(got), list)
        for number in got:
            self.assertIs(type(number), int)
        self.assertEqual(got, expected)


def bits_apart(x, y):
    """How far two rows are, counted another way than the program counts it."""
    return bin(x ^ y).count("1")


def together(r, v):
    """How far row r is in all from what the judges say, counted another way."""
    return sum(bits_apart(r, said) for said in v)


def the_fewer(m, v):
    fewer = 0
    for q in range(m):
        yes = sum(1 for said in v if said & 2 ** q)
        fewer += min(yes, len(v) - yes)
    return fewer


def majorities_row(m, v):
    return sum(2 ** q for q in range(m) if 2 * sum(1 for said in v if said & 2 ** q) > len(v))


def panels():
    """Panels of each m: ok in a shuffled order, judges from 1 to 15, several saying the same."""
    for m in range(1, 6):
        rows = 2 ** m
        for size in sorted({1, 2, rows // 2, rows - 1, rows} - {0}):
            for step in (1, 3, 5):
                ok = [(7 + step * k) % rows for k in range(size)]
                for judges in (1, 2, 3, 4, 7, 14, 15):
                    yield m, ok, [ok[(step * k * k + k // 2) % size] for k in range(judges)]


def small_panels():
    """All rules of one and two questions, in every order, with all that up to four judges may say."""
    for m in (1, 2):
        for size in range(1, 2 ** m + 1):
            for ok in itertools.permutations(range(2 ** m), size):
                for judges in (1, 2, 3, 4):
                    for v in itertools.product(ok, repeat=judges):
                        yield m, list(ok), list(v)


def small_rules(m):
    """All rules of m questions, rising."""
    for size in range(1, 2 ** m + 1):
        yield from itertools.combinations(range(2 ** m), size)


def pairs_of_panels():
    """Two panels under the same rules, together 15 judges at most."""
    for m in (1, 2):
        for ok in small_rules(m):
            said = [v for n in (1, 2, 3) for v in itertools.combinations_with_replacement(ok, n)]
            for v, other in itertools.product(said, repeat=2):
                yield m, list(ok), list(v), list(other)
    for m, ok, v in panels():
        for judges in (1, 2, 4, 8):
            for step in (1, 2, 7):
                if len(v) + judges <= 15:
                    yield m, ok, v, [ok[(step * k * k + 3 * k + step) % len(ok)] for k in range(judges)]


class Untouchable(list):
    """A list that fails as soon as it is changed, even if it were put back after."""

    def refuse(self, *arguments, **named):
        raise AssertionError("a list that was handed in is changed")

    __setitem__ = __delitem__ = __iadd__ = __imul__ = refuse
    append = clear = extend = insert = pop = remove = reverse = sort = refuse


class PanelCall(Answers):
    """What holds of each call on a panel, its answer aside; mixed into a TestCase with ask(m, ok, v)."""

    WRONG = {
        "m": [0, 6, HUGE],
        "ok": [[], [1, 1], [6, 1, 6], [1, 6, 8], [1, 6, 255], list(range(40)), [1] * 40],
        "v": [[], [1] * 16, [6] * 40, [2], [6, 1, 7], [255, 6], [8]],
    }
    RIGHT = {"m": [3], "ok": [[6, 1]], "v": [[6, 1, 6]]}

    def panels_with_faults(self):
        """Every choice of wrong arguments among right ones: each by itself and several at once."""
        names = ["m", "ok", "v"]
        for count in range(1, len(names) + 1):
            for chosen in itertools.combinations(names, count):
                yield from itertools.product(*[(self.WRONG if n in chosen else self.RIGHT)[n] for n in names])

    def assert_refused(self, m, ok, v):
        with self.subTest(m=m, ok=ok, v=v):
            self.assert_answer(self.ask(m, ok, v), REFUSED)

    def assert_answered(self, m, ok, v):
        with self.subTest(m=m, ok=ok, v=v):
            self.assertGreaterEqual(min(self.ask(m, ok, v)), 0)

    def test_m_is_1_to_5(self):
        for m in [1, 2, 3, 4, 5]:
            self.assert_answered(m, [0, 1], [1, 0, 1])
        for m in [0, 6, 7, 8, 255, HUGE]:
            self.assert_refused(m, [0, 1], [1, 0, 1])

    def test_ok_has_one_at_least(self):
        for m in range(1, 6):
            self.assert_refused(m, [], [])
            self.assert_refused(m, [], [0])
            self.assert_answered(m, [0], [0])

    def test_ok_has_none_twice(self):
        for ok in [[1, 1], [1, 2, 1], [2, 1, 1], [1, 1, 1], [1, 0, 3, 2, 0]]:
            self.assert_refused(2, ok, [1])
        self.assert_refused(5, list(range(32)) + [31], [1])

    def test_ok_has_none_that_is_not_below(self):
        for m in range(1, 6):
            everything = list(range(2 ** m))
            self.assert_answered(m, everything, [0])
            self.assert_answered(m, everything[::-1], [2 ** m - 1])
            for wrong in [2 ** m, 2 ** m + 1, 255]:
                for ok in [[0, wrong], [wrong, 0], [1, wrong, 0], everything + [wrong]]:
                    self.assert_refused(m, ok, [0])
                self.assert_refused(m, [wrong], [wrong])

    def test_lists_of_forty_numbers(self):
        for forty in [list(range(40)), [k % 32 for k in range(40)], [0] * 40]:
            self.assert_refused(5, forty, [0])
            self.assert_refused(5, list(range(32)), forty)
            self.assert_refused(5, forty, forty)

    def test_ok_in_any_order(self):
        for m, ok, v in panels():
            for order in (sorted(ok), sorted(ok, reverse=True), ok[::-1]):
                with self.subTest(m=m, ok=order, v=v):
                    self.assert_answer(self.ask(m, order, v), self.ask(m, ok, v))

    def test_judges_are_1_to_15(self):
        for judges in range(1, 16):
            self.assert_answered(3, [0, 5], [5] * judges)
        for judges in [0, 16, 17, 40]:
            self.assert_refused(3, [0, 5], [5] * judges)

    def test_each_judge_says_a_row_of_ok(self):
        for v in [[3], [3, 1], [1, 3], [1, 3, 2], [0], [4], [255], [1] * 14 + [3]]:
            self.assert_refused(2, [2, 1], v)

    def test_refusals_by_themselves_and_several_at_once(self):
        self.assert_answered(3, [6, 1], [6, 1, 6])
        for m, ok, v in self.panels_with_faults():
            self.assert_refused(m, ok, v)

    def test_lists_stay_as_they_were(self):
        for m, ok, v in itertools.chain(panels(), self.panels_with_faults()):
            with self.subTest(m=m, ok=ok, v=v):
                given_ok, given_v = list(ok), list(v)
                self.ask(m, given_ok, given_v)
                self.assertEqual((given_ok, given_v), (ok, v))

    def test_lists_are_not_changed_for_a_while_either(self):
        for m, ok, v in itertools.chain(panels(), self.panels_with_faults()):
            with self.subTest(m=m, ok=ok, v=v):
                self.assert_answer(self.ask(m, Untouchable(ok), Untouchable(v)), self.ask(m, ok, v))

    def test_one_list_as_both(self):
        rows = [5, 0, 3]
        self.assert_answer(self.ask(3, rows, rows), self.ask(3, [5, 0, 3], [5, 0, 3]))
        self.assertEqual(rows, [5, 0, 3])

    def test_called_again(self):
        asked = list(itertools.chain(panels(), self.panels_with_faults()))
        first = [self.ask(m, ok, v) for m, ok, v in asked]
        for (m, ok, v), answered in zip(reversed(asked), reversed(first)):
            with self.subTest(m=m, ok=ok, v=v):
                self.assert_answer(self.ask(m, ok, v), answered)

    def test_what_was_given_back_is_the_callers_own(self):
        for m, ok, v in [(3, [7, 1, 2], [7, 2, 7]), (0, [7, 1, 2], [7, 2, 7])]:
            with self.subTest(m=m):
                got = self.ask(m, ok, v)
                answered = list(got)
                got.append(7)
                self.assert_answer(self.ask(m, ok, v), answered)
