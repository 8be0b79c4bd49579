import itertools
import unittest

from nearestrows.nearest import nearest, total
from tests.helper import (
    Answers, PanelCall, REFUSED, majorities_row, pairs_of_panels, panels, small_panels, the_fewer, together,
)


def nearest_by_sorting(ok, v):
    """What nearest answers, found another way than the program finds it."""
    ranked = sorted((together(row, v), row) for row in ok)
    return [ranked[0][0]] + [row for so_far, row in ranked if so_far == ranked[0][0]]


def pairwise_rules(m):
    """Rules that rule out two answers at a time and no more at once, some of each kind."""
    rows = range(2 ** m)
    yield list(rows)
    for q in range(m - 1):
        one, other = 2 ** q, 2 ** (q + 1)
        yield [row for row in rows if not row & one or row & other]
        yield [row for row in rows if not row & one or not row & other]
        yield [row for row in rows if row & one or row & other]
        yield [row for row in rows if bool(row & one) == bool(row & other)]
    yield [row for row in rows if all(not row & 2 ** q or row & 2 ** (q + 1) for q in range(m - 1))]


class NearestPanel(PanelCall, unittest.TestCase):
    def ask(self, m, ok, v):
        return nearest(m, ok, v)


class NearestOrdinary(Answers, unittest.TestCase):
    def test_written_examples(self):
        for m, ok, v, expected in [
            (3, [1, 2, 4, 7], [1, 2, 2, 7], [4, 2]),
            (3, [7, 1, 4, 2], [1, 2, 4], [4, 1, 2, 4]),
            (3, [0, 1, 2, 4], [1, 2, 4], [3, 0]),
            (2, [3, 0], [0, 0, 3, 0], [2, 0]),
            (2, [3, 0], [3, 0, 3, 3], [2, 3]),
            (4, [15, 9, 6, 0], [6, 6, 15, 0], [4, 6]),
            (4, [12, 3, 10, 5], [12, 3, 3, 12], [8, 3, 5, 10, 12]),
            (5, [31, 16, 0], [16, 0, 0, 16, 31], [6, 16]),
            (5, [21, 10, 31, 4], [21, 21, 10, 10, 31, 31], [10, 31]),
        ]:
            with self.subTest(m=m, ok=ok, v=v):
                self.assert_answer(nearest(m, ok, v), expected)

    def test_a_row_that_no_judge_says(self):
        self.assert_answer(nearest(3, [6, 5, 3, 7], [6, 5, 3]), [3, 7])
        self.assert_answer(nearest(5, [7, 16, 23, 1, 2, 4], [1, 2, 4, 23, 23]), [8, 7])

    def test_a_row_that_may_not_stand_is_never_told(self):
        # Row 0 would be 3 in all, less than any that may stand.
        self.assert_answer(nearest(3, [1, 2, 4], [4, 2, 1]), [4, 1, 2, 4])

    def test_ok_in_any_order(self):
        for ok in itertools.permutations([0, 3, 5, 6, 7]):
            with self.subTest(ok=ok):
                self.assert_answer(nearest(3, list(ok), [6, 0, 6, 3]), [4, 6])
                self.assert_answer(nearest(3, list(ok), [6, 0, 5, 3]), [6, 0, 3, 5, 6, 7])

    def test_judges_in_any_order(self):
        for v in itertools.permutations([6, 0, 5, 3, 6]):
            with self.subTest(v=v):
                self.assert_answer(nearest(3, [7, 5, 6, 3, 0], list(v)), [6, 6])

    def test_all_small_panels(self):
        for m, ok, v in small_panels():
            with self.subTest(m=m, ok=ok, v=v):
                self.assert_answer(nearest(m, ok, v), nearest_by_sorting(ok, v))

    def test_larger_panels(self):
        for m, ok, v in panels():
            with self.subTest(m=m, ok=ok, v=v):
                self.assert_answer(nearest(m, ok, v), nearest_by_sorting(ok, v))


class NearestCorners(Answers, unittest.TestCase):
    def test_one_judge(self):
        for m in range(1, 6):
            for said in range(2 ** m):
                with self.subTest(m=m, said=said):
                    self.assert_answer(nearest(m, list(range(2 ** m)), [said]), [0, said])

    def test_two_judges_and_ties(self):
        self.assert_answer(nearest(3, [7, 0], [0, 7]), [3, 0, 7])
        self.assert_answer(nearest(3, [7, 5, 0], [7, 0]), [3, 0, 5, 7])
        self.assert_answer(nearest(3, [2, 7], [2, 2]), [0, 2])
        self.assert_answer(nearest(5, [31, 0], [0, 31] * 7), [35, 0, 31])
        self.assert_answer(nearest(5, [31, 0], [0, 31] * 7 + [31]), [35, 31])

    def test_rules_of_one_row(self):
        for m in range(1, 6):
            for row in range(2 ** m):
                for judges in (1, 2, 15):
                    with self.subTest(m=m, row=row, judges=judges):
                        self.assert_answer(nearest(m, [row], [row] * judges), [0, row])

    def test_all_rows(self):
        self.assert_answer(nearest(1, [1, 0], [0, 1, 0]), [1, 0])
        self.assert_answer(nearest(1, [1, 0], [0, 1]), [1, 0, 1])
        self.assert_answer(nearest(2, [2, 3, 1, 0], [1, 3]), [1, 1, 3])
        self.assert_answer(nearest(5, list(range(31, -1, -1)), [31, 0]), [5] + list(range(32)))
        self.assert_answer(nearest(5, list(range(32)), [31, 1, 30]), [5, 31])

    def test_judges_who_all_say_the_same(self):
        for judges in range(1, 16):
            with self.subTest(judges=judges):
                self.assert_answer(nearest(5, [16, 15, 3], [15] * judges), [0, 15])

    def test_fifteen_judges(self):
        self.assert_answer(nearest(5, [31, 0], [31] * 7 + [0] * 8), [35, 0])
        self.assert_answer(nearest(5, [0, 31, 7], [31] * 5 + [0] * 5 + [7] * 5), [25, 7])

    def test_lists_that_the_caller_changed_since(self):
        ok, v = [7, 1, 2], [7, 2, 7]
        self.assert_answer(nearest(3, ok, v), [2, 7])
        v.extend([2, 2])
        self.assert_answer(nearest(3, ok, v), [4, 2])
        ok.remove(7)
        self.assert_answer(nearest(3, ok, v), REFUSED)


class NearestWhatHolds(Answers, unittest.TestCase):
    """Of "What holds" what it says of the nearest in all."""

    def test_as_far_as_total_tells_and_none_that_may_stand_is_less_far(self):
        for m, ok, v in panels():
            with self.subTest(m=m, ok=ok, v=v):
                answered = nearest(m, ok, v)
                for row in ok:
                    if row in answered[1:]:
                        self.assertEqual(total(m, row, ok, v), answered[:1])
                    else:
                        self.assertGreater(total(m, row, ok, v), answered[:1])

    def test_none_is_less_far_than_the_fewer(self):
        for m, ok, v in panels():
            with self.subTest(m=m, ok=ok, v=v):
                self.assertGreaterEqual(nearest(m, ok, v)[0], the_fewer(m, v))
                self.assertEqual(nearest(m, list(range(2 ** m)), v)[0], the_fewer(m, v))

    def test_of_all_rows_the_majorities_row_alone_is_nearest_to_an_odd_number(self):
        for m, ok, v in panels():
            if len(v) % 2 == 1:
                with self.subTest(m=m, v=v):
                    expected = [the_fewer(m, v), majorities_row(m, v)]
                    self.assert_answer(nearest(m, list(range(2 ** m)), v), expected)

    def test_where_answers_clash_by_twos_the_majorities_row_alone_is_nearest_to_an_odd_number(self):
        for m in range(1, 6):
            for ok in pairwise_rules(m):
                for judges in (1, 3, 5, 15):
                    for step in (1, 2, 3):
                        v = [ok[(step * k * k + k) % len(ok)] for k in range(judges)]
                        with self.subTest(m=m, ok=ok, v=v):
                            expected = [the_fewer(m, v), majorities_row(m, v)]
                            self.assert_answer(nearest(m, ok, v), expected)

    def test_what_is_nearest_for_two_panels_is_nearest_for_all(self):
        with_a_common_row = 0
        for m, ok, v, other in pairs_of_panels():
            for_both = sorted(set(nearest(m, ok, v)[1:]) & set(nearest(m, ok, other)[1:]))
            if for_both:
                with_a_common_row += 1
                with self.subTest(m=m, ok=ok, v=v, other=other):
                    so_far = nearest(m, ok, v)[0] + nearest(m, ok, other)[0]
                    self.assert_answer(nearest(m, ok, v + other), [so_far] + for_both)
        self.assertGreater(with_a_common_row, 1000)

    def test_a_judge_who_says_one_of_the_nearest_instead(self):
        for m, ok, v in panels():
            before = nearest(m, ok, v)[1:]
            for judge in range(len(v)):
                for row in before:
                    with self.subTest(m=m, ok=ok, v=v, judge=judge, row=row):
                        after = nearest(m, ok, v[:judge] + [row] + v[judge + 1:])[1:]
                        self.assertIn(row, after)
                        self.assertLessEqual(set(after), set(before))

    def test_some_judges_row_is_at_most_twice_as_far(self):
        for m, ok, v in panels():
            with self.subTest(m=m, ok=ok, v=v):
                nearest_judge = min(total(m, said, ok, v)[0] for said in v)
                self.assertLessEqual(nearest_judge, 2 * nearest(m, ok, v)[0])


if __name__ == "__main__":
    unittest.main()
