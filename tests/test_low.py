import itertools
import unittest

from nearestrows.nearest import low, nearest, total
from tests.helper import Answers, PanelCall, REFUSED, majorities_row, panels, small_panels, the_fewer, together


def low_by_counting(m, ok, v):
    """What low answers, found another way than the program finds it."""
    fewer = the_fewer(m, v)
    return [fewer, int(any(together(row, v) == fewer for row in ok))]


class LowPanel(PanelCall, unittest.TestCase):
    def ask(self, m, ok, v):
        return low(m, ok, v)


class LowOrdinary(Answers, unittest.TestCase):
    def test_some_row_that_may_stand_is_just_so_far(self):
        for m, ok, v, fewer in [
            (3, [0, 1, 2, 4], [1, 2, 4], 3),
            (3, [7, 1, 2], [2, 7, 7], 2),
            (2, [3, 0], [0, 0, 3, 0], 2),
            (4, [15, 6, 0, 9], [6, 6, 15, 0], 4),
            (5, [31, 16, 0], [16, 0, 0, 31, 0], 6),
            (5, [28, 7, 31], [7, 28, 31, 31], 4),
        ]:
            with self.subTest(m=m, ok=ok, v=v):
                self.assert_answer(low(m, ok, v), [fewer, 1])

    def test_none_that_may_stand_is_just_so_far(self):
        for m, ok, v, fewer in [
            (3, [7, 1, 4, 2], [1, 2, 4], 3),
            (3, [7, 1, 2], [2, 7, 1], 3),
            (3, [0, 3, 5, 6], [6, 5, 3], 3),
            (3, [0, 3, 5, 6], [6, 5, 3, 6, 5, 3, 0], 9),
            (4, [0, 14, 13, 11, 7], [14, 13, 11, 7, 7], 5),
            (5, [1, 2, 4, 8, 16], [1, 2, 4, 8, 16], 5),
        ]:
            with self.subTest(m=m, ok=ok, v=v):
                self.assert_answer(low(m, ok, v), [fewer, 0])

    def test_a_row_that_no_judge_says(self):
        self.assert_answer(low(3, [6, 5, 3, 7], [6, 5, 3]), [3, 1])
        self.assert_answer(low(3, [6, 5, 3], [6, 5, 3]), [3, 0])

    def test_ok_in_any_order(self):
        for ok in itertools.permutations([0, 3, 5, 6]):
            with self.subTest(ok=ok):
                self.assert_answer(low(3, list(ok), [6, 0, 6, 3, 5]), [6, 1])
                self.assert_answer(low(3, list(ok), [6, 3, 6, 3, 5]), [5, 0])

    def test_judges_in_any_order(self):
        for v in itertools.permutations([6, 3, 6, 3, 5]):
            with self.subTest(v=v):
                self.assert_answer(low(3, [5, 6, 3], list(v)), [5, 0])
                self.assert_answer(low(3, [5, 6, 7, 3], list(v)), [5, 1])

    def test_all_small_panels(self):
        for m, ok, v in small_panels():
            with self.subTest(m=m, ok=ok, v=v):
                self.assert_answer(low(m, ok, v), low_by_counting(m, ok, v))

    def test_rules_of_three_questions(self):
        seen = set()
        for size in range(1, 9):
            for ok in itertools.combinations(range(8), size):
                for v in itertools.combinations(ok, min(size, 3)):
                    with self.subTest(ok=ok, v=v):
                        self.assert_answer(low(3, list(ok), list(v)), low_by_counting(3, ok, v))
                        seen.add(low(3, list(ok), list(v))[1])
        self.assertEqual(seen, {0, 1})

    def test_larger_panels(self):
        for m, ok, v in panels():
            with self.subTest(m=m, ok=ok, v=v):
                self.assert_answer(low(m, ok, v), low_by_counting(m, ok, v))


class LowCorners(Answers, unittest.TestCase):
    def test_one_judge(self):
        for m in range(1, 6):
            for said in range(2 ** m):
                with self.subTest(m=m, said=said):
                    self.assert_answer(low(m, list(range(2 ** m)), [said]), [0, 1])
                    self.assert_answer(low(m, [said], [said]), [0, 1])

    def test_two_judges_and_ties(self):
        self.assert_answer(low(1, [0, 1], [0, 1]), [1, 1])
        self.assert_answer(low(3, [7, 0], [0, 7]), [3, 1])
        self.assert_answer(low(3, [7, 5, 0], [7, 5]), [1, 1])
        self.assert_answer(low(3, [2, 7], [2, 2]), [0, 1])
        self.assert_answer(low(5, [31, 0], [0, 31] * 7), [35, 1])

    def test_a_tie_on_one_question_and_majorities_on_the_others(self):
        # Question 0 is tied, so both 14 and 15 are just so far; no judge says either.
        v = [6, 7, 10, 11, 12, 13]
        self.assert_answer(low(4, v + [0], v), [9, 0])
        self.assert_answer(low(4, v + [14], v), [9, 1])
        self.assert_answer(low(4, [15] + v, v), [9, 1])

    def test_rules_of_one_row(self):
        for m in range(1, 6):
            for row in range(2 ** m):
                for judges in (1, 2, 15):
                    with self.subTest(m=m, row=row, judges=judges):
                        self.assert_answer(low(m, [row], [row] * judges), [0, 1])

    def test_of_all_rows_some_row_is_just_so_far(self):
        for m, ok, v in panels():
            with self.subTest(m=m, v=v):
                self.assert_answer(low(m, list(range(2 ** m)), v), [the_fewer(m, v), 1])

    def test_judges_who_all_say_the_same(self):
        for judges in range(1, 16):
            with self.subTest(judges=judges):
                self.assert_answer(low(5, [16, 15, 3], [15] * judges), [0, 1])
                self.assert_answer(low(5, [16, 31, 3], [31] * judges), [0, 1])
                self.assert_answer(low(5, [16, 0, 3], [0] * judges), [0, 1])

    def test_fifteen_judges(self):
        self.assert_answer(low(5, [31, 0], [31] * 7 + [0] * 8), [35, 1])
        self.assert_answer(low(5, [31, 0], [31] * 8 + [0] * 7), [35, 1])
        self.assert_answer(low(3, [1, 2, 4], [1] * 5 + [2] * 5 + [4] * 5), [15, 0])

    def test_m_counts_every_question(self):
        for m in range(1, 6):
            last = 2 ** m - 1
            with self.subTest(m=m):
                self.assert_answer(low(m, [0, last], [0, last, last]), [m, 1])

    def test_lists_that_the_caller_changed_since(self):
        ok, v = [1, 2, 4, 0], [1, 2, 4]
        self.assert_answer(low(3, ok, v), [3, 1])
        ok.remove(0)
        self.assert_answer(low(3, ok, v), [3, 0])
        v.extend([2, 2])
        self.assert_answer(low(3, ok, v), [4, 1])
        ok.remove(1)
        self.assert_answer(low(3, ok, v), REFUSED)


class LowWhatHolds(unittest.TestCase):
    """Of "What holds" what it says of the fewer."""

    def test_no_row_is_less_far_in_all_than_the_fewer(self):
        for m, ok, v in panels():
            fewer = low(m, ok, v)[0]
            for r in range(2 ** m):
                with self.subTest(m=m, r=r, ok=ok, v=v):
                    self.assertGreaterEqual(total(m, r, ok, v)[0], fewer)

    def test_the_majorities_row_alone_is_just_so_far_from_an_odd_number(self):
        for m, ok, v in panels():
            if len(v) % 2 == 1:
                with self.subTest(m=m, ok=ok, v=v):
                    fewer, reached = low(m, ok, v)
                    just_so_far = [r for r in range(2 ** m) if total(m, r, ok, v) == [fewer]]
                    self.assertEqual(just_so_far, [majorities_row(m, v)])
                    self.assertEqual(reached == 1, majorities_row(m, v) in ok)

    def test_some_row_is_just_so_far_where_the_nearest_are(self):
        for m, ok, v in panels():
            with self.subTest(m=m, ok=ok, v=v):
                fewer, reached = low(m, ok, v)
                self.assertEqual(reached == 1, nearest(m, ok, v)[0] == fewer)


if __name__ == "__main__":
    unittest.main()
