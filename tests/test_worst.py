import itertools
import unittest

from nearestrows.nearest import far, nearest, worst
from tests.helper import Answers, PanelCall, REFUSED, bits_apart, pairs_of_panels, panels, small_panels


def worst_by_widening(m, ok, v):
    """What worst answers, found another way: by letting rows be farther and farther until one may stand."""
    for reach in range(m + 1):
        within = [row for row in range(2 ** m) if row in ok and all(bits_apart(row, said) <= reach for said in v)]
        if within:
            return [reach] + within


class WorstPanel(PanelCall, unittest.TestCase):
    def ask(self, m, ok, v):
        return worst(m, ok, v)


class WorstOrdinary(Answers, unittest.TestCase):
    def test_one_row_is_nearest_at_worst(self):
        for m, ok, v, expected in [
            (3, [0, 1, 7], [0, 0, 0, 7], [2, 1]),
            (3, [7, 4, 2, 1, 0], [4, 1, 2, 4], [1, 0]),
            (3, [7, 5, 6, 3], [6, 5, 3, 3], [1, 7]),
            (4, [15, 9, 6, 0], [6, 6, 15, 0], [2, 6]),
            (5, [31, 0, 16, 7], [0, 31, 0, 0, 31], [3, 7]),
        ]:
            with self.subTest(m=m, ok=ok, v=v):
                self.assert_answer(worst(m, ok, v), expected)

    def test_several_are_nearest_at_worst(self):
        for m, ok, v, expected in [
            (2, [3, 0], [0, 0, 3, 0], [2, 0, 3]),
            (3, [7, 1, 2], [2, 7, 7], [2, 1, 2, 7]),
            (3, [7, 1, 4, 2], [1, 2, 4], [2, 1, 2, 4, 7]),
            (4, [12, 3, 10, 5], [12, 3, 3, 12], [2, 5, 10]),
            (5, [31, 7, 0, 3], [31, 31, 0, 31], [3, 3, 7]),
        ]:
            with self.subTest(m=m, ok=ok, v=v):
                self.assert_answer(worst(m, ok, v), expected)

    def test_the_nearest_at_worst_are_not_the_nearest_in_all(self):
        for m, ok, v, at_worst, in_all in [
            (3, [0, 1, 7], [0, 0, 0, 7], [2, 1], [3, 0]),
            (2, [3, 0], [0, 0, 3, 0], [2, 0, 3], [2, 0]),
            (4, [12, 3, 10, 5], [12, 3, 3, 12], [2, 5, 10], [8, 3, 5, 10, 12]),
            (5, [31, 7, 0, 3], [31, 31, 0, 31], [3, 3, 7], [5, 31]),
        ]:
            with self.subTest(m=m, ok=ok, v=v):
                self.assert_answer(worst(m, ok, v), at_worst)
                self.assert_answer(nearest(m, ok, v), in_all)

    def test_a_row_that_may_not_stand_is_never_told(self):
        # Row 0 would be 1 at worst, less than any that may stand.
        self.assert_answer(worst(3, [4, 2, 1], [4, 2, 1]), [2, 1, 2, 4])
        self.assert_answer(worst(3, [4, 2, 0, 1], [4, 2, 1]), [1, 0])

    def test_ok_in_any_order(self):
        for ok in itertools.permutations([0, 3, 5, 6, 7]):
            with self.subTest(ok=ok):
                self.assert_answer(worst(3, list(ok), [6, 0, 6, 3]), [2, 0, 3, 5, 6])
                self.assert_answer(worst(3, list(ok), [6, 5, 3, 5]), [1, 7])

    def test_judges_in_any_order(self):
        for v in itertools.permutations([0, 7, 1, 0, 1]):
            with self.subTest(v=v):
                self.assert_answer(worst(3, [7, 1, 5, 0], list(v)), [2, 1, 5])

    def test_all_small_panels(self):
        for m, ok, v in small_panels():
            with self.subTest(m=m, ok=ok, v=v):
                self.assert_answer(worst(m, ok, v), worst_by_widening(m, ok, v))

    def test_rules_of_three_questions(self):
        for size in range(1, 9):
            for ok in itertools.combinations(range(8), size):
                for v in itertools.combinations(ok, min(size, 3)):
                    with self.subTest(ok=ok, v=v):
                        self.assert_answer(worst(3, list(ok), list(v)), worst_by_widening(3, ok, v))

    def test_larger_panels(self):
        for m, ok, v in panels():
            with self.subTest(m=m, ok=ok, v=v):
                self.assert_answer(worst(m, ok, v), worst_by_widening(m, ok, v))


class WorstCorners(Answers, unittest.TestCase):
    def test_one_judge(self):
        for m in range(1, 6):
            for said in range(2 ** m):
                with self.subTest(m=m, said=said):
                    self.assert_answer(worst(m, list(range(2 ** m)), [said]), [0, said])

    def test_two_judges_and_ties(self):
        self.assert_answer(worst(1, [1, 0], [0, 1]), [1, 0, 1])
        self.assert_answer(worst(3, [7, 0], [0, 7]), [3, 0, 7])
        self.assert_answer(worst(3, [7, 5, 0], [7, 0]), [2, 5])
        self.assert_answer(worst(3, [7, 5, 0, 4], [7, 0]), [2, 4, 5])
        self.assert_answer(worst(3, [2, 7], [2, 2]), [0, 2])
        self.assert_answer(worst(5, [31, 0], [0, 31] * 7), [5, 0, 31])

    def test_rules_of_one_row(self):
        for m in range(1, 6):
            for row in range(2 ** m):
                for judges in (1, 2, 15):
                    with self.subTest(m=m, row=row, judges=judges):
                        self.assert_answer(worst(m, [row], [row] * judges), [0, row])

    def test_all_rows(self):
        self.assert_answer(worst(1, [1, 0], [0, 1, 0]), [1, 0, 1])
        self.assert_answer(worst(2, [2, 3, 1, 0], [1, 3]), [1, 1, 3])
        self.assert_answer(worst(2, [2, 3, 1, 0], [0, 3, 3]), [1, 1, 2])
        between = [row for row in range(32) if bin(row).count("1") in (2, 3)]
        self.assert_answer(worst(5, list(range(31, -1, -1)), [31, 0]), [3] + between)
        # Of the rows below 16 each but 0 has a judge who says otherwise on four questions.
        self.assert_answer(worst(5, list(range(32)), list(range(15))), [3, 0])

    def test_judges_who_all_say_the_same(self):
        for judges in range(1, 16):
            with self.subTest(judges=judges):
                self.assert_answer(worst(5, [16, 15, 3], [15] * judges), [0, 15])

    def test_fifteen_judges(self):
        self.assert_answer(worst(5, [31, 0], [31] * 14 + [0]), [5, 0, 31])
        self.assert_answer(worst(5, [31, 0, 28], [0] + [31] * 14), [3, 28])
        self.assert_answer(worst(5, [31, 0, 28], [31] * 15), [0, 31])

    def test_m_counts_every_question(self):
        for m in range(1, 6):
            last = 2 ** m - 1
            with self.subTest(m=m):
                self.assert_answer(worst(m, [last, 0], [0, last, last]), [m, 0, last])

    def test_lists_that_the_caller_changed_since(self):
        ok, v = [7, 1, 0], [0, 0, 7]
        self.assert_answer(worst(3, ok, v), [2, 1])
        ok.append(3)
        self.assert_answer(worst(3, ok, v), [2, 1, 3])
        v.remove(7)
        self.assert_answer(worst(3, ok, v), [0, 0])
        ok.remove(0)
        self.assert_answer(worst(3, ok, v), REFUSED)


class WorstWhatHolds(Answers, unittest.TestCase):
    def test_at_worst_none_that_may_stand_is_less_far(self):
        for m, ok, v in panels():
            with self.subTest(m=m, ok=ok, v=v):
                answered = worst(m, ok, v)
                for row in ok:
                    farthest = max(far(m, row, said)[0] for said in v)
                    if row in answered[1:]:
                        self.assertEqual([farthest], answered[:1])
                    else:
                        self.assertGreater([farthest], answered[:1])

    def test_the_rows_are_rising_each_once_and_may_stand(self):
        for m, ok, v in panels():
            with self.subTest(m=m, ok=ok, v=v):
                rows = worst(m, ok, v)[1:]
                self.assertGreater(len(rows), 0)
                self.assertEqual(rows, sorted(set(rows)))
                self.assertLessEqual(set(rows), set(ok))

    def test_how_often_a_row_is_said_changes_nothing(self):
        for m, ok, v in panels():
            answered = worst(m, ok, v)
            once = sorted(set(v))
            for said in [once, once[::-1]] + [(v + [row] * 15)[:15] for row in once]:
                with self.subTest(m=m, ok=ok, v=v, said=said):
                    self.assert_answer(worst(m, ok, said), answered)

    def test_what_is_nearest_at_worst_for_two_panels_is_so_for_all(self):
        with_a_common_row = 0
        for m, ok, v, other in pairs_of_panels():
            one, another, together = worst(m, ok, v), worst(m, ok, other), worst(m, ok, v + other)
            for_both = set(one[1:]) & set(another[1:])
            if for_both:
                with_a_common_row += 1
                with self.subTest(m=m, ok=ok, v=v, other=other):
                    self.assertEqual(together[0], max(one[0], another[0]))
                    self.assertLessEqual(for_both, set(together[1:]))
        self.assertGreater(with_a_common_row, 1000)


if __name__ == "__main__":
    unittest.main()
