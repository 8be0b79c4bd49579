import itertools
import unittest

from nearestrows.nearest import nearest, weighed
from tests.helper import (
    Answers, HUGE, PanelCall, REFUSED, Untouchable, bits_apart, pairs_of_panels, panels, small_panels,
)


def weights(m):
    """Weights for m questions: rising, falling, mixed, with 0 among them, and all the same."""
    for w in [[1, 2, 3, 4, 5], [9, 7, 5, 3, 1], [3, 0, 9, 1, 6], [0, 8, 0, 2, 9], [0] * 5, [1] * 5, [9] * 5]:
        yield w[:m]
    yield [0] * (m - 1) + [9]


def stretched(row, w):
    """The row with each question asked as many times as it weighs: there weighed is how far rows are."""
    answers = ["1" if row & 2 ** q else "0" for q in range(len(w))]
    return int("0" + "".join(answer * weight for answer, weight in zip(answers, w)), 2)


def weighed_by_stretching(ok, v, w):
    """What weighed answers, found another way than the program finds it."""
    said = [stretched(row, w) for row in v]
    ranked = sorted((sum(bits_apart(stretched(row, w), other) for other in said), row) for row in ok)
    return [ranked[0][0]] + [row for so_far, row in ranked if so_far == ranked[0][0]]


class WeighedPanel(PanelCall, unittest.TestCase):
    """What is asked of m, ok and v, with weights that fit m, even one that is refused."""

    def ask(self, m, ok, v):
        return weighed(m, ok, v, [(7 * q + 2) % 10 for q in range(min(m, 40))])

    def wrong_weights(self, m):
        fitting = [2] * min(m, 5)
        yield from [[], fitting[1:], fitting + [2], [2] * 40, [0] * 40]
        for wrong in (10, 255):
            yield from [fitting[1:] + [wrong], [wrong] + fitting[1:], [wrong] * len(fitting)]

    def panels_with_wrong_weights(self):
        for m, ok, v in [(3, [6, 1], [6, 1, 6])] + list(self.panels_with_faults()):
            for w in self.wrong_weights(m):
                yield m, ok, v, w

    def test_wrong_weights_by_themselves_and_with_other_faults(self):
        for m, ok, v, w in self.panels_with_wrong_weights():
            with self.subTest(m=m, ok=ok, v=v, w=w):
                self.assert_answer(weighed(m, ok, v, w), REFUSED)

    def test_all_lists_stay_as_they_were(self):
        for m, ok, v, w in itertools.chain(weighed_panels(), self.panels_with_wrong_weights()):
            with self.subTest(m=m, ok=ok, v=v, w=w):
                given_ok, given_v, given_w = list(ok), list(v), list(w)
                weighed(m, given_ok, given_v, given_w)
                self.assertEqual((given_ok, given_v, given_w), (ok, v, w))

    def test_no_list_is_changed_for_a_while_either(self):
        for m, ok, v, w in itertools.chain(weighed_panels(), self.panels_with_wrong_weights()):
            with self.subTest(m=m, ok=ok, v=v, w=w):
                got = weighed(m, Untouchable(ok), Untouchable(v), Untouchable(w))
                self.assert_answer(got, weighed(m, ok, v, w))


def weighed_panels():
    for m, ok, v in panels():
        for w in weights(m):
            yield m, ok, v, w


class WeighedOrdinary(Answers, unittest.TestCase):
    def test_one_row_is_nearest(self):
        for m, ok, v, w, expected in [
            (3, [1, 2, 4, 7], [1, 2, 2, 7], [9, 1, 1], [20, 2]),
            (4, [9, 3, 5, 0], [0, 3, 0, 5, 3, 9, 0], [9, 1, 1, 1], [34, 3]),
            (2, [3, 0], [0, 0, 3, 0], [4, 3], [7, 0]),
            (5, [31, 16, 0], [16, 0, 0, 16, 31], [1, 1, 1, 1, 9], [22, 16]),
        ]:
            with self.subTest(m=m, ok=ok, v=v, w=w):
                self.assert_answer(weighed(m, ok, v, w), expected)

    def test_several_are_nearest(self):
        for m, ok, v, w, expected in [
            (3, [7, 1, 4, 2], [1, 2, 4], [9, 1, 1], [12, 2, 4]),
            (3, [5, 0, 3], [0, 3, 5], [1, 9, 1], [12, 0, 5]),
            (4, [9, 0, 5, 3], [0, 0, 3, 5, 9], [9, 1, 1, 1], [24, 3, 5, 9]),
            (2, [3, 0], [0, 3, 3, 0], [4, 3], [14, 0, 3]),
        ]:
            with self.subTest(m=m, ok=ok, v=v, w=w):
                self.assert_answer(weighed(m, ok, v, w), expected)

    def test_the_nearest_weighed_are_not_the_nearest_in_all(self):
        for m, ok, v, w, by_weight, in_all in [
            (3, [7, 1, 4, 2], [1, 2, 4], [9, 1, 1], [12, 2, 4], [4, 1, 2, 4]),
            (4, [9, 0, 5, 3], [0, 0, 3, 5, 9], [9, 1, 1, 1], [24, 3, 5, 9], [6, 0]),
            (4, [9, 3, 5, 0], [0, 3, 0, 5, 3, 9, 0], [9, 1, 1, 1], [34, 3], [8, 0]),
        ]:
            with self.subTest(m=m, ok=ok, v=v, w=w):
                self.assert_answer(weighed(m, ok, v, w), by_weight)
                self.assert_answer(nearest(m, ok, v), in_all)

    def test_the_first_weight_counts_for_question_0_and_so_on(self):
        for m in range(1, 6):
            w = [9, 2, 7, 4, 5][:m]
            for q in range(m):
                with self.subTest(m=m, q=q):
                    row = 2 ** q
                    self.assert_answer(weighed(m, [row, 0], [0, row], w), [w[q], 0, row])
                    last = 2 ** m - 1
                    self.assert_answer(weighed(m, [last - row, last], [last, last - row], w), [w[q], last - row, last])

    def test_a_row_that_may_not_stand_is_never_told(self):
        # Row 0 would be 11, less than any that may stand.
        self.assert_answer(weighed(3, [4, 2, 1], [4, 2, 1], [9, 1, 1]), [12, 2, 4])
        self.assert_answer(weighed(3, [4, 2, 0, 1], [4, 2, 1], [9, 1, 1]), [11, 0])

    def test_ok_in_any_order(self):
        for ok in itertools.permutations([0, 3, 5, 9]):
            with self.subTest(ok=ok):
                self.assert_answer(weighed(4, list(ok), [0, 0, 3, 5, 9], [9, 1, 1, 1]), [24, 3, 5, 9])
                self.assert_answer(weighed(4, list(ok), [0, 3, 0, 5, 3, 9, 0], [9, 1, 1, 1]), [34, 3])

    def test_judges_in_any_order(self):
        for v in itertools.permutations([0, 0, 3, 5, 9]):
            with self.subTest(v=v):
                self.assert_answer(weighed(4, [9, 0, 5, 3], list(v), [9, 1, 1, 1]), [24, 3, 5, 9])

    def test_all_small_panels(self):
        for m, ok, v in small_panels():
            for w in [[2, 3], [9, 0], [0, 5]]:
                with self.subTest(m=m, ok=ok, v=v, w=w[:m]):
                    self.assert_answer(weighed(m, ok, v, w[:m]), weighed_by_stretching(ok, v, w[:m]))

    def test_all_weights_of_two_questions(self):
        for w in itertools.product(range(10), repeat=2):
            for ok, v in [([3, 0, 2], [0, 3, 2]), ([1, 2], [1, 2, 2]), ([2, 1, 3, 0], [0, 3, 3, 1])]:
                with self.subTest(ok=ok, v=v, w=w):
                    self.assert_answer(weighed(2, ok, v, list(w)), weighed_by_stretching(ok, v, w))

    def test_larger_panels(self):
        for m, ok, v, w in weighed_panels():
            with self.subTest(m=m, ok=ok, v=v, w=w):
                self.assert_answer(weighed(m, ok, v, w), weighed_by_stretching(ok, v, w))


class WeighedCorners(Answers, unittest.TestCase):
    def test_one_judge(self):
        for m in range(1, 6):
            everything = list(range(2 ** m))
            for said in everything:
                with self.subTest(m=m, said=said):
                    self.assert_answer(weighed(m, everything, [said], [1, 9, 2, 8, 3][:m]), [0, said])

    def test_two_judges_and_ties(self):
        self.assert_answer(weighed(1, [1, 0], [0, 1], [6]), [6, 0, 1])
        self.assert_answer(weighed(3, [7, 0], [0, 7], [1, 2, 4]), [7, 0, 7])
        self.assert_answer(weighed(3, [7, 5, 0], [7, 0], [1, 2, 4]), [7, 0, 5, 7])
        self.assert_answer(weighed(3, [2, 7], [2, 2], [1, 2, 4]), [0, 2])
        self.assert_answer(weighed(5, [31, 0], [0, 31] * 7, [9] * 5), [315, 0, 31])

    def test_rules_of_one_row(self):
        for m in range(1, 6):
            for row in range(2 ** m):
                for judges in (1, 2, 15):
                    with self.subTest(m=m, row=row, judges=judges):
                        self.assert_answer(weighed(m, [row], [row] * judges, [9] * m), [0, row])

    def test_all_rows(self):
        self.assert_answer(weighed(1, [1, 0], [0, 1, 0], [7]), [7, 0])
        self.assert_answer(weighed(2, [2, 3, 1, 0], [1, 3], [5, 8]), [8, 1, 3])
        self.assert_answer(weighed(5, list(range(31, -1, -1)), [31, 0], [1, 2, 3, 4, 5]), [15] + list(range(32)))
        self.assert_answer(weighed(5, list(range(32)), [31, 1, 30], [1, 2, 3, 4, 5]), [15, 31])

    def test_judges_who_all_say_the_same(self):
        for judges in range(1, 16):
            with self.subTest(judges=judges):
                self.assert_answer(weighed(5, [16, 15, 3], [15] * judges, [1, 2, 3, 4, 5]), [0, 15])

    def test_a_weight_of_0(self):
        # Rows that differ only on the question without weight are as far as one another.
        self.assert_answer(weighed(2, [3, 1, 2], [1, 1, 2], [5, 0]), [5, 1, 3])
        self.assert_answer(weighed(2, [3, 1, 2], [1, 1, 2], [0, 5]), [5, 1])
        self.assert_answer(weighed(3, [7, 5, 0], [7], [2, 0, 2]), [0, 5, 7])
        self.assert_answer(weighed(1, [1, 0], [1], [0]), [0, 0, 1])

    def test_all_weights_0(self):
        for m, ok, v in panels():
            with self.subTest(m=m, ok=ok, v=v):
                self.assert_answer(weighed(m, ok, v, [0] * m), [0] + sorted(ok))

    def test_all_weights_1(self):
        for m, ok, v in itertools.chain(panels(), small_panels()):
            with self.subTest(m=m, ok=ok, v=v):
                self.assert_answer(weighed(m, ok, v, [1] * m), nearest(m, ok, v))

    def test_all_weights_the_same(self):
        for m, ok, v in panels():
            for weight in (2, 9):
                with self.subTest(m=m, ok=ok, v=v, weight=weight):
                    so_far, *rows = nearest(m, ok, v)
                    self.assert_answer(weighed(m, ok, v, [weight] * m), [weight * so_far] + rows)

    def test_farthest_of_all(self):
        self.assert_answer(weighed(5, [31, 0], [31] * 7 + [0] * 8, [9] * 5), [315, 0])

    def test_one_list_as_all(self):
        rows = [2, 0, 3]
        self.assert_answer(weighed(3, rows, rows, rows), weighed(3, [2, 0, 3], [2, 0, 3], [2, 0, 3]))
        self.assertEqual(rows, [2, 0, 3])

    def test_lists_that_the_caller_changed_since(self):
        ok, v, w = [3, 1, 2], [1, 1, 2], [5, 0]
        self.assert_answer(weighed(2, ok, v, w), [5, 1, 3])
        w[1] = 1
        self.assert_answer(weighed(2, ok, v, w), [6, 1])
        v.append(2)
        self.assert_answer(weighed(2, ok, v, w), [12, 1, 2, 3])
        w.append(1)
        self.assert_answer(weighed(2, ok, v, w), REFUSED)


class WeighedEdges(Answers, unittest.TestCase):
    def test_m(self):
        for m, w, expected in [
            (0, [], REFUSED), (0, [1], REFUSED),
            (1, [3], [3, 0]), (5, [3, 1, 1, 1, 1], [3, 0]),
            (6, [3, 1, 1, 1, 1, 1], REFUSED), (6, [3, 1, 1, 1, 1], REFUSED),
            (HUGE, [3] * 40, REFUSED), (HUGE, [], REFUSED),
        ]:
            with self.subTest(m=m, w=w):
                self.assert_answer(weighed(m, [0, 1], [0, 1, 0], w), expected)

    def test_how_many_weights(self):
        for m in range(1, 6):
            for count in list(range(8)) + [39, 40]:
                with self.subTest(m=m, count=count):
                    expected = [2, 0] if count == m else REFUSED
                    self.assert_answer(weighed(m, [1, 0], [1, 0, 0], [2] * count), expected)

    def test_each_weight_is_at_most_9(self):
        for m in range(1, 6):
            for place in range(m):
                for weight in (0, 8, 9, 10, 11, 255):
                    w = [1] * m
                    w[place] = weight
                    last = 2 ** m - 1
                    expected = [m - 1 + weight, 0, last] if weight <= 9 else REFUSED
                    with self.subTest(m=m, w=w):
                        self.assert_answer(weighed(m, [last, 0], [0, last], w), expected)

    def test_a_weight_too_large_where_it_would_not_count(self):
        self.assert_answer(weighed(3, [5], [5], [1, 10, 1]), REFUSED)
        self.assert_answer(weighed(3, [5, 4], [5, 4, 4], [1, 1, 255]), REFUSED)


class WeighedWhatHolds(Answers, unittest.TestCase):
    """Of "What holds" what goes for weighed as it does in all: how far rows are, weighed, adds up likewise."""

    def test_the_rows_are_rising_each_once_and_may_stand(self):
        for m, ok, v, w in weighed_panels():
            with self.subTest(m=m, ok=ok, v=v, w=w):
                rows = weighed(m, ok, v, w)[1:]
                self.assertGreater(len(rows), 0)
                self.assertEqual(rows, sorted(set(rows)))
                self.assertLessEqual(set(rows), set(ok))

    def test_what_is_nearest_for_two_panels_is_nearest_for_all(self):
        with_a_common_row = 0
        for (m, ok, v, other), five in itertools.product(pairs_of_panels(), [[3, 0, 9, 1, 6], [2, 5, 4, 7, 1]]):
            w = five[:m]
            one, another = weighed(m, ok, v, w), weighed(m, ok, other, w)
            for_both = sorted(set(one[1:]) & set(another[1:]))
            if for_both:
                with_a_common_row += 1
                with self.subTest(m=m, ok=ok, v=v, other=other, w=w):
                    self.assert_answer(weighed(m, ok, v + other, w), [one[0] + another[0]] + for_both)
        self.assertGreater(with_a_common_row, 1000)

    def test_a_judge_who_says_one_of_the_nearest_instead(self):
        for m, ok, v in panels():
            w = [2, 9, 0, 5, 4][:m]
            before = weighed(m, ok, v, w)[1:]
            for judge, row in itertools.product(range(len(v)), before):
                with self.subTest(m=m, ok=ok, v=v, judge=judge, row=row):
                    after = weighed(m, ok, v[:judge] + [row] + v[judge + 1:], w)[1:]
                    self.assertIn(row, after)
                    self.assertLessEqual(set(after), set(before))


if __name__ == "__main__":
    unittest.main()
