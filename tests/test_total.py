import itertools
import unittest

from nearestrows.nearest import far, total
from tests.helper import Answers, HUGE, REFUSED, Untouchable, majorities_row, panels, the_fewer, together


class TotalOrdinary(Answers, unittest.TestCase):
    def test_written_examples(self):
        for m, r, ok, v, expected in [
            (3, 7, [7, 1, 2, 4], [1, 2, 4], 6),
            (3, 1, [7, 1, 2, 4], [1, 2, 4], 4),
            (3, 1, [4, 2, 1, 7], [4, 1, 1, 7, 7], 6),
            (2, 3, [3, 0], [0, 0, 3, 0], 6),
            (2, 0, [3, 0], [0, 0, 3, 0], 2),
            (4, 9, [15, 9, 6, 0], [6, 6, 15, 0], 12),
            (5, 31, [0, 16, 31], [16, 0, 0, 16, 31], 18),
        ]:
            with self.subTest(m=m, r=r, ok=ok, v=v):
                self.assert_answer(total(m, r, ok, v), [expected])

    def test_a_row_that_may_not_stand(self):
        self.assert_answer(total(3, 0, [7, 1, 2, 4], [1, 2, 4]), [3])
        self.assert_answer(total(3, 6, [1, 2, 7], [2, 7, 7]), [3])
        self.assert_answer(total(5, 21, [10], [10, 10]), [10])

    def test_ok_in_any_order(self):
        for ok in itertools.permutations([0, 3, 5, 6]):
            with self.subTest(ok=ok):
                self.assert_answer(total(3, 5, list(ok), [6, 0, 6, 3]), [8])

    def test_judges_in_any_order(self):
        for v in itertools.permutations([6, 0, 6, 3]):
            with self.subTest(v=v):
                self.assert_answer(total(3, 5, [0, 3, 5, 6], list(v)), [8])

    def test_all_small_panels(self):
        for m in (1, 2):
            for size in range(1, 2 ** m + 1):
                for ok in itertools.permutations(range(2 ** m), size):
                    for judges in (1, 2, 3):
                        for v in itertools.product(ok, repeat=judges):
                            for r in range(2 ** m):
                                self.assert_answer(total(m, r, list(ok), list(v)), [together(r, v)])

    def test_larger_panels(self):
        for m, ok, v in panels():
            for r in range(2 ** m):
                with self.subTest(m=m, r=r, ok=ok, v=v):
                    self.assert_answer(total(m, r, ok, v), [together(r, v)])


class TotalCorners(Answers, unittest.TestCase):
    def test_one_judge_is_as_far_as_two_rows_are(self):
        for m in range(1, 6):
            everything = list(range(2 ** m))
            for said in everything:
                for r in everything:
                    with self.subTest(m=m, r=r, said=said):
                        self.assert_answer(total(m, r, everything, [said]), far(m, r, said))

    def test_two_judges(self):
        self.assert_answer(total(3, 0, [0, 7], [0, 7]), [3])
        self.assert_answer(total(3, 5, [0, 7], [0, 7]), [3])
        self.assert_answer(total(3, 5, [2, 7], [2, 2]), [6])

    def test_rules_of_one_row(self):
        self.assert_answer(total(1, 0, [0], [0]), [0])
        self.assert_answer(total(4, 6, [6], [6, 6, 6]), [0])
        self.assert_answer(total(4, 9, [6], [6, 6, 6]), [12])

    def test_all_rows(self):
        self.assert_answer(total(1, 1, [1, 0], [0, 1, 0]), [2])
        self.assert_answer(total(5, 0, list(range(32)), [31, 1, 30]), [10])
        self.assert_answer(total(5, 31, list(range(31, -1, -1)), [31, 1, 30]), [5])

    def test_judges_who_all_say_the_same(self):
        for judges in range(1, 16):
            with self.subTest(judges=judges):
                self.assert_answer(total(5, 16, [15, 16, 3], [15] * judges), [5 * judges])
                self.assert_answer(total(5, 15, [15, 16, 3], [15] * judges), [0])


class TotalEdges(Answers, unittest.TestCase):
    def test_m(self):
        for m, expected in [(0, REFUSED), (1, [0]), (5, [0]), (6, REFUSED), (HUGE, REFUSED)]:
            with self.subTest(m=m):
                self.assert_answer(total(m, 0, [0], [0]), expected)

    def test_r(self):
        for m in range(1, 6):
            below = 2 ** m - 1
            with self.subTest(m=m):
                self.assert_answer(total(m, below, [0, 1], [0, 1]), [2 * m - 1])
            for wrong in [below + 1, below + 2, 255, 256, HUGE]:
                with self.subTest(m=m, wrong=wrong):
                    self.assert_answer(total(m, wrong, [0, 1], [0, 1]), REFUSED)

    def test_ok_empty(self):
        for m in range(1, 6):
            with self.subTest(m=m):
                self.assert_answer(total(m, 0, [], []), REFUSED)
                self.assert_answer(total(m, 0, [], [0]), REFUSED)

    def test_ok_of_one_row_and_of_all(self):
        for m in range(1, 6):
            below = 2 ** m - 1
            with self.subTest(m=m):
                self.assert_answer(total(m, 0, [below], [below]), [m])
                self.assert_answer(total(m, 0, list(range(2 ** m)), [below]), [m])

    def test_ok_with_one_twice(self):
        for ok in [[1, 1], [1, 2, 1], [2, 1, 1], [1, 1, 1], [1, 0, 3, 2, 0]]:
            with self.subTest(ok=ok):
                self.assert_answer(total(2, 0, ok, [1]), REFUSED)
        self.assert_answer(total(5, 0, list(range(32)) + [31], [1]), REFUSED)

    def test_ok_with_one_that_is_not_below(self):
        for m in range(1, 6):
            for wrong in [2 ** m, 2 ** m + 1, 255]:
                for ok in [[0, wrong], [wrong, 0], [1, wrong, 0]]:
                    with self.subTest(m=m, ok=ok):
                        self.assert_answer(total(m, 0, ok, [0]), REFUSED)

    def test_ok_with_one_that_is_not_below_and_is_said(self):
        for m in range(1, 6):
            with self.subTest(m=m):
                self.assert_answer(total(m, 0, [2 ** m], [2 ** m]), REFUSED)

    def test_ok_with_forty_numbers(self):
        self.assert_answer(total(5, 0, list(range(40)), [0]), REFUSED)
        self.assert_answer(total(5, 0, [k % 32 for k in range(40)], [0]), REFUSED)
        self.assert_answer(total(5, 0, [0] * 40, [0]), REFUSED)

    def test_how_many_judges(self):
        for judges, expected in [(0, REFUSED), (1, [2]), (15, [30]), (16, REFUSED), (40, REFUSED)]:
            with self.subTest(judges=judges):
                self.assert_answer(total(3, 0, [0, 5], [5] * judges), expected)

    def test_a_judge_whose_row_is_not_of_ok(self):
        for v in [[3], [3, 1], [1, 3], [1, 3, 2], [0], [4], [255], [1] * 14 + [3]]:
            with self.subTest(v=v):
                self.assert_answer(total(2, 1, [2, 1], v), REFUSED)

    def test_farthest_of_all(self):
        self.assert_answer(total(5, 0, [31], [31] * 15), [75])


class TotalRefusals(Answers, unittest.TestCase):
    def test_several_at_once(self):
        wrong = {
            "m": [0, 6, HUGE],
            "r": [32, HUGE],
            "ok": [[], [1, 1], [1, 32], [1, 255], list(range(40))],
            "v": [[], [1] * 16, [1] * 40, [2], [255]],
        }
        right = {"m": [3], "r": [4], "ok": [[1, 6]], "v": [[6, 1, 6]]}
        self.assert_answer(total(3, 4, [1, 6], [6, 1, 6]), [4])
        names = ["m", "r", "ok", "v"]
        for count in range(1, 5):
            for chosen in itertools.combinations(names, count):
                for given in itertools.product(*[wrong[n] if n in chosen else right[n] for n in names]):
                    with self.subTest(given=given):
                        self.assert_answer(total(*given), REFUSED)


class TotalLeavesAllAsItWas(Answers, unittest.TestCase):
    CALLS = [
        (3, 6, [7, 1, 2], [7, 2, 7], [3]),
        (1, 0, [1, 0], [1, 0, 0], [1]),
        (0, 0, [7, 1, 2], [7, 2, 7], REFUSED),
        (HUGE, 0, [7, 1, 2], [7, 2, 7], REFUSED),
        (3, 8, [7, 1, 2], [7, 2, 7], REFUSED),
        (3, 6, [], [7, 2, 7], REFUSED),
        (3, 6, [7, 2, 1, 2], [7, 2, 7], REFUSED),
        (3, 6, [9, 7, 2], [7, 2, 7], REFUSED),
        (3, 6, [7, 1, 2], [], REFUSED),
        (3, 6, [7, 1, 2], [7, 2, 6], REFUSED),
        (3, 6, [7, 1, 2], [7] * 16, REFUSED),
    ]

    def test_lists_stay_as_they_were(self):
        for m, r, ok, v, expected in self.CALLS:
            with self.subTest(m=m, r=r, ok=ok, v=v):
                given_ok, given_v = list(ok), list(v)
                self.assert_answer(total(m, r, given_ok, given_v), expected)
                self.assertEqual((given_ok, given_v), (ok, v))

    def test_lists_are_not_changed_for_a_while_either(self):
        for m, r, ok, v, expected in self.CALLS:
            with self.subTest(m=m, r=r, ok=ok, v=v):
                self.assert_answer(total(m, r, Untouchable(ok), Untouchable(v)), expected)

    def test_one_list_as_both(self):
        rows = [5, 0, 3]
        self.assert_answer(total(3, 6, rows, rows), [6])
        self.assertEqual(rows, [5, 0, 3])

    def test_called_twice(self):
        for m, r, ok, v, expected in self.CALLS + self.CALLS:
            with self.subTest(m=m, r=r, ok=ok, v=v):
                self.assert_answer(total(m, r, ok, v), expected)
                self.assert_answer(total(m, r, ok, v), expected)

    def test_lists_that_the_caller_changed_since(self):
        ok, v = [7, 1, 2], [7, 2, 7]
        self.assert_answer(total(3, 6, ok, v), [3])
        v.append(1)
        self.assert_answer(total(3, 6, ok, v), [6])
        ok.remove(1)
        self.assert_answer(total(3, 6, ok, v), REFUSED)

    def test_what_was_given_back_is_the_callers_own(self):
        for m, expected in [(3, [3]), (0, REFUSED)]:
            with self.subTest(m=m):
                total(m, 6, [7, 1, 2], [7, 2, 7]).append(7)
                self.assert_answer(total(m, 6, [7, 1, 2], [7, 2, 7]), expected)


class TotalWhatHolds(unittest.TestCase):
    """Of "What holds" what total alone can show."""

    def test_no_row_is_less_far_than_the_fewer(self):
        for m, ok, v in panels():
            with self.subTest(m=m, ok=ok, v=v):
                least = the_fewer(m, v)
                just_so_far = [r for r in range(2 ** m) if total(m, r, ok, v) == [least]]
                self.assertTrue(all(total(m, r, ok, v)[0] >= least for r in range(2 ** m)))
                if len(v) % 2 == 1:
                    self.assertEqual(just_so_far, [majorities_row(m, v)])

    def test_some_judges_row_is_at_most_twice_as_far_as_any(self):
        for m, ok, v in panels():
            with self.subTest(m=m, ok=ok, v=v):
                nearest_judge = min(total(m, said, ok, v)[0] for said in v)
                self.assertTrue(all(nearest_judge <= 2 * total(m, row, ok, v)[0] for row in ok))


if __name__ == "__main__":
    unittest.main()
