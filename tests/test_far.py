import unittest

from nearestrows.nearest import far
from tests.helper import Answers, HUGE, REFUSED, bits_apart


class FarOrdinary(Answers, unittest.TestCase):
    def test_written_examples(self):
        for m, x, y, expected in [
            (1, 0, 0, 0), (1, 1, 1, 0), (1, 0, 1, 1), (1, 1, 0, 1),
            (2, 2, 2, 0), (2, 0, 1, 1), (2, 0, 2, 1), (2, 1, 2, 2), (2, 0, 3, 2),
            (3, 5, 5, 0), (3, 5, 4, 1), (3, 3, 4, 3), (3, 6, 3, 2), (3, 0, 7, 3),
            (4, 9, 9, 0), (4, 8, 7, 4), (4, 10, 5, 4), (4, 12, 10, 2), (4, 0, 8, 1),
            (5, 31, 31, 0), (5, 16, 15, 5), (5, 21, 10, 5), (5, 16, 0, 1), (5, 19, 28, 4),
        ]:
            with self.subTest(m=m, x=x, y=y):
                self.assert_answer(far(m, x, y), [expected])

    def test_rows_that_differ_on_none_some_and_all(self):
        for m in range(1, 6):
            last = 2 ** m - 1
            for differ in range(m + 1):
                with self.subTest(m=m, differ=differ):
                    self.assert_answer(far(m, 0, 2 ** differ - 1), [differ])
                    self.assert_answer(far(m, last, last - (2 ** differ - 1)), [differ])

    def test_every_pair_of_rows(self):
        for m in range(1, 6):
            for x in range(2 ** m):
                for y in range(2 ** m):
                    with self.subTest(m=m, x=x, y=y):
                        self.assert_answer(far(m, x, y), [bits_apart(x, y)])


class FarEdges(Answers, unittest.TestCase):
    def test_m(self):
        for m, expected in [(0, REFUSED), (1, [0]), (5, [0]), (6, REFUSED), (HUGE, REFUSED)]:
            with self.subTest(m=m):
                self.assert_answer(far(m, 0, 0), expected)

    def test_x_and_y(self):
        for m in range(1, 6):
            below = 2 ** m - 1
            with self.subTest(m=m):
                self.assert_answer(far(m, below, 0), [m])
                self.assert_answer(far(m, 0, below), [m])
                self.assert_answer(far(m, below, below), [0])
            for wrong in [below + 1, below + 2, 255, 256, HUGE]:
                with self.subTest(m=m, wrong=wrong):
                    self.assert_answer(far(m, wrong, 0), REFUSED)
                    self.assert_answer(far(m, 0, wrong), REFUSED)
                    self.assert_answer(far(m, below, wrong), REFUSED)

    def test_a_row_of_six_questions_is_refused_with_any_m(self):
        for m in range(0, 8):
            with self.subTest(m=m):
                self.assert_answer(far(m, 32, 32), REFUSED)


class FarRefusals(Answers, unittest.TestCase):
    def test_several_at_once(self):
        for m, x, y in [
            (3, 8, 8), (3, HUGE, HUGE), (3, 8, HUGE),
            (0, 1, 0), (0, 0, 1), (0, HUGE, HUGE),
            (6, 64, 0), (6, 0, 64), (6, 64, 64),
            (HUGE, HUGE, 0), (HUGE, 0, HUGE), (HUGE, HUGE, HUGE),
        ]:
            with self.subTest(m=m, x=x, y=y):
                self.assert_answer(far(m, x, y), REFUSED)


class FarKeepsNothing(Answers, unittest.TestCase):
    def test_called_twice(self):
        calls = [(5, 19, 28), (0, 0, 0), (2, 4, 0), (1, 0, 1), (HUGE, 0, 0), (5, 19, 28)]
        first = [far(m, x, y) for m, x, y in calls]
        again = [far(m, x, y) for m, x, y in calls]
        self.assertEqual(first, [[4], REFUSED, REFUSED, [1], REFUSED, [4]])
        self.assertEqual(again, first)

    def test_what_was_given_back_is_the_callers_own(self):
        for m, expected in [(2, [1]), (0, REFUSED)]:
            with self.subTest(m=m):
                far(m, 0, 1).append(7)
                self.assert_answer(far(m, 0, 1), expected)


if __name__ == "__main__":
    unittest.main()
