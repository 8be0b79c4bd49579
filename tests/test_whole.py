"""What the document promises over the whole program: of all six calls together."""

import itertools
import pathlib
import unittest

from nearestrows import nearest as program
from nearestrows.nearest import far, low, nearest, total, weighed, worst
from tests.helper import Answers, HUGE, PanelCall, REFUSED, Untouchable, majorities_row, panels, small_rules

SOURCE = pathlib.Path(program.__file__).read_text(encoding="utf-8")


def calls_on_panel(m, ok, v):
    """Each call that takes a panel, with other arguments that are right and some that aren't."""
    for r in (0, (5 * len(v)) % 32, 31, 32, HUGE):
        yield "total", (m, r, ok, v)
    yield "nearest", (m, ok, v)
    yield "low", (m, ok, v)
    yield "worst", (m, ok, v)
    fitting = min(m, 5)
    for w in ([1] * fitting, [0] * fitting, [4, 0, 9, 1, 7][:fitting], [9] * 4, [10] * fitting, []):
        yield "weighed", (m, ok, v, w)


def many_calls():
    """All six calls, answered and refused, mixed with one another."""
    for m in (0, 1, 2, 3, 4, 5, 6, HUGE):
        for x, y in itertools.product((0, 1, 2, 7, 13, 31, 32, 255, HUGE), repeat=2):
            yield "far", (m, x, y)
    for m, ok, v in itertools.chain(panels(), PanelCall().panels_with_faults()):
        yield "far", (m, ok[0] if ok else 32, v[-1] if v else 32)
        yield from calls_on_panel(m, ok, v)


def copied(arguments, kind):
    return [kind(given) if isinstance(given, list) else given for given in arguments]


def ask(name, arguments):
    return getattr(program, name)(*copied(arguments, list))


def ask_as_if_for_the_first_time(code, name, arguments):
    """The answer of a program that was loaded for this one call."""
    loaded = {"__name__": program.__name__}
    exec(code, loaded)
    return loaded[name](*copied(arguments, list))


class AllCalls(Answers, unittest.TestCase):
    def test_lists_of_whole_numbers_none_below_0_but_a_refusal(self):
        answered, refused = set(), set()
        for name, arguments in many_calls():
            with self.subTest(name=name, arguments=arguments):
                got = ask(name, arguments)
                self.assert_answer(got, list(got))
                if got == REFUSED:
                    refused.add(name)
                else:
                    answered.add(name)
                    self.assertGreaterEqual(min(got), 0)
        six = {"far", "total", "nearest", "low", "worst", "weighed"}
        self.assertEqual((answered, refused), (six, six))

    def test_how_many_numbers(self):
        for name, arguments in many_calls():
            got = ask(name, arguments)
            if got != REFUSED:
                with self.subTest(name=name, arguments=arguments):
                    if name in ("far", "total"):
                        self.assertEqual(len(got), 1)
                    elif name == "low":
                        self.assertEqual(len(got), 2)
                        self.assertIn(got[1], (0, 1))
                    else:
                        self.assertEqual(got[1:], sorted(set(got[1:]) & set(arguments[1])))
                        self.assertGreater(len(got), 1)

    def test_lists_stay_as_they_were(self):
        for name, arguments in many_calls():
            with self.subTest(name=name, arguments=arguments):
                given = copied(arguments, list)
                getattr(program, name)(*given)
                self.assertEqual(given, list(arguments))

    def test_lists_are_not_changed_for_a_while_either(self):
        for name, arguments in many_calls():
            with self.subTest(name=name, arguments=arguments):
                got = getattr(program, name)(*copied(arguments, Untouchable))
                self.assert_answer(got, ask(name, arguments))

    def test_the_same_whatever_was_called_ahead(self):
        code = compile(SOURCE, program.__file__, "exec")
        calls = list(many_calls())
        first = [ask_as_if_for_the_first_time(code, name, arguments) for name, arguments in calls]
        rising = range(len(calls))
        mixed = [k for start in range(7) for k in rising[start::7]]
        for order in (rising, rising[::-1], mixed):
            for k in order:
                name, arguments = calls[k]
                got = ask(name, arguments)
                with self.subTest(name=name, arguments=arguments):
                    self.assert_answer(got, first[k])
                # Were it kept by the program, the next answer would have this in it.
                got.append(7)

    def test_a_panel_is_refused_by_all_calls_or_by_none(self):
        for m, ok, v in itertools.chain(panels(), PanelCall().panels_with_faults()):
            with self.subTest(m=m, ok=ok, v=v):
                answers = [
                    total(m, 0, ok, v), nearest(m, ok, v), low(m, ok, v), worst(m, ok, v),
                    weighed(m, ok, v, [1] * min(m, 40)),
                ]
                self.assertEqual(len({answer == REFUSED for answer in answers}), 1)


def rules_of_three_questions():
    """All rules of three questions, each with some panels of an odd and an even number of judges."""
    for ok in small_rules(3):
        for judges in (1, 2, 3, 4, 5):
            for step in (1, 3):
                yield 3, list(ok), [ok[(step * k * k + k + step) % len(ok)] for k in range(judges)]


def many_panels():
    yield from rules_of_three_questions()
    yield from panels()


def clashes(m, ok):
    """Answers that no row that may stand has together, though with any one left out some row has them.

    So is read here a word that the document leaves to another stage; a clash is (questions asked, what is said).
    """
    asked_and_said = [(asked, said) for asked in range(2 ** m) for said in range(2 ** m) if said & ~asked == 0]
    never = {(asked, said) for asked, said in asked_and_said if not any(row & asked == said for row in ok)}
    for asked, said in never:
        left_out = [asked & ~(2 ** q) for q in range(m) if asked & 2 ** q]
        if not any((asked_less, said & asked_less) in never for asked_less in left_out):
            yield asked, said


def clashes_have_two_answers_at_most(m, ok):
    return all(bin(asked).count("1") <= 2 for asked, said in clashes(m, ok))


class WhatHolds(Answers, unittest.TestCase):
    """Point 2, sentence by sentence, as the calls together tell it."""

    def test_no_row_is_less_far_in_all_than_the_fewer(self):
        for m, ok, v in many_panels():
            with self.subTest(m=m, ok=ok, v=v):
                so_far = [total(m, r, ok, v)[0] for r in range(2 ** m)]
                fewer, reached = low(m, ok, v)
                self.assertEqual(min(so_far), fewer)
                self.assertEqual(reached == 1, fewer in [so_far[row] for row in ok])
                if len(v) % 2 == 1:
                    just_so_far = [r for r in range(2 ** m) if so_far[r] == fewer]
                    self.assertEqual(just_so_far, [majorities_row(m, v)])

    def test_what_is_nearest_for_two_panels(self):
        for ok in small_rules(3):
            said = [[ok[k % len(ok)], ok[(k * k + 1) % len(ok)], ok[-1 - k]][:1 + k % 3] for k in range(len(ok))]
            for v, other in itertools.product(said, repeat=2):
                one, another = nearest(3, list(ok), v), nearest(3, list(ok), other)
                for_both = sorted(set(one[1:]) & set(another[1:]))
                if for_both:
                    with self.subTest(ok=ok, v=v, other=other):
                        self.assert_answer(nearest(3, list(ok), v + other), [one[0] + another[0]] + for_both)

    def test_a_judge_who_says_one_of_the_nearest_instead(self):
        for m, ok, v in rules_of_three_questions():
            before = nearest(m, ok, v)[1:]
            for judge, row in itertools.product(range(len(v)), before):
                with self.subTest(m=m, ok=ok, v=v, judge=judge, row=row):
                    after = nearest(m, ok, v[:judge] + [row] + v[judge + 1:])[1:]
                    self.assertIn(row, after)
                    self.assertLessEqual(set(after), set(before))

    def test_where_no_clash_has_more_than_two_answers(self):
        panels_asked = 0
        for ok in small_rules(3):
            if clashes_have_two_answers_at_most(3, ok):
                for v in itertools.combinations_with_replacement(ok, 3):
                    panels_asked += 1
                    with self.subTest(ok=ok, v=v):
                        self.assert_answer(
                            nearest(3, list(ok), list(v)),
                            low(3, list(ok), list(v))[:1] + [majorities_row(3, v)],
                        )
        self.assertGreater(panels_asked, 1000)

    def test_some_judges_own_row_is_at_most_twice_as_far(self):
        for m, ok, v in many_panels():
            with self.subTest(m=m, ok=ok, v=v):
                nearest_judge = min(total(m, said, ok, v)[0] for said in v)
                self.assertLessEqual(nearest_judge, 2 * min(total(m, row, ok, v)[0] for row in ok))

    def test_the_calls_agree_with_one_another(self):
        for m, ok, v in many_panels():
            with self.subTest(m=m, ok=ok, v=v):
                apart = {row: [far(m, row, said)[0] for said in v] for row in ok}
                for row in ok:
                    self.assertEqual(total(m, row, ok, v), [sum(apart[row])])
                least, farthest = min(map(sum, apart.values())), min(map(max, apart.values()))
                self.assert_answer(nearest(m, ok, v), [least] + [r for r in sorted(ok) if sum(apart[r]) == least])
                self.assert_answer(worst(m, ok, v), [farthest] + [r for r in sorted(ok) if max(apart[r]) == farthest])
                self.assert_answer(weighed(m, ok, v, [1] * m), nearest(m, ok, v))


if __name__ == "__main__":
    unittest.main()
