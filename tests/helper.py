"""What the tests share."""

REFUSED = [-22]
HUGE = 4294967295


class Answers:
    """Assertions on what a call gives back; mixed into a TestCase."""

    def assert_answer(self, got, expected):
        """Equal, and of the very kinds the interface names (True is not 1 here)."""
        self.assertIs(type(got), list)
        for number in got:
            self.assertIs(type(number), int)
        self.assertEqual(got, expected)


def bits_apart(x, y):
    """How far two rows are, counted another way than the program counts it."""
    return bin(x ^ y).count("1")


class Untouchable(list):
    """A list that fails as soon as it is changed, even if it were put back after."""

    def refuse(self, *arguments, **named):
        raise AssertionError("a list that was handed in is changed")

    __setitem__ = __delitem__ = __iadd__ = __imul__ = refuse
    append = clear = extend = insert = pop = remove = reverse = sort = refuse
