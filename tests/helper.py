"""What the tests share."""

REFUSED = [-22]
HUGE = 4294967295


class Answers:
    """Assertions on what a call gives back; mixed into a TestCase."""

    def assert_answer(self, got, expected):
        """Equal, and of the very kinds the interface names (True is not 1 here)."""
        self.assertIs(type(got), list)
        for number in got:
            self.assertIs(type(number), int)
        self.assertEqual(got, expected)


def bits_apart(x, y):
    """How far two rows are, counted another way than the program counts it."""
    return bin(x ^ y).count("1")
