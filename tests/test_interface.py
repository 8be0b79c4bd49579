"""What the interface says of all the functions together."""

import ast
import contextlib
import inspect
import io
import pathlib
import unittest

from nearestrows import nearest

PACKAGE = pathlib.Path(nearest.__file__).parent
ARGUMENTS = {
    "far": ["m", "x", "y"],
    "total": ["m", "r", "ok", "v"],
    "nearest": ["m", "ok", "v"],
    "low": ["m", "ok", "v"],
    "worst": ["m", "ok", "v"],
    "weighed": ["m", "ok", "v", "w"],
}
CALLS = [
    ("far", (3, 6, 3)),
    ("far", (0, 6, 3)),
    ("total", (3, 6, [1, 2, 7], [2, 7, 7])),
    ("total", (3, 6, [1, 2, 7], [2, 7, 3])),
    ("nearest", (3, [1, 2, 7], [2, 7, 7])),
    ("nearest", (3, [1, 2, 7], [2, 7, 3])),
    ("low", (3, [1, 2, 7], [2, 7, 7])),
    ("low", (3, [1, 2, 7], [2, 7, 3])),
    ("worst", (3, [1, 2, 7], [2, 7, 7])),
    ("worst", (3, [1, 2, 7], [2, 7, 3])),
    ("weighed", (3, [1, 2, 7], [2, 7, 7], [4, 0, 9])),
    ("weighed", (3, [1, 2, 7], [2, 7, 7], [4, 0, 10])),
]


class Interface(unittest.TestCase):
    def test_names_and_arguments(self):
        for name, arguments in ARGUMENTS.items():
            with self.subTest(name=name):
                given = inspect.signature(getattr(nearest, name)).parameters
                self.assertEqual(list(given), arguments)
                for parameter in given.values():
                    self.assertIs(parameter.default, inspect.Parameter.empty)

    def test_imports_nothing(self):
        for path in PACKAGE.glob("*.py"):
            with self.subTest(path=path.name):
                for node in ast.walk(ast.parse(path.read_text(encoding="utf-8"))):
                    self.assertNotIsInstance(node, (ast.Import, ast.ImportFrom))

    def test_prints_nothing(self):
        out = io.StringIO()
        with contextlib.redirect_stdout(out), contextlib.redirect_stderr(out):
            for name, arguments in CALLS:
                getattr(nearest, name)(*arguments)
        self.assertEqual(out.getvalue(), "")

    def test_every_function_is_called_above(self):
        self.assertEqual({name for name, arguments in CALLS}, set(ARGUMENTS))


if __name__ == "__main__":
    unittest.main()
