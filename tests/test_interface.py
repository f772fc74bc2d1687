import ast
import contextlib
import inspect
import io
import itertools
import pathlib
import unittest

import partnernumbers
from partnernumbers import numbers
from tests.helper import ALL_M, WRONG_K, WRONG_M, WRONG_NUMBERS, WRONG_S, Guarded

GOOD_NUMBERS = ([0, 0], [5, 0], [-3, 2], [3, -2], [-1000000, 1000000], [832040, -514229])
SOURCES = sorted(pathlib.Path(partnernumbers.__file__).parent.glob("*.py"))


# Of each function: its arguments' names, and how many numbers it answers where it refuses nothing.
FUNCTIONS = {
    numbers.sign: (["m", "x"], 1),
    numbers.before: (["m", "x", "y"], 1),
    numbers.plus: (["x", "y"], 3),
    numbers.times: (["m", "x", "y"], 3),
    numbers.partner: (["m", "x"], 3),
    numbers.norm: (["m", "x"], 2),
    numbers.floor: (["m", "x"], 2),
    numbers.unit: (["m", "s", "k"], 3),
    numbers.divide: (["m", "x", "y"], 3),
}


def values_of(name):
    if name == "m":
        return ALL_M + WRONG_M
    if name == "x":
        return GOOD_NUMBERS + WRONG_NUMBERS
    if name == "s":
        return (0, 1) + WRONG_S
    if name == "k":
        return (0, 1, 2, 33, 60) + WRONG_K
    return GOOD_NUMBERS + WRONG_NUMBERS[:3]


def all_calls():
    """Calls of every function, as (function, arguments), with right and wrong inputs mixed."""
    calls = []
    for function, (names, size) in FUNCTIONS.items():
        for told in itertools.product(*[values_of(name) for name in names]):
            calls.append((function, list(told)))
    return calls


def guarded(value):
    return Guarded(value) if isinstance(value, list) else value


class InterfaceTest(unittest.TestCase):
    def test_the_names_of_the_arguments(self):
        for function, (names, size) in FUNCTIONS.items():
            self.assertEqual(list(inspect.signature(function).parameters), names)

    def test_an_answer_is_a_list_of_whole_numbers(self):
        for function, told in all_calls():
            answer = function(*told)
            self.assertIs(type(answer), list)
            self.assertEqual({type(part) for part in answer}, {int}, (function, told))

    def test_how_many_numbers_are_answered(self):
        for function, told in all_calls():
            answer = function(*told)
            size = FUNCTIONS[function][1]
            if answer[0] < 0:
                refusals = ([-22], [-33]) if function is numbers.divide else ([-22],)
                self.assertIn(answer, refusals, (function, told))
            else:
                self.assertEqual(len(answer), size, (function, told))
            if size > 1:
                self.assertLessEqual(answer[0], 0, (function, told))

    def test_what_is_handed_in_stays(self):
        for function, told in all_calls():
            handed = [guarded(value) for value in told]
            answer = function(*handed)
            self.assertEqual(handed, told)
            self.assertFalse(any(answer is value for value in handed))

    def test_nothing_is_kept(self):
        calls = all_calls()
        first = [function(*told) for function, told in calls]
        again = [function(*told) for function, told in reversed(calls)]
        self.assertEqual(first, again[::-1])

    def test_an_answer_that_is_changed_changes_no_other(self):
        for function, told in all_calls():
            answer = function(*told)
            kept = list(answer)
            answer.append(7)
            self.assertEqual(function(*told), kept)

    def test_nothing_is_printed(self):
        out, err = io.StringIO(), io.StringIO()
        with contextlib.redirect_stdout(out), contextlib.redirect_stderr(err):
            for function, told in all_calls():
                function(*told)
        self.assertEqual((out.getvalue(), err.getvalue()), ("", ""))

    def test_nothing_is_imported_and_no_float_is_used(self):
        for source in SOURCES:
            for node in ast.walk(ast.parse(source.read_text())):
                self.assertNotIsInstance(node, (ast.Import, ast.ImportFrom, ast.Div), source.name)
                if isinstance(node, ast.Constant):
                    self.assertNotIsInstance(node.value, (float, complex, bytes), source.name)

    def test_the_size_and_signs_of_the_files(self):
        for source in SOURCES:
            text = source.read_text(encoding="utf-8")
            rows = text.split("\n")
            self.assertLessEqual(len(rows), 400, source.name)
            self.assertLessEqual(max(len(row) for row in rows), 120, source.name)
            self.assertTrue(all(sign == "\n" or " " <= sign <= "~" for sign in text), source.name)


if __name__ == "__main__":
    unittest.main()
