import ast
import contextlib
import inspect
import io
import pathlib
import unittest

import partnernumbers
from partnernumbers import numbers
from tests.helper import ALL_M, WRONG_M, WRONG_NUMBERS, Guarded

GOOD_NUMBERS = ([0, 0], [5, 0], [-3, 2], [3, -2], [-1000000, 1000000], [832040, -514229])
SOURCES = sorted(pathlib.Path(partnernumbers.__file__).parent.glob("*.py"))


def all_calls():
    """Calls of every function, as (function, m, numbers), with right and wrong inputs mixed."""
    calls = []
    for m in ALL_M + WRONG_M:
        for x in GOOD_NUMBERS + WRONG_NUMBERS:
            calls.append((numbers.sign, m, [x]))
            for y in GOOD_NUMBERS + WRONG_NUMBERS[:3]:
                calls.append((numbers.before, m, [x, y]))
    return calls


class InterfaceTest(unittest.TestCase):
    def test_the_names_of_the_arguments(self):
        self.assertEqual(list(inspect.signature(numbers.sign).parameters), ["m", "x"])
        self.assertEqual(list(inspect.signature(numbers.before).parameters), ["m", "x", "y"])

    def test_an_answer_is_a_list_of_one_whole_number(self):
        for call, m, told in all_calls():
            answer = call(m, *told)
            self.assertIs(type(answer), list)
            self.assertEqual([type(part) for part in answer], [int], (call, m, told))

    def test_what_is_handed_in_stays(self):
        for call, m, told in all_calls():
            guarded = [Guarded(x) for x in told]
            answer = call(m, *guarded)
            self.assertEqual([list(x) for x in guarded], told)
            self.assertFalse(any(answer is x for x in guarded))

    def test_nothing_is_kept(self):
        calls = all_calls()
        first = [call(m, *told) for call, m, told in calls]
        again = [call(m, *told) for call, m, told in reversed(calls)]
        self.assertEqual(first, again[::-1])

    def test_an_answer_that_is_changed_changes_no_other(self):
        for call, m, told in all_calls():
            answer = call(m, *told)
            kept = list(answer)
            answer.append(7)
            self.assertEqual(call(m, *told), kept)

    def test_nothing_is_printed(self):
        out, err = io.StringIO(), io.StringIO()
        with contextlib.redirect_stdout(out), contextlib.redirect_stderr(err):
            for call, m, told in all_calls():
                call(m, *told)
        self.assertEqual((out.getvalue(), err.getvalue()), ("", ""))

    def test_nothing_is_imported_and_no_float_is_used(self):
        for source in SOURCES:
            for node in ast.walk(ast.parse(source.read_text())):
                self.assertNotIsInstance(node, (ast.Import, ast.ImportFrom, ast.Div), source.name)
                if isinstance(node, ast.Constant):
                    self.assertNotIsInstance(node.value, (float, complex, bytes), source.name)

    def test_the_size_and_signs_of_the_files(self):
        for source in SOURCES:
            text = source.read_text(encoding="utf-8")
            rows = text.split("\n")
            self.assertLessEqual(len(rows), 400, source.name)
            self.assertLessEqual(max(len(row) for row in rows), 120, source.name)
            self.assertTrue(all(sign == "\n" or " " <= sign <= "~" for sign in text), source.name)


if __name__ == "__main__":
    unittest.main()
