"""The interface of guardline/errors.py."""

import unittest

from guardline import errors
from guardline.errors import GuardError, NoLength, NoMend, NoSign

REFUSALS = (NoSign, NoLength, NoMend)


class TheClasses(unittest.TestCase):
    def test_each_is_there_under_its_name(self):
        for name in ("GuardError", "NoSign", "NoLength", "NoMend"):
            with self.subTest(name=name):
                self.assertIsInstance(getattr(errors, name), type)
                self.assertEqual(getattr(errors, name).__name__, name)

    def test_guard_error_stands_under_value_error(self):
        self.assertEqual(GuardError.__bases__, (ValueError,))

    def test_each_refusal_stands_under_guard_error(self):
        for refusal in REFUSALS:
            with self.subTest(refusal=refusal):
                self.assertEqual(refusal.__bases__, (GuardError,))

    def test_no_refusal_stands_under_another(self):
        for one in REFUSALS:
            for other in REFUSALS:
                with self.subTest(one=one, other=other):
                    self.assertEqual(issubclass(one, other), one is other)


class Taken(unittest.TestCase):
    def test_each_is_taken_by_itself_guard_error_and_value_error(self):
        for refusal in (GuardError,) + REFUSALS:
            for taker in (refusal, GuardError, ValueError):
                with self.subTest(refusal=refusal, taker=taker):
                    with self.assertRaises(taker) as caught:
                        raise refusal("some words")
                    self.assertIs(type(caught.exception), refusal)
                    self.assertEqual(str(caught.exception), "some words")

    def test_each_can_be_raised_without_words(self):
        for refusal in (GuardError,) + REFUSALS:
            with self.subTest(refusal=refusal):
                with self.assertRaises(refusal):
                    raise refusal()

    def test_a_plain_value_error_is_no_guard_error(self):
        self.assertNotIsInstance(ValueError("some words"), GuardError)


if __name__ == "__main__":
    unittest.main()
