"""The interface: each name in its file, with its arguments."""

import importlib
import inspect
import unittest

FUNCTIONS = (
    ("signs", "sign_of", ["number"]),
    ("signs", "turned", ["number"]),
    ("single", "guarded", ["word"]),
    ("single", "is_good", ["text"]),
    ("single", "filled", ["text"]),
    ("double", "doubly", ["word"]),
    ("double", "is_sound", ["text"]),
    ("double", "mended", ["text"]),
)


class TheFunctions(unittest.TestCase):
    def test_each_is_there_with_its_arguments(self):
        for module, name, arguments in FUNCTIONS:
            with self.subTest(name=name):
                function = getattr(importlib.import_module("guardline." + module), name)
                self.assertEqual(function.__module__, "guardline." + module)
                parameters = inspect.signature(function).parameters
                self.assertEqual(list(parameters), arguments)
                for parameter in parameters.values():
                    self.assertEqual(parameter.kind, parameter.POSITIONAL_OR_KEYWORD)
                    self.assertIs(parameter.default, parameter.empty)


if __name__ == "__main__":
    unittest.main()
