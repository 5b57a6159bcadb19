"""Point [1]: no clock, chance or files. Told by what the package's files draw from."""

import ast
import builtins
import pathlib
import unittest

import guardline

FOLDER = pathlib.Path(guardline.__file__).parent
ALLOWED_BUILTINS = (
    "len range enumerate zip min max sum abs sorted reversed int str bool list tuple dict set frozenset"
    " isinstance ord repr any all divmod Exception ValueError TypeError KeyError IndexError LookupError"
    " ZeroDivisionError ArithmeticError OverflowError RuntimeError NotImplementedError AttributeError"
    " StopIteration"
).split()


def package_trees():
    return [(path, ast.parse(path.read_text("utf-8"))) for path in sorted(FOLDER.rglob("*.py"))]


class ThePackage(unittest.TestCase):
    def test_it_lies_at_the_top_with_an_init_file(self):
        self.assertEqual(FOLDER, pathlib.Path(__file__).resolve().parent.parent / "guardline")
        self.assertTrue((FOLDER / "__init__.py").is_file())

    def test_it_draws_from_its_own_files_alone(self):
        for path, tree in package_trees():
            for node in ast.walk(tree):
                with self.subTest(path=path.name):
                    self.assertNotIsInstance(node, ast.Import)
                    if isinstance(node, ast.ImportFrom):
                        self.assertEqual(node.level, 0)
                        self.assertTrue(node.module.startswith("guardline."), node.module)

    def test_it_uses_no_builtin_that_reaches_outside(self):
        for path, tree in package_trees():
            for node in ast.walk(tree):
                if isinstance(node, ast.Name) and hasattr(builtins, node.id):
                    with self.subTest(path=path.name, line=node.lineno):
                        self.assertIn(node.id, ALLOWED_BUILTINS)

    def test_no_name_begins_with_an_underscore(self):
        for path, tree in package_trees():
            for node in ast.walk(tree):
                name = getattr(node, "id", getattr(node, "attr", ""))
                with self.subTest(path=path.name):
                    self.assertFalse(name.startswith("_") and name != "__init__", name)


if __name__ == "__main__":
    unittest.main()
