"""What can be seen of the package's form: its files, their sizes, the forms of its statements."""

import ast
import inspect
import pathlib
import re
import unittest

from fixedcakes import triangles

PACKAGE = pathlib.Path(triangles.__file__).parent

INTERFACE = {
    "map_colours": ["m", "f"],
    "fixed": ["m", "f"],
    "shifts": ["m", "i", "j", "f"],
    "nearly": ["m", "f"],
    "apart": ["m", "f"],
    "cake_colours": ["m", "v"],
    "choice": ["m", "c", "i", "j", "v"],
    "worth": ["m", "c", "i", "j", "k", "v"],
    "shared": ["m", "v"],
    "wishes": ["m", "k", "v"],
    "envies": ["m", "i", "j", "v", "w"],
}

OUTSIDE = (
    ast.Import, ast.ImportFrom, ast.ClassDef, ast.With, ast.Match, ast.Delete, ast.Global, ast.Nonlocal, ast.Assert,
    ast.Yield, ast.YieldFrom, ast.Await, ast.AsyncFunctionDef, ast.AsyncFor, ast.AsyncWith, ast.Div, ast.SetComp,
    ast.DictComp, ast.GeneratorExp, ast.NamedExpr, ast.Starred, ast.Set, ast.Is, ast.IsNot,
)

WORDS = (
    r"\b(type|typing|typing_extensions|enum|Enum|IntEnum|StrEnum|Flag|IntFlag|Generic|Protocol|ABC|ABCMeta|namedtuple"
    r"|NamedTuple|TypedDict|TYPE_CHECKING|abstractmethod)\b|dataclass|overload|contextmanager"
)


class FormTest(unittest.TestCase):

    def sources(self):
        return [(path.name, path.read_text(encoding="utf-8")) for path in sorted(PACKAGE.glob("*.py"))]

    def test_interface(self):
        for name, parameters in INTERFACE.items():
            signature = inspect.signature(getattr(triangles, name))
            self.assertEqual(list(signature.parameters), parameters)
            for parameter in signature.parameters.values():
                self.assertIs(parameter.default, inspect.Parameter.empty)

    def test_files(self):
        names = [path.name for path in PACKAGE.iterdir() if path.name != "__pycache__"]
        self.assertEqual(sorted(names), ["__init__.py", "triangles.py"])

    def test_rows_and_signs(self):
        for name, source in self.sources():
            with self.subTest(name=name):
                self.assertLessEqual(len(source.splitlines()), 400)
                self.assertLessEqual(max(len(row) for row in source.splitlines()), 120)
                self.assertIsNone(re.search(r"[^ -~\n]", source))
                self.assertIsNone(re.search(WORDS, source))

    def test_statements(self):
        for name, source in self.sources():
            for node in ast.walk(ast.parse(source)):
                self.assertNotIsInstance(node, OUTSIDE, name)
                if isinstance(node, ast.FunctionDef):
                    self.assertLessEqual(node.end_lineno - node.lineno + 1, 40, node.name)
                    self.assertEqual(node.decorator_list, [])
                if isinstance(node, ast.Assign):
                    self.assertEqual(len(node.targets), 1)


if __name__ == "__main__":
    unittest.main()
