"""What can be seen at a glance of the form in which the package is to be written."""

import ast
import pathlib
import re
import unittest

PACKAGE = pathlib.Path(__file__).resolve().parent.parent / "leadstrips"
CALLS = {
    "shop.py": {
        "strips": "a b bar joint loss cartoon",
        "pieces": "a b bar joint loss cartoon",
        "bars": "a b bar joint loss cartoon",
        "judge": "a b bar joint loss cartoon row",
        "total": "a b bar joint loss cartoon",
        "root": "number",
    },
}

# Python's own names, statements, methods and words as far as the package may use them.
NAMES = set(
    "len range enumerate zip min max sum abs sorted reversed int str bool list tuple dict set frozenset isinstance "
    "ord repr any all divmod Exception ValueError TypeError KeyError IndexError LookupError ZeroDivisionError".split()
)
NODES = set(
    "Module Expr Constant ImportFrom alias Assign AugAssign FunctionDef ClassDef arguments arg Return If While For "
    "Break Continue Pass Raise Try ExceptHandler Call Name Attribute Subscript Slice List Tuple Dict Set BinOp UnaryOp "
    "BoolOp Compare IfExp ListComp comprehension Lambda JoinedStr FormattedValue keyword Load Store "
    "Add Sub Mult FloorDiv Mod Pow LShift RShift BitOr BitXor BitAnd USub UAdd Invert Not And Or "
    "Eq NotEq Lt LtE Gt GtE Is IsNot In NotIn".split()
)
METHODS = set(
    "append clear copy count endswith extend find get index insert items join keys pop remove replace reverse "
    "setdefault split startswith strip update values bit_length".split()
)
WORDS = re.compile(
    r"\b(type|typing|typing_extensions|enum|Enum|IntEnum|StrEnum|Flag|IntFlag|Generic|Protocol|ABC|ABCMeta|namedtuple|"
    r"NamedTuple|TypedDict|TYPE_CHECKING|abstractmethod)\b|dataclass|overload|contextmanager"
)


class Form(unittest.TestCase):
    def files(self):
        paths = sorted(path for path in PACKAGE.iterdir() if path.name != "__pycache__")
        self.assertTrue(paths)
        for path in paths:
            with self.subTest(path.name):
                yield path, path.read_text(encoding="ascii")

    def trees(self):
        for path, text in self.files():
            yield path, ast.parse(text)

    def test_files(self):
        for path, text in self.files():
            self.assertRegex(path.name, r"^[a-z0-9_]+\.py$")
            lines = text.split("\n")
            self.assertLessEqual(len(lines), 399)
            self.assertLessEqual(max(len(line) for line in lines), 120)
            self.assertRegex(text, r"^[ -~\n]*$")
            self.assertIsNone(WORDS.search(text))

    def test_functions_are_short_and_plain(self):
        for path, tree in self.trees():
            for node in ast.walk(tree):
                if isinstance(node, ast.FunctionDef):
                    self.assertLessEqual(node.end_lineno - node.lineno + 1, 40, node.name)
                    self.assertIsNotNone(ast.get_docstring(node) or node.name == "__init__" or None, node.name)
                    self.assertEqual(node.decorator_list, [])
                    self.assertIsNone(node.args.vararg or node.args.kwarg)
                    self.assertEqual(node.args.kwonlyargs + node.args.posonlyargs, [])

    def test_statements_and_names(self):
        for path, tree in self.trees():
            own = {"True", "False", "None", "__init__"}
            for node in ast.walk(tree):
                self.assertIn(node.__class__.__name__, NODES, getattr(node, "lineno", 0))
                if isinstance(node, (ast.FunctionDef, ast.ClassDef)):
                    own.add(node.name)
                elif isinstance(node, ast.alias):
                    own.add(node.name)
                elif isinstance(node, ast.arg):
                    own.add(node.arg)
                elif isinstance(node, ast.Name) and isinstance(node.ctx, ast.Store):
                    own.add(node.id)
                elif isinstance(node, ast.Constant):
                    self.assertNotIsInstance(node.value, (float, bytes, complex))
                elif isinstance(node, ast.Assign):
                    self.assertEqual(len(node.targets), 1)
            self.assertEqual(own & NAMES, set())
            for name in {node.id for node in ast.walk(tree) if isinstance(node, ast.Name)}:
                self.assertIn(name, own | NAMES)
            for name in own - {"__init__"}:
                self.assertFalse(name.startswith("_"), name)

    def test_methods(self):
        values = {"self"}
        for path, tree in self.trees():
            values |= {node.attr for node in ast.walk(tree) if isinstance(node, ast.Attribute)
                       and isinstance(node.ctx, ast.Store)}
        for path, tree in self.trees():
            for node in ast.walk(tree):
                if isinstance(node, ast.Attribute):
                    self.assertIn(node.attr, METHODS | values)

    def test_imports(self):
        drawn = {}
        for path, tree in self.trees():
            drawn[path.stem] = set()
            for node in tree.body:
                if isinstance(node, ast.ImportFrom):
                    self.assertEqual(node.level, 0)
                    self.assertRegex(node.module, r"^leadstrips\.[a-z_]+$")
                    drawn[path.stem].add(node.module.split(".")[1])
                    top = ast.parse((PACKAGE.parent / (node.module.replace(".", "/") + ".py")).read_text())
                    for alias in node.names:
                        self.assertIsNone(alias.asname)
                        self.assertIn(alias.name, self.bound(top))
        while drawn:
            free = [name for name in drawn if not drawn[name] & set(drawn)]
            self.assertTrue(free, "files that draw from one another: " + str(drawn))
            for name in free:
                drawn.pop(name)

    def bound(self, tree):
        names = []
        for node in tree.body:
            if isinstance(node, (ast.FunctionDef, ast.ClassDef)):
                names.append(node.name)
            elif isinstance(node, ast.Assign):
                names.append(node.targets[0].id)
        self.assertEqual(len(names), len(set(names)))
        return names

    def test_the_calls_stand_in_their_file(self):
        for name, calls in CALLS.items():
            tree = ast.parse((PACKAGE / name).read_text())
            told = {node.name: node.args for node in tree.body if isinstance(node, ast.FunctionDef)}
            for call, arguments in calls.items():
                self.assertEqual([arg.arg for arg in told[call].args], arguments.split())
                self.assertEqual(told[call].defaults, [])


if __name__ == "__main__":
    unittest.main()
