"""What the tests build their cartoons with.

The panes are found here by upright slabs and fractions, another way than the program's, so that a cartoon
built here and taken by the program is a test of its rules too.
"""

from fractions import Fraction
from math import isqrt

SHOP = (1, 1, 60, 2, 1)


def number(value, size):
    """So many bytes, the lowest first."""
    return list(value.to_bytes(size, "little"))


def written(width, height, points, lines, marks, sign=b"GLA1", counts=None, spare=(0, 0)):
    """The bytes of a drawing as it's told, whether it's a cartoon or not."""
    if counts is None:
        counts = (len(points), len(lines), len(marks))
    cartoon = list(sign) + number(width, 4) + number(height, 4)
    for count in counts:
        cartoon += number(count, 2)
    cartoon += spare
    for x, y in points:
        cartoon += number(x, 4) + number(y, 4)
    for first, second in lines:
        cartoon += number(first, 2) + number(second, 2)
    for i, (x, y) in enumerate(marks):
        cartoon += number(x, 4) + number(y, 4) + number(i % 7, 2) + number(i % 5, 2)
    return cartoon


RUN_POINTS = [(0, 0), (30, 0), (10, 10), (0, 20), (30, 20)]
RUN_LINES = [(0, 1), (0, 2), (0, 3), (1, 2), (1, 4), (2, 3), (3, 4)]
RUN_MARKS = [(15, 2), (2, 10), (20, 15)]


def run(width=30, height=20, points=RUN_POINTS, lines=RUN_LINES, marks=RUN_MARKS, **head):
    """The cartoon of the document's run, or one that differs from it in what is named."""
    return written(width, height, points, lines, marks, **head)


def height_at(line, x):
    (px, py), (qx, qy) = line
    return py + Fraction((qy - py) * (x - px), qx - px)


class Slabs:
    """The panes of a drawing: its parts between upright rows through its points, put together."""

    def __init__(self, points, segments):
        self.across = sorted({x for x, y in points})
        self.slabs = []
        for left, right in zip(self.across, self.across[1:]):
            over = [tuple(sorted(s)) for s in segments if min(s)[0] <= left and max(s)[0] >= right]
            over.sort(key=lambda s: height_at(s, left) + height_at(s, right))
            self.slabs.append(over)
        self.segments = segments
        self.above = {}
        for i, over in enumerate(self.slabs):
            for k in range(len(over) - 1):
                self.above[(i, k)] = (i, k)
        for i in range(len(self.slabs) - 1):
            self.put_together(i)

    def root(self, part):
        while self.above[part] != part:
            part = self.above[part]
        return part

    def gap(self, part, x):
        over = self.slabs[part[0]]
        return height_at(over[part[1]], x), height_at(over[part[1] + 1], x)

    def put_together(self, i):
        x = self.across[i + 1]
        walls = [(min(s)[1], max(s)[1]) for s in self.segments if s[0][0] == s[1][0] == x]
        for k in range(len(self.slabs[i]) - 1):
            for m in range(len(self.slabs[i + 1]) - 1):
                left, right = self.gap((i, k), x), self.gap((i + 1, m), x)
                low, high = max(left[0], right[0]), min(left[1], right[1])
                # A wall's end between low and high has nothing but a further wall at it, so the middle tells all.
                if low < high and not any(a <= (low + high) / 2 <= b for a, b in walls):
                    self.above[self.root((i + 1, m))] = self.root((i, k))

    def panes(self):
        return sorted({self.root(part) for part in self.above})

    def mark_in(self, pane):
        """A point with whole numbers in the pane, or None if none was found."""
        for part in sorted(self.above):
            if self.root(part) == pane:
                left, right = self.across[part[0]], self.across[part[0] + 1]
                step = max(1, (right - left) // 40)
                for x in [(left + right) // 2] + list(range(left, right + 1, step)):
                    low, high = self.gap(part, x)
                    y = int((low + high) // 2)
                    for y in (y, y + 1):
                        if low < y < high and not self.on_wall((x, y)):
                            return (x, y)
        return None

    def on_wall(self, point):
        """Whether the point is on an upright line."""
        walls = [s for s in self.segments if s[0][0] == s[1][0] == point[0]]
        return any(min(s)[1] <= point[1] <= max(s)[1] for s in walls)


class Window:
    """A cartoon made of its leads, each two points (x, y): frame, numbers and marks are found here."""

    def __init__(self, width, height, leads, edge_points=()):
        corners = [(0, 0), (width, 0), (0, height), (width, height)]
        all_points = set(corners) | {point for lead in leads for point in lead} | set(edge_points)
        self.width, self.height = width, height
        self.points = sorted(all_points, key=lambda point: (point[1], point[0]))
        self.numbers = {point: i for i, point in enumerate(self.points)}
        lines = [self.pair(p, q) for p, q in leads]
        for axis, at in ((0, 0), (0, width), (1, 0), (1, height)):
            row = sorted(point for point in self.points if point[axis] == at)
            lines += [self.pair(p, q) for p, q in zip(row, row[1:])]
        self.lines = sorted(lines)
        self.leads = sorted(self.lead(p, q) for p, q in leads)
        self.slabs = Slabs(self.points, [(self.points[i], self.points[k]) for i, k in self.lines])
        marks = [self.slabs.mark_in(pane) for pane in self.slabs.panes()]
        self.whole = None not in marks
        self.marks = sorted((m for m in marks if m is not None), key=lambda mark: (mark[1], mark[0]))
        self.cartoon = written(width, height, self.points, self.lines, self.marks)

    def pair(self, p, q):
        return tuple(sorted((self.numbers[p], self.numbers[q])))

    def lead(self, p, q):
        """The number of the line between two points."""
        return self.lines.index(self.pair(p, q))

    def row(self, points):
        """How many points there are, and their numbers."""
        return [len(points)] + [self.numbers[point] for point in points]

    def strips(self, *rows):
        """The answer that tells strips of these points."""
        answer = [0, len(rows)]
        for row in rows:
            answer += self.row(row)
        return answer

    def pieces(self, *pieces):
        """The answer that tells pieces, each its length and its points."""
        answer = [0, len(pieces)]
        for length, row in pieces:
            answer += [length] + self.row(row)
        return answer


def fence(lengths, height=16):
    """A window with posts from its lower edge to its upper one: post i is piece i, with the i-th of the lengths.

    Each length is from height on and below height * height, so that it's what a distance is rounded up to.
    """
    posts, at = [], 2
    for length in lengths:
        aside = isqrt(length * length - height * height)
        posts.append(((at, 0), (at + aside, height)))
        at += aside + 2
    return Window(max(at, 16), height, posts)


def two_on_each_edge():
    """Edge by edge a point of it at which two leads end that would go through it within the frame, and its window."""
    for place, ends, far in (
        ((0, 20), ((3, 3), (3, 37)), (40, 20)),
        ((40, 20), ((37, 3), (37, 37)), (0, 20)),
        ((20, 0), ((3, 3), (37, 3)), (20, 40)),
        ((20, 40), ((3, 37), (37, 37)), (20, 0)),
    ):
        leads = [(place, ends[0]), (place, ends[1]), (ends[0], (20, 20)), (ends[1], (20, 20)), ((20, 20), far)]
        yield place, Window(40, 40, leads)


class Held(list):
    """A list that may be read and not changed, not for a while either."""

    def changed(self, *what, **how):
        raise AssertionError("what is handed in was changed")

    append = clear = extend = insert = pop = remove = reverse = sort = changed
    __setitem__ = __delitem__ = __iadd__ = __imul__ = changed


def rows_of(answer):
    """The rows that an answer of strips tells."""
    rows, at = [], 2
    while at < len(answer):
        rows.append(answer[at + 1:at + 1 + answer[at]])
        at += 1 + answer[at]
    assert answer[0] == 0 and answer[1] == len(rows)
    return rows


def pieces_of(answer):
    """The pieces that an answer of pieces tells: (length, row)."""
    told, at = [], 2
    while at < len(answer):
        told.append((answer[at], answer[at + 2:at + 2 + answer[at + 1]]))
        at += 2 + answer[at + 1]
    assert answer[0] == 0 and answer[1] == len(told)
    return told
