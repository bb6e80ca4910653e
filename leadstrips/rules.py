"""The thirteen rules for a cartoon's bytes: each is a function that gives the least place where it's broken, or None.

A rule may build on those before it: it's asked only of bytes that break none of them.
"""

from leadstrips.drawing import HEAD_SIZE
from leadstrips.drawing import asked_size
from leadstrips.drawing import drawing_of
from leadstrips.drawing import line_place
from leadstrips.drawing import mark_place
from leadstrips.drawing import number_at
from leadstrips.drawing import point_place
from leadstrips.panes import pane_at
from leadstrips.panes import panes_of
from leadstrips.points import comes_behind
from leadstrips.points import cross
from leadstrips.points import lies_on
from leadstrips.ways import neighbours_of
from leadstrips.ways import parts_others
from leadstrips.ways import reached

SIGN = (0x47, 0x4C, 0x41, 0x31)

# Each number of the head: its place, how many bytes it has, the least and the most that it may be.
HEAD_BOUNDS = (
    (4, 4, 16, 1048575),
    (8, 4, 16, 1048575),
    (12, 2, 4, 4096),
    (14, 2, 4, 8192),
    (16, 2, 1, 2048),
    (18, 2, 0, 0),
)


def sign_fault(cartoon):
    """Rule 1: fewer bytes than a head has, or another sign than GLA1."""
    if len(cartoon) < HEAD_SIZE:
        return len(cartoon)
    return None if tuple(cartoon[0:4]) == SIGN else 0


def head_fault(cartoon):
    """Rule 2: a number of the head that's out of its bounds."""
    for place, size, least, most in HEAD_BOUNDS:
        number = number_at(cartoon, place, size)
        if number < least or number > most:
            return place
    return None


def size_fault(cartoon):
    """Rule 3: not as many bytes as the head asks for."""
    return None if len(cartoon) == asked_size(cartoon) else HEAD_SIZE


def point_fault(drawing):
    """Rule 4: a point that's out of the frame, or not behind the one before it."""
    points = drawing.points
    for i, point in enumerate(points):
        if point[0] > drawing.width or point[1] > drawing.height:
            return point_place(i)
        if i > 0 and not comes_behind(point, points[i - 1]):
            return point_place(i)
    return None


def line_fault(drawing):
    """Rule 5: a line whose numbers aren't in order or not all points', or that's not behind the one before it."""
    lines = drawing.lines
    for i, line in enumerate(lines):
        if line[0] >= line[1] or line[1] >= len(drawing.points):
            return line_place(drawing, i)
        if i > 0 and line <= lines[i - 1]:
            return line_place(drawing, i)
    return None


def edge_rows(drawing):
    """The numbers of the points on the bottom, the left, the right and the top edge, each row along its edge."""
    points = drawing.points
    return [
        [i for i, point in enumerate(points) if point[1] == 0],
        [i for i, point in enumerate(points) if point[0] == 0],
        [i for i, point in enumerate(points) if point[0] == drawing.width],
        [i for i, point in enumerate(points) if point[1] == drawing.height],
    ]


def frame_fault(drawing):
    """Rule 6: a corner of the frame that's no point, or a stretch of its edge that's no line."""
    for x in (0, drawing.width):
        for y in (0, drawing.height):
            if (x, y) not in drawing.points:
                return HEAD_SIZE
    joined = {}
    for line in drawing.lines:
        joined[line] = True
    for row in edge_rows(drawing):
        for pair in zip(row, row[1:]):
            if pair not in joined:
                return HEAD_SIZE
    return None


def has_point_on_it(drawing, line):
    """Whether a point of the drawing other than its ends is on the line."""
    points = drawing.points
    p = points[line[0]]
    q = points[line[1]]
    for i, point in enumerate(points):
        if lies_on(point, p, q) and i not in line:
            return True
    return False


def crosses_one_of(drawing, line, others):
    """Whether the line crosses one of the others."""
    points = drawing.points
    p = points[line[0]]
    q = points[line[1]]
    for other in others:
        if cross(p, q, points[other[0]], points[other[1]]):
            return True
    return False


def crossing_fault(drawing):
    """Rule 7: a line with another point on it, or that crosses a line before it.

    Two lines in one row that share more than a point need no look of their own: an end of one is on
    the other, and of the two the one that has such a point on it is found for that.
    """
    lines = drawing.lines
    for i, line in enumerate(lines):
        if has_point_on_it(drawing, line) or crosses_one_of(drawing, line, lines[:i]):
            return line_place(drawing, i)
    return None


def loose_end_fault(drawing):
    """Rule 8: a point that's the end of fewer than two lines."""
    for i, others in enumerate(neighbours_of(drawing)):
        if len(others) < 2:
            return point_place(i)
    return None


def island_fault(drawing):
    """Rule 9: a point from which no way goes to point 0."""
    for i, seen in enumerate(reached(neighbours_of(drawing), 0, None)):
        if not seen:
            return point_place(i)
    return None


def hinge_fault(drawing):
    """Rule 10: a point without which some two others have no way between them."""
    neighbours = neighbours_of(drawing)
    for i in range(len(neighbours)):
        if parts_others(neighbours, i):
            return point_place(i)
    return None


def on_some_line(drawing, mark):
    """Whether the mark is on a line."""
    points = drawing.points
    for line in drawing.lines:
        if lies_on(mark, points[line[0]], points[line[1]]):
            return True
    return False


def mark_fault(drawing):
    """Rule 11: a mark that isn't within the frame, is on a line, or isn't behind the one before it."""
    marks = drawing.marks
    for i, mark in enumerate(marks):
        if not (0 < mark[0] < drawing.width and 0 < mark[1] < drawing.height):
            return mark_place(drawing, i)
        if on_some_line(drawing, mark):
            return mark_place(drawing, i)
        if i > 0 and not comes_behind(mark, marks[i - 1]):
            return mark_place(drawing, i)
    return None


def second_mark_fault(drawing):
    """Rule 12: a mark in a pane that has a mark before it."""
    panes = panes_of(drawing)
    marked = {}
    for i, mark in enumerate(drawing.marks):
        pane = pane_at(panes, mark)
        if pane in marked:
            return mark_place(drawing, i)
        marked[pane] = True
    return None


def bare_pane_fault(drawing):
    """Rule 13: a pane without a mark; no pane has two, so there are more panes than marks."""
    if len(panes_of(drawing)) > len(drawing.marks):
        return mark_place(drawing, len(drawing.marks))
    return None


RULES_OF_BYTES = (sign_fault, head_fault, size_fault)
RULES_OF_DRAWINGS = (
    point_fault,
    line_fault,
    frame_fault,
    crossing_fault,
    loose_end_fault,
    island_fault,
    hinge_fault,
    mark_fault,
    second_mark_fault,
    bare_pane_fault,
)


def first_fault(cartoon):
    """The first broken rule and its place, as a list of two; or None if the bytes are a cartoon."""
    for rule, fault_in in enumerate(RULES_OF_BYTES, start=1):
        place = fault_in(cartoon)
        if place is not None:
            return [rule, place]
    drawing = drawing_of(cartoon)
    for rule, fault_in in enumerate(RULES_OF_DRAWINGS, start=1 + len(RULES_OF_BYTES)):
        place = fault_in(drawing)
        if place is not None:
            return [rule, place]
    return None
