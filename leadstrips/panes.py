"""The panes of a drawing that breaks none of the rules 1 to 10, told by their outlines' corners."""

from leadstrips.points import turn
from leadstrips.ways import neighbours_of


def more_left(u, v, p, q):
    """Whether, for one who comes from u to v, p lies more to the left than q."""
    p_to_the_right = turn(u, v, p) < 0
    q_to_the_right = turn(u, v, q) < 0
    if p_to_the_right != q_to_the_right:
        return q_to_the_right
    return turn(v, q, p) > 0


def leftmost(points, neighbours, come_from, here):
    """The neighbour of here, other than come_from, most to the left for one who comes from there."""
    best = None
    for there in neighbours[here]:
        if there != come_from:
            if best is None or more_left(points[come_from], points[here], points[there], points[best]):
                best = there
    return best


def outline_from(points, neighbours, first, second):
    """The row of points round what lies to the left of the way from first to second."""
    outline = [first]
    come_from = first
    here = second
    while here != first:
        outline.append(here)
        there = leftmost(points, neighbours, come_from, here)
        come_from = here
        here = there
    return outline


def twice_area(corners):
    """Twice the area within the corners; below 0 if it's to the right, as with what is outside of the frame."""
    area = 0
    before = corners[-1]
    for corner in corners:
        area += before[0] * corner[1] - before[1] * corner[0]
        before = corner
    return area


def panes_of(drawing):
    """Pane by pane its corners, each a point (x, y), with the pane to the left all the way round.

    An outline goes somewhere from a lesser number to a greater, along a line as it's written: these find them all.
    """
    neighbours = neighbours_of(drawing)
    gone = {}
    panes = []
    for line in drawing.lines:
        if line not in gone:
            outline = outline_from(drawing.points, neighbours, line[0], line[1])
            for way in zip(outline, outline[1:] + outline[:1]):
                gone[way] = True
            corners = [drawing.points[i] for i in outline]
            if twice_area(corners) > 0:
                panes.append(corners)
    return panes


def surrounds(corners, mark):
    """Whether the outline goes round the mark, which is on no line of it."""
    rounds = 0
    before = corners[-1]
    for corner in corners:
        if before[1] <= mark[1] < corner[1] and turn(before, corner, mark) > 0:
            rounds += 1
        if corner[1] <= mark[1] < before[1] and turn(before, corner, mark) < 0:
            rounds -= 1
        before = corner
    return rounds != 0


def pane_at(panes, mark):
    """The place in panes of the one in which the mark lies; the mark is within the frame and on no line."""
    for i, corners in enumerate(panes):
        if surrounds(corners, mark):
            return i
    return None
