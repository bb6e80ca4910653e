"""Leads, and which of them are joined at which point."""

from leadstrips.drawing import on_frame
from leadstrips.drawing import other_end
from leadstrips.points import onward
from leadstrips.points import turn

# Of a bend |t| / o, o is below 2 ** 41, as the frame's sides are below 2 ** 20. So two bends that differ do so
# by more than 1 / 2 ** 82, and bends times 2 ** 82, rounded down, stand in the same order as the bends themselves.
BEND_BITS = 82


def is_lead(drawing, line):
    """Whether the line isn't on the frame's edge."""
    p = drawing.points[line[0]]
    q = drawing.points[line[1]]
    upright = p[0] == q[0] and p[0] in (0, drawing.width)
    level = p[1] == q[1] and p[1] in (0, drawing.height)
    return not (upright or level)


def leads_of(drawing):
    """The numbers of the lines that are leads."""
    return [i for i, line in enumerate(drawing.lines) if is_lead(drawing, line)]


def leads_by_point(drawing):
    """Point by point the leads that end at it, by number."""
    leads_at = [[] for point in drawing.points]
    for lead in leads_of(drawing):
        for point in drawing.lines[lead]:
            leads_at[point].append(lead)
    return leads_at


def pairs_through(drawing, point, leads, a, b):
    """The pairs among these leads at the point that go through it, in the order in which they are joined."""
    v = drawing.points[point]
    ends = [drawing.points[other_end(drawing.lines[lead], point)] for lead in leads]
    pairs = []
    for k, second in enumerate(leads):
        for i, first in enumerate(leads[:k]):
            t = abs(turn(ends[i], v, ends[k]))
            o = onward(ends[i], v, ends[k])
            if o > 0 and t * b <= o * a:
                pairs.append(((t << BEND_BITS) // o, first, second))
    return [(first, second) for bend, first, second in sorted(pairs)]


def joins_of(drawing, a, b):
    """The lead that a lead is joined with at a point, kept under (lead, point); nothing where it's joined with none."""
    joined = {}
    leads_at = leads_by_point(drawing)
    for point, place in enumerate(drawing.points):
        if not on_frame(drawing, place):
            for first, second in pairs_through(drawing, point, leads_at[point], a, b):
                if (first, point) not in joined and (second, point) not in joined:
                    joined[(first, point)] = second
                    joined[(second, point)] = first
    return joined
