"""Strips: leads joined one with the next, and the row of points along each."""

from leadstrips.drawing import other_end
from leadstrips.leads import joins_of
from leadstrips.leads import leads_of


class Strip:
    """The leads of a strip one behind the other, and its row of points: one more than its leads."""

    def __init__(self, leads, points):
        self.leads = leads
        self.points = points


def walked(drawing, joined, lead, start):
    """The strip from the point start along the lead, and on as far as leads are joined; a ring till it's round."""
    leads = [lead]
    points = [start, other_end(drawing.lines[lead], start)]
    following = joined.get((lead, points[-1]))
    while following is not None and following != lead:
        leads.append(following)
        points.append(other_end(drawing.lines[following], points[-1]))
        following = joined.get((following, points[-1]))
    return Strip(leads, points)


def strip_of_least(drawing, joined, lead):
    """The strip whose least lead this is, from the end from which it's told.

    A ring's least lead has the ring's least point first, as the lines are in order: so it's told from there along it.
    """
    there = walked(drawing, joined, lead, drawing.lines[lead][0])
    last = there.leads[-1]
    end = there.points[-1]
    if (last, end) in joined:
        return there
    back = walked(drawing, joined, last, end)
    if (back.points[-1], back.leads[-1]) < (end, last):
        return walked(drawing, joined, back.leads[-1], back.points[-1])
    return back


def strips_of(drawing, a, b):
    """The strips by their least leads' numbers, where leads go through a point that bend by a over b at most."""
    joined = joins_of(drawing, a, b)
    taken = {}
    strips_so_far = []
    for lead in leads_of(drawing):
        if lead not in taken:
            strip = strip_of_least(drawing, joined, lead)
            for other in strip.leads:
                taken[other] = True
            strips_so_far.append(strip)
    return strips_so_far
