"""Joints: the points at which leads are soldered."""

from leadstrips.leads import joins_of
from leadstrips.leads import leads_by_point


def soldered_points(drawing, a, b):
    """The numbers of the points at which leads end, but for those at which just two end, joined.

    On the frame's edge none are joined, so the points there need no look of their own.
    """
    joined = joins_of(drawing, a, b)
    soldered = []
    for point, leads in enumerate(leads_by_point(drawing)):
        runs_on = len(leads) == 2 and (leads[0], point) in joined
        if len(leads) > 0 and not runs_on:
            soldered.append(point)
    return soldered
