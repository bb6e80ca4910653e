"""Leads' lengths, in whole numbers."""

from leadstrips.leads import leads_of


def root_above(number):
    """The least number whose square is at least the number."""
    most = 1
    while most * most < number:
        most = most * 2
    least = 0
    while least < most:
        middle = (least + most) // 2
        if middle * middle < number:
            least = middle + 1
        else:
            most = middle
    return least


def distance_above(p, q):
    """How far it is from p to q, rounded up to a whole number."""
    across = q[0] - p[0]
    up = q[1] - p[1]
    return root_above(across * across + up * up)


def lengths_of(drawing):
    """Each lead's length, kept under its number, the numbers rising."""
    lengths = {}
    for lead in leads_of(drawing):
        line = drawing.lines[lead]
        lengths[lead] = distance_above(drawing.points[line[0]], drawing.points[line[1]])
    return lengths
