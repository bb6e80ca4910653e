"""Pieces: strips parted so that each piece comes from one bar."""

from leadstrips.lengths import lengths_of
from leadstrips.strip_rows import strips_of


class Piece:
    """A piece's length, what its joints need included, and its row of points."""

    def __init__(self, length, points):
        self.length = length
        self.points = points


def lead_too_long(lengths, bar, joint):
    """The least number of a lead that is above bar with twice joint, or None."""
    for lead, length in lengths.items():
        if length + 2 * joint > bar:
            return lead
    return None


def parted(strip, lengths, bar, joint):
    """The pieces of a strip along its row; none of its leads is too long."""
    pieces_so_far = []
    length = 2 * joint
    begin = 0
    for k, lead in enumerate(strip.leads):
        if length + lengths[lead] > bar:
            pieces_so_far.append(Piece(length, strip.points[begin:k + 1]))
            length = 2 * joint
            begin = k
        length += lengths[lead]
    pieces_so_far.append(Piece(length, strip.points[begin:]))
    return pieces_so_far


def pieces_of(drawing, a, b, bar, joint):
    """The pieces of a drawing's strips, strip by strip; none of its leads is too long."""
    lengths = lengths_of(drawing)
    pieces_so_far = []
    for strip in strips_of(drawing, a, b):
        pieces_so_far.extend(parted(strip, lengths, bar, joint))
    return pieces_so_far
