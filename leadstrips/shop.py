"""The calls: each takes a shop's five numbers and a cartoon's bytes, and answers with one list of whole numbers."""

from leadstrips.drawing import drawing_of
from leadstrips.lengths import lengths_of
from leadstrips.piece_rows import lead_too_long
from leadstrips.piece_rows import pieces_of
from leadstrips.refusals import refusal_of
from leadstrips.strip_rows import strips_of


def strips(a, b, bar, joint, loss, cartoon):
    """0, how many strips, and of each how many numbers its row has and these: the numbers of its points."""
    refusal = refusal_of(a, b, bar, joint, loss, cartoon)
    if refusal is not None:
        return refusal
    told = strips_of(drawing_of(cartoon), a, b)
    answer = [0, len(told)]
    for strip in told:
        answer.append(len(strip.points))
        answer.extend(strip.points)
    return answer


def pieces(a, b, bar, joint, loss, cartoon):
    """0, how many pieces, and of each its length, how many numbers its row has and these: its points' numbers."""
    refusal = refusal_of(a, b, bar, joint, loss, cartoon)
    if refusal is not None:
        return refusal
    drawing = drawing_of(cartoon)
    lengths = lengths_of(drawing)
    too_long = lead_too_long(lengths, bar, joint)
    if too_long is not None:
        return [-3, too_long]
    told = pieces_of(strips_of(drawing, a, b), lengths, bar, joint)
    answer = [0, len(told)]
    for piece in told:
        answer.extend([piece.length, len(piece.points)])
        answer.extend(piece.points)
    return answer
