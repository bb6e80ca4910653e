"""The calls: each answers with one list of whole numbers; all but root take a shop's five numbers and a cartoon."""

from leadstrips.bar_rows import bars_begun
from leadstrips.bar_rows import bars_of
from leadstrips.bar_rows import overfull_bar
from leadstrips.drawing import drawing_of
from leadstrips.joints import soldered_points
from leadstrips.lengths import lengths_of
from leadstrips.lengths import root_above
from leadstrips.piece_rows import pieces_of
from leadstrips.refusals import refusal_of
from leadstrips.refusals import refusal_of_number
from leadstrips.refusals import refusal_of_parting
from leadstrips.strip_rows import strips_of


def strips(a, b, bar, joint, loss, cartoon):
    """0, how many strips, and of each how many numbers its row has and these: the numbers of its points."""
    refusal = refusal_of(a, b, bar, joint, loss, cartoon)
    if refusal is not None:
        return refusal
    told = strips_of(drawing_of(cartoon), a, b)
    answer = [0, len(told)]
    for strip in told:
        answer.append(len(strip.points))
        answer.extend(strip.points)
    return answer


def pieces(a, b, bar, joint, loss, cartoon):
    """0, how many pieces, and of each its length, how many numbers its row has and these: its points' numbers."""
    refusal = refusal_of_parting(a, b, bar, joint, loss, cartoon)
    if refusal is not None:
        return refusal
    told = pieces_of(drawing_of(cartoon), a, b, bar, joint)
    answer = [0, len(told)]
    for piece in told:
        answer.extend([piece.length, len(piece.points)])
        answer.extend(piece.points)
    return answer


def bars(a, b, bar, joint, loss, cartoon):
    """0, how many pieces, and the number of each piece's bar."""
    refusal = refusal_of_parting(a, b, bar, joint, loss, cartoon)
    if refusal is not None:
        return refusal
    told = bars_of(pieces_of(drawing_of(cartoon), a, b, bar, joint), bar, loss)
    return [0, len(told)] + told


def judge(a, b, bar, joint, loss, cartoon, row):
    """0 alone if on no bar of the row there's too much; else 0, 1 and the least number of such a bar."""
    refusal = refusal_of_parting(a, b, bar, joint, loss, cartoon)
    if refusal is not None:
        return refusal
    told = pieces_of(drawing_of(cartoon), a, b, bar, joint)
    if len(row) != len(told):
        return [-2]
    overfull = overfull_bar(told, row, bar, loss)
    if overfull is None:
        return [0]
    return [0, 1, overfull]


def total(a, b, bar, joint, loss, cartoon):
    """0, how many pieces, the lengths of all leads together, how many soldered joints, how many bars are begun."""
    refusal = refusal_of_parting(a, b, bar, joint, loss, cartoon)
    if refusal is not None:
        return refusal
    drawing = drawing_of(cartoon)
    told = pieces_of(drawing, a, b, bar, joint)
    length = sum(lengths_of(drawing).values())
    return [0, len(told), length, len(soldered_points(drawing, a, b)), bars_begun(told, bar, loss)]


def root(number):
    """0 and the least number whose square is at least the number."""
    refusal = refusal_of_number(number)
    if refusal is not None:
        return refusal
    return [0, root_above(number)]
