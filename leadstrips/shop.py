"""The calls: each takes a shop's five numbers and a cartoon's bytes, and answers with one list of whole numbers."""

from leadstrips.drawing import drawing_of
from leadstrips.refusals import refusal_of
from leadstrips.strip_rows import strips_of


def strips(a, b, bar, joint, loss, cartoon):
    """0, how many strips, and of each how many numbers its row has and these: the numbers of its points."""
    refusal = refusal_of(a, b, bar, joint, loss, cartoon)
    if refusal is not None:
        return refusal
    told = strips_of(drawing_of(cartoon), a, b)
    answer = [0, len(told)]
    for strip in told:
        answer.append(len(strip.points))
        answer.extend(strip.points)
    return answer
