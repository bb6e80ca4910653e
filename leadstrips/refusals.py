"""What is refused, in the order in which it's looked at."""

from leadstrips.drawing import drawing_of
from leadstrips.lengths import lengths_of
from leadstrips.piece_rows import lead_too_long
from leadstrips.rules import first_fault

MOST_BYTES = 131072


def is_shop(a, b, bar, joint, loss):
    """Whether each of a shop's five numbers is within its bounds."""
    bend = 0 <= a <= 1000 and 1 <= b <= 1000
    return bend and 1 <= bar <= 16777215 and 0 <= joint <= 65535 and 0 <= loss <= 65535


def refusal_of(a, b, bar, joint, loss, cartoon):
    """The numbers of the refusal of this shop or this cartoon, or None if neither is refused."""
    if not is_shop(a, b, bar, joint, loss):
        return [-1]
    if len(cartoon) > MOST_BYTES:
        return [-6]
    fault = first_fault(cartoon)
    if fault is not None:
        return [-5] + fault
    return None


def refusal_of_parting(a, b, bar, joint, loss, cartoon):
    """The same, and the refusal of a lead that is too long for any piece."""
    refusal = refusal_of(a, b, bar, joint, loss, cartoon)
    if refusal is not None:
        return refusal
    too_long = lead_too_long(lengths_of(drawing_of(cartoon)), bar, joint)
    if too_long is not None:
        return [-3, too_long]
    return None


def refusal_of_number(number):
    """The refusal of a number of which no root is told, or None."""
    if 0 <= number < 2 ** 64:
        return None
    return [-1]
