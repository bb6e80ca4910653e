"""What is refused, in the order in which it's looked at."""

from leadstrips.rules import first_fault

MOST_BYTES = 131072


def is_shop(a, b, bar, joint, loss):
    """Whether each of a shop's five numbers is within its bounds."""
    bend = 0 <= a <= 1000 and 1 <= b <= 1000
    return bend and 1 <= bar <= 16777215 and 0 <= joint <= 65535 and 0 <= loss <= 65535


def refusal_of(a, b, bar, joint, loss, cartoon):
    """The numbers of the refusal of this shop or this cartoon, or None if neither is refused."""
    if not is_shop(a, b, bar, joint, loss):
        return [-1]
    if len(cartoon) > MOST_BYTES:
        return [-6]
    fault = first_fault(cartoon)
    if fault is not None:
        return [-5] + fault
    return None
