"""Bars: which piece comes from which."""


def longest_first(pieces_in_order):
    """The pieces' numbers by their lengths, the longest first, of one length the lower number first."""
    return sorted(range(len(pieces_in_order)), key=lambda number: (-pieces_in_order[number].length, number))


def bar_that_fits(taken, length, bar):
    """The first bar on which a piece of this length fits; the number of a new one if it fits on none."""
    for number, gone in enumerate(taken):
        if gone + length <= bar:
            return number
    return len(taken)


def bars_of(pieces_in_order, bar, loss):
    """The number of each piece's bar, in the pieces' order."""
    row = [0] * len(pieces_in_order)
    # What is gone of each bar: the lengths on it, and loss for every piece there, for the cut that a next one needs.
    taken = []
    for number in longest_first(pieces_in_order):
        length = pieces_in_order[number].length
        chosen = bar_that_fits(taken, length, bar)
        if chosen == len(taken):
            taken.append(0)
        taken[chosen] += length + loss
        row[number] = chosen
    return row


def bars_begun(pieces_in_order, bar, loss):
    """How many bars the pieces come from."""
    return len(set(bars_of(pieces_in_order, bar, loss)))


def overfull_bar(pieces_in_order, row, bar, loss):
    """The least number of a bar on which there's too much if each piece is on its bar in the row, or None."""
    taken = {}
    for piece, number in zip(pieces_in_order, row):
        taken[number] = taken.get(number, 0) + piece.length + loss
    # Of a bar's pieces one needs no cut.
    return min([number for number, gone in taken.items() if gone - loss > bar], default=None)
