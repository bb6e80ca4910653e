"""Points are tuples (x, y): x to the right, y up."""


def turn(p, q, r):
    """Above 0 if the way p q r turns to the left, below 0 to the right, 0 if the three are in a row."""
    return (q[0] - p[0]) * (r[1] - q[1]) - (q[1] - p[1]) * (r[0] - q[0])


def onward(p, v, q):
    """Above 0 if the way p v q turns by less than a right angle at v."""
    return (v[0] - p[0]) * (q[0] - v[0]) + (v[1] - p[1]) * (q[1] - v[1])


def between(number, p, q):
    """Whether number lies from p to q or from q to p; both are in."""
    return p <= number <= q or q <= number <= p


def lies_on(r, p, q):
    """Whether the point r is on the line p q, its ends among it."""
    return turn(p, q, r) == 0 and between(r[0], p[0], q[0]) and between(r[1], p[1], q[1])


def apart(p, q, r, s):
    """Whether r and s lie on different sides of the row through p and q, neither of them in it."""
    r_side = turn(p, q, r)
    s_side = turn(p, q, s)
    return (r_side > 0 and s_side < 0) or (r_side < 0 and s_side > 0)


def cross(p, q, r, s):
    """Whether the lines p q and r s, not in one row, have a point in common that's an end of neither."""
    return apart(p, q, r, s) and apart(r, s, p, q)


def comes_behind(p, q):
    """Whether p comes behind q: by y, of one y by x."""
    return (p[1], p[0]) > (q[1], q[0])
