"""Ways along the lines of a drawing."""


def neighbours_of(drawing):
    """Point by point the numbers of the points that a line joins with it."""
    neighbours = [[] for point in drawing.points]
    for line in drawing.lines:
        neighbours[line[0]].append(line[1])
        neighbours[line[1]].append(line[0])
    return neighbours


def reached(neighbours, start, shut):
    """Point by point whether a way goes to it from start that doesn't go through shut (None: through any)."""
    seen = [False for point in neighbours]
    seen[start] = True
    waiting = [start]
    while waiting:
        here = waiting.pop()
        for there in neighbours[here]:
            if there != shut and not seen[there]:
                seen[there] = True
                waiting.append(there)
    return seen


def parts_others(neighbours, point):
    """Whether some two other points have no way between them but through this one."""
    start = 1 if point == 0 else 0
    return reached(neighbours, start, point).count(True) < len(neighbours) - 1
