"""Windows made at random (the same ones every time), and plain readings of what the document says of them."""

import functools
import math
import random
from fractions import Fraction

from cartoons import Window


def grid(chance, columns, rows, cell, jitter):
    """Points in rows and columns, those within the frame a little out of place."""
    points = {}
    for x in range(columns + 1):
        for y in range(rows + 1):
            dx = chance.randint(-jitter, jitter) if 0 < x < columns else 0
            dy = chance.randint(-jitter, jitter) if 0 < y < rows else 0
            points[(x, y)] = (cell * x + dx, cell * y + dy)
    return points


def grid_leads(chance, points, columns, rows):
    leads = []
    for x in range(columns):
        for y in range(rows):
            if y > 0:
                leads.append((points[(x, y)], points[(x + 1, y)]))
            if x > 0:
                leads.append((points[(x, y)], points[(x, y + 1)]))
            across = chance.choice((None, ((x, y), (x + 1, y + 1)), ((x + 1, y), (x, y + 1))))
            if across:
                leads.append((points[across[0]], points[across[1]]))
    return leads


def holds_together(points, pairs):
    """Whether from each point lines go to two others, and all stay joined whichever point is taken out."""
    for out in points:
        rest = [point for point in points if point != out]
        seen = {rest[0]}
        while True:
            more = {q for p, q in pairs if p in seen} | {p for p, q in pairs if q in seen}
            if more - seen <= {out}:
                break
            seen |= more - {out}
        if len(seen) < len(rest):
            return False
    return all(sum(point in pair for pair in pairs) > 1 for point in points)


# Twelve ways out from a middle point, of nearly one length.
QUARTER = [(12, 0), (10, 6), (6, 10)]
SPOKES = QUARTER + [(-y, x) for x, y in QUARTER] + [(-x, -y) for x, y in QUARTER] + [(y, -x) for x, y in QUARTER]


def wheel_window(seed):
    """Rings within one another, held by spokes: some of them are strips without ends."""
    chance = random.Random(seed)
    leads = []
    rings = []
    for size in (2, 4, 6):
        shake = chance.choice((0, 1, 2))
        rings.append([(100 + size * x + chance.randint(-shake, shake), 100 + size * y) for x, y in SPOKES])
    rings.append([on_edge_beyond(point) for point in rings[-1]])
    for ring in rings[:-1]:
        leads += zip(ring, ring[1:] + ring[:1])
    for inner, outer in zip(rings, rings[1:]):
        leads += [(inner[i], outer[i]) for i in chance.sample(range(12), chance.randint(2, 6))]
    return Window(200, 200, leads)


def on_edge_beyond(point):
    """A point of the frame's edge straight right or left, above or below."""
    x, y = point
    if abs(x - 100) > abs(y - 100):
        return (200 if x > 100 else 0, y)
    return (x, 200 if y > 100 else 0)


def random_window(seed, scale=1):
    """A window of cells, some with a lead across, from which some leads are taken out again."""
    chance = random.Random(seed)
    columns, rows, jitter = chance.randint(2, 5), chance.randint(2, 4), chance.choice((0, 2, 5))
    cell = 20 * scale
    points = grid(chance, columns, rows, cell, jitter * scale)
    leads = grid_leads(chance, points, columns, rows)
    chance.shuffle(leads)
    on_edge = [point for (x, y), point in points.items() if x in (0, columns) or y in (0, rows)]
    window = Window(cell * columns, cell * rows, leads, on_edge)
    edges = [line for i, line in enumerate(window.lines) if i not in window.leads]
    for lead in list(leads)[:chance.randint(0, len(leads))]:
        kept = [other for other in leads if other != lead]
        if holds_together(range(len(window.points)), edges + [window.pair(p, q) for p, q in kept]):
            leads = kept
    return Window(cell * columns, cell * rows, leads, on_edge)


WINDOWS = [random_window(seed) for seed in range(60)] + [wheel_window(seed) for seed in range(20)]
# As wide as cartoons may be, or nearly so.
WINDOWS += [random_window(seed, 10485) for seed in range(20)]


def through(window, a, b):
    """Point by point the pairs of leads that go through, each (bend, lesser, greater), in their order."""
    pairs = {}
    for v, (x, y) in enumerate(window.points):
        pairs[v] = []
        if 0 < x < window.width and 0 < y < window.height:
            here = [lead for lead in window.leads if v in window.lines[lead]]
            for first in here:
                for second in here:
                    bend = bend_at(window, v, first, second)
                    if first < second and bend is not None and bend <= Fraction(a, b):
                        pairs[v].append((bend, first, second))
        pairs[v].sort()
    return pairs


def bend_at(window, v, first, second):
    """|t| / o of two leads at the point v, or None if o isn't above 0."""
    x, y = window.points[v]
    (px, py), (qx, qy) = [window.points[sum(window.lines[lead]) - v] for lead in (first, second)]
    onward = (x - px) * (qx - x) + (y - py) * (qy - y)
    aside = (x - px) * (qy - y) - (y - py) * (qx - x)
    return Fraction(abs(aside), onward) if onward > 0 else None


def joined_pairs(window, a, b):
    """All (point, lesser lead, greater lead) that the document's order joins."""
    joined = set()
    for v, pairs in through(window, a, b).items():
        taken = set()
        for bend, first, second in pairs:
            if not {first, second} & taken:
                taken |= {first, second}
                joined.add((v, first, second))
    return joined


def leads_along(window, row):
    return [window.lines.index(tuple(sorted(pair))) for pair in zip(row, row[1:])]


def lengths_in(window):
    """Each lead's length, by its number."""
    lengths = {}
    for lead in window.leads:
        (px, py), (qx, qy) = [window.points[i] for i in window.lines[lead]]
        lengths[lead] = math.isqrt((qx - px) ** 2 + (qy - py) ** 2 - 1) + 1
    return lengths


def none_bend_as_much(window, a, b):
    """Whether no two of the pairs that go through a point bend as much there."""
    bends = [[bend for bend, first, second in pairs] for pairs in through(window, a, b).values()]
    return all(len(set(row)) == len(row) for row in bends)


@functools.cache
def kin_of(window):
    """The same window mirrored and turned in each way."""
    width, height = window.width, window.height
    kin = []
    for size, moved in (
        ((width, height), lambda x, y: (width - x, y)),
        ((width, height), lambda x, y: (x, height - y)),
        ((width, height), lambda x, y: (width - x, height - y)),
        ((height, width), lambda x, y: (y, x)),
        ((height, width), lambda x, y: (height - y, x)),
        ((height, width), lambda x, y: (y, width - x)),
        ((height, width), lambda x, y: (height - y, width - x)),
    ):
        leads = [tuple(moved(*window.points[i]) for i in window.lines[lead]) for lead in window.leads]
        kin.append(Window(*size, leads, [moved(*point) for point in window.points]))
    return kin
