"""Cartoons made at random (the same ones every time), and what holds of every answer."""

import math
import random
import unittest
from fractions import Fraction

from cartoons import Window, pieces_of, rows_of
from leadstrips.shop import bars, judge, pieces, strips

CELL = 20
BENDS = ((0, 1), (1, 10), (1, 2), (1, 1), (3, 1), (1000, 1))


def grid(chance, columns, rows, jitter):
    """Points in rows and columns, those within the frame a little out of place."""
    points = {}
    for x in range(columns + 1):
        for y in range(rows + 1):
            dx = chance.randint(-jitter, jitter) if 0 < x < columns else 0
            dy = chance.randint(-jitter, jitter) if 0 < y < rows else 0
            points[(x, y)] = (CELL * x + dx, CELL * y + dy)
    return points


def grid_leads(chance, points, columns, rows):
    leads = []
    for x in range(columns):
        for y in range(rows):
            if y > 0:
                leads.append((points[(x, y)], points[(x + 1, y)]))
            if x > 0:
                leads.append((points[(x, y)], points[(x, y + 1)]))
            across = chance.choice((None, ((x, y), (x + 1, y + 1)), ((x + 1, y), (x, y + 1))))
            if across:
                leads.append((points[across[0]], points[across[1]]))
    return leads


def holds_together(points, pairs):
    """Whether from each point lines go to two others, and all stay joined whichever point is taken out."""
    for out in points:
        rest = [point for point in points if point != out]
        seen = {rest[0]}
        while True:
            more = {q for p, q in pairs if p in seen} | {p for p, q in pairs if q in seen}
            if more - seen <= {out}:
                break
            seen |= more - {out}
        if len(seen) < len(rest):
            return False
    return all(sum(point in pair for pair in pairs) > 1 for point in points)


# Twelve ways out from a middle point, of nearly one length.
QUARTER = [(12, 0), (10, 6), (6, 10)]
SPOKES = QUARTER + [(-y, x) for x, y in QUARTER] + [(-x, -y) for x, y in QUARTER] + [(y, -x) for x, y in QUARTER]


def wheel_window(seed):
    """Rings within one another, held by spokes: some of them are strips without ends."""
    chance = random.Random(seed)
    leads = []
    rings = []
    for size in (2, 4, 6):
        shake = chance.choice((0, 1, 2))
        rings.append([(100 + size * x + chance.randint(-shake, shake), 100 + size * y) for x, y in SPOKES])
    rings.append([on_edge_beyond(point) for point in rings[-1]])
    for ring in rings[:-1]:
        leads += zip(ring, ring[1:] + ring[:1])
    for inner, outer in zip(rings, rings[1:]):
        leads += [(inner[i], outer[i]) for i in chance.sample(range(12), chance.randint(2, 6))]
    return Window(200, 200, leads)


def on_edge_beyond(point):
    """A point of the frame's edge straight right or left, above or below."""
    x, y = point
    if abs(x - 100) > abs(y - 100):
        return (200 if x > 100 else 0, y)
    return (x, 200 if y > 100 else 0)


def random_window(seed):
    chance = random.Random(seed)
    columns, rows, jitter = chance.randint(2, 5), chance.randint(2, 4), chance.choice((0, 2, 5))
    points = grid(chance, columns, rows, jitter)
    leads = grid_leads(chance, points, columns, rows)
    chance.shuffle(leads)
    on_edge = [point for (x, y), point in points.items() if x in (0, columns) or y in (0, rows)]
    window = Window(CELL * columns, CELL * rows, leads, on_edge)
    edges = [line for i, line in enumerate(window.lines) if i not in window.leads]
    for lead in list(leads)[:chance.randint(0, len(leads))]:
        kept = [other for other in leads if other != lead]
        if holds_together(range(len(window.points)), edges + [window.pair(p, q) for p, q in kept]):
            leads = kept
    return Window(CELL * columns, CELL * rows, leads, on_edge)


WINDOWS = [random_window(seed) for seed in range(60)] + [wheel_window(seed) for seed in range(20)]


def through(window, a, b):
    """Point by point the pairs of leads that go through, each (bend, lesser, greater), in their order."""
    pairs = {}
    for v, (x, y) in enumerate(window.points):
        pairs[v] = []
        if 0 < x < window.width and 0 < y < window.height:
            here = [lead for lead in window.leads if v in window.lines[lead]]
            for first in here:
                for second in here:
                    bend = bend_at(window, v, first, second)
                    if first < second and bend is not None and bend <= Fraction(a, b):
                        pairs[v].append((bend, first, second))
        pairs[v].sort()
    return pairs


def bend_at(window, v, first, second):
    """|t| / o of two leads at the point v, or None if o isn't above 0."""
    x, y = window.points[v]
    (px, py), (qx, qy) = [window.points[sum(window.lines[lead]) - v] for lead in (first, second)]
    onward = (x - px) * (qx - x) + (y - py) * (qy - y)
    aside = (x - px) * (qy - y) - (y - py) * (qx - x)
    return Fraction(abs(aside), onward) if onward > 0 else None


def joined_pairs(window, a, b):
    """All (point, lesser lead, greater lead) that the document's order joins."""
    joined = set()
    for v, pairs in through(window, a, b).items():
        taken = set()
        for bend, first, second in pairs:
            if not {first, second} & taken:
                taken |= {first, second}
                joined.add((v, first, second))
    return joined


def leads_along(window, row):
    return [window.lines.index(tuple(sorted(pair))) for pair in zip(row, row[1:])]


class Strips(unittest.TestCase):
    def each(self):
        for window in WINDOWS:
            self.assertTrue(window.whole)
            for a, b in BENDS:
                yield window, a, b, rows_of(strips(a, b, 60, 2, 1, window.cartoon))

    def test_each_lead_lies_in_one_strip_at_one_place(self):
        for window, a, b, rows in self.each():
            leads = [lead for row in rows for lead in leads_along(window, row)]
            self.assertEqual(sorted(leads), window.leads)

    def test_joined_are_those_that_the_order_joins(self):
        rings = 0
        for window, a, b, rows in self.each():
            joined = joined_pairs(window, a, b)
            told = set()
            for row in rows:
                leads = leads_along(window, row)
                told |= {(v,) + tuple(sorted(pair)) for v, *pair in zip(row[1:], leads, leads[1:])}
                last = (row[0],) + tuple(sorted((leads[0], leads[-1])))
                if row[0] == row[-1] and last in joined:
                    told.add(last)
                    rings += 1
            self.assertEqual(told, joined)
        self.assertGreater(rings, 5)

    def test_one_at_least_of_two_that_would_go_through_is_joined(self):
        for window, a, b, rows in self.each():
            joined = joined_pairs(window, a, b)
            ends = {(v, lead) for v, *pair in joined for lead in pair}
            for v, pairs in through(window, a, b).items():
                for bend, first, second in pairs:
                    self.assertTrue((v, first) in ends or (v, second) in ends)

    def test_from_which_end_each_row_is_told(self):
        for window, a, b, rows in self.each():
            joined = joined_pairs(window, a, b)
            for row in rows:
                leads = leads_along(window, row)
                if (row[0],) + tuple(sorted((leads[0], leads[-1]))) in joined and row[0] == row[-1]:
                    self.assertEqual(row[0], min(row))
                    self.assertEqual(leads[0], min(lead for lead in leads if row[0] in window.lines[lead]))
                else:
                    self.assertLessEqual((row[0], leads[0]), (row[-1], leads[-1]))

    def test_strips_are_numbered_by_their_least_leads(self):
        for window, a, b, rows in self.each():
            least = [min(leads_along(window, row)) for row in rows]
            self.assertEqual(least, sorted(least))

    def test_mirrored_or_turned_there_are_as_many(self):
        for window in WINDOWS:
            bends = [[bend for bend, first, second in pairs] for pairs in through(window, 1, 1).values()]
            if all(len(set(row)) == len(row) for row in bends):
                count = strips(1, 1, 60, 2, 1, window.cartoon)[1]
                width, height = window.width, window.height
                for kin in (lambda x, y: (width - x, y), lambda x, y: (x, height - y), lambda x, y: (height - y, x)):
                    corner = max(kin(0, 0), kin(width, height)), max(kin(0, height), kin(width, 0))
                    size = max(point[0] for point in corner), max(point[1] for point in corner)
                    leads = [tuple(kin(*window.points[i]) for i in window.lines[lead]) for lead in window.leads]
                    other = Window(*size, leads, [kin(*point) for point in window.points])
                    self.assertEqual(strips(1, 1, 60, 2, 1, other.cartoon)[1], count)


def lengths_in(window):
    """Each lead's length, by its number."""
    lengths = {}
    for lead in window.leads:
        (px, py), (qx, qy) = [window.points[i] for i in window.lines[lead]]
        lengths[lead] = math.isqrt((qx - px) ** 2 + (qy - py) ** 2 - 1) + 1
    return lengths


class Pieces(unittest.TestCase):
    joint = 3

    def each(self):
        """Window by window its lengths, its strips, and the pieces of each strip, with several bars."""
        for window in WINDOWS:
            lengths = lengths_in(window)
            longest = max(lengths.values()) + 2 * self.joint
            rows = rows_of(strips(1, 1, 1, 0, 0, window.cartoon))
            for bar in (longest, longest + 7, 2 * longest, 3 * longest, 100 * longest):
                told = pieces_of(pieces(1, 1, bar, self.joint, 1, window.cartoon))
                parts = []
                for row in rows:
                    parts.append([])
                    while self.gone(parts[-1]) < len(row) - 1:
                        parts[-1].append(told.pop(0))
                self.assertEqual(told, [])
                yield bar, lengths, window, rows, parts

    def gone(self, parts):
        """How many leads these pieces have."""
        return sum(len(row) - 1 for length, row in parts)

    def test_the_pieces_of_a_strip_are_its_row(self):
        for bar, lengths, window, rows, parts in self.each():
            for row, told in zip(rows, parts):
                together = told[0][1][:1]
                for length, part in told:
                    self.assertEqual(part[0], together[-1])
                    self.assertGreater(len(part), 1)
                    together += part[1:]
                self.assertEqual(together, row)

    def test_each_lead_lies_in_one_piece(self):
        for bar, lengths, window, rows, parts in self.each():
            leads = [lead for told in parts for length, part in told for lead in leads_along(window, part)]
            self.assertEqual(sorted(leads), window.leads)

    def test_lengths_of_pieces(self):
        for bar, lengths, window, rows, parts in self.each():
            for told in parts:
                for length, part in told:
                    self.assertEqual(length, sum(lengths[lead] for lead in leads_along(window, part)) + 2 * self.joint)

    def test_no_longer_than_a_bar_but_with_the_next_lead(self):
        for bar, lengths, window, rows, parts in self.each():
            for told in parts:
                self.assertTrue(all(length <= bar for length, part in told))
                for (length, part), (after, following) in zip(told, told[1:]):
                    self.assertGreater(length + lengths[leads_along(window, following)[0]], bar)

    def test_with_a_greater_bar_no_more_pieces(self):
        for window in WINDOWS:
            longest = max(lengths_in(window).values()) + 2 * self.joint
            counts = [pieces(1, 1, bar, self.joint, 1, window.cartoon)[1] for bar in range(longest, 4 * longest, 9)]
            self.assertEqual(counts, sorted(counts, reverse=True))

    def test_the_least_lead_that_is_too_long(self):
        for window in WINDOWS:
            lengths = lengths_in(window)
            for length in sorted(set(lengths.values())):
                bar = length - 1 + 2 * self.joint
                least = min(lead for lead in lengths if lengths[lead] >= length)
                self.assertEqual(pieces(1, 1, bar, self.joint, 1, window.cartoon), [-3, least])


class Bars(unittest.TestCase):
    @classmethod
    def setUpClass(cls):
        """Of each window, with several bars and losses: its cartoon, the shop, the pieces' lengths and their bars."""
        cls.each = []
        for window in WINDOWS:
            longest = max(lengths_in(window).values()) + 6
            for bar in (longest, longest + 7, 2 * longest, 5 * longest):
                for loss in (0, 1, 9, 200):
                    shop = (1, 1, bar, 3, loss)
                    lengths = [length for length, row in pieces_of(pieces(*shop, window.cartoon))]
                    cls.each.append((window.cartoon, shop, lengths, bars(*shop, window.cartoon)))

    def test_a_bar_for_each_piece(self):
        for cartoon, shop, lengths, answer in self.each:
            self.assertEqual(answer[:2], [0, len(lengths)])
            self.assertEqual(len(answer), 2 + len(lengths))

    def on_bars(self, lengths, row):
        """Bar by bar the lengths on it; no number is left out."""
        self.assertEqual(sorted(set(row)), list(range(max(row) + 1)))
        return [[length for length, chosen in zip(lengths, row) if chosen == number] for number in range(max(row) + 1)]

    def test_on_no_bar_too_much(self):
        for cartoon, (a, b, bar, joint, loss), lengths, (ok, count, *row) in self.each:
            for there in self.on_bars(lengths, row):
                self.assertLessEqual(sum(there) + loss * (len(there) - 1), bar)

    def test_any_two_bars_are_together_too_much_for_one(self):
        several = 0
        for cartoon, (a, b, bar, joint, loss), lengths, (ok, count, *row) in self.each:
            on = self.on_bars(lengths, row)
            for i, first in enumerate(on):
                for second in on[:i]:
                    both = first + second
                    self.assertGreater(sum(both) + loss * (len(both) - 1), bar)
                    several += len(both) > 3
        self.assertGreater(several, 1000)

    def test_each_piece_on_the_first_bar_on_which_it_fits(self):
        for cartoon, (a, b, bar, joint, loss), lengths, (ok, count, *row) in self.each:
            order = sorted(range(len(lengths)), key=lambda piece: (-lengths[piece], piece))
            for i, piece in enumerate(order):
                for earlier in range(row[piece]):
                    there = [lengths[other] for other in order[:i] if row[other] == earlier]
                    self.assertTrue(there)
                    self.assertGreater(sum(there) + lengths[piece] + loss * len(there), bar)

    def test_judge_finds_nothing_on_them(self):
        for cartoon, shop, lengths, (ok, count, *row) in self.each:
            self.assertEqual(judge(*shop, cartoon, row), [0])

    def test_judge_finds_two_bars_put_together(self):
        for cartoon, shop, lengths, (ok, count, *row) in self.each:
            if max(row) > 0:
                last = max(row)
                self.assertEqual(judge(*shop, cartoon, [min(number, last - 1) for number in row]), [0, 1, last - 1])


if __name__ == "__main__":
    unittest.main()
