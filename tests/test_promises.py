"""What holds of every answer, asked of many cartoons."""

import unittest
from fractions import Fraction

from cartoons import pieces_of, rows_of
from leadstrips.shop import bars, judge, pieces, strips
from many_windows import WINDOWS, bend_at, joined_pairs, kin_of, leads_along, lengths_in, none_bend_as_much, through

BENDS = ((0, 1), (1, 10), (1, 2), (1, 1), (3, 1), (1000, 1))


def is_ring(window, row, joined):
    """Whether the row of a strip goes on where it ends, as its first lead and its last are joined there."""
    leads = leads_along(window, row)
    return row[0] == row[-1] and (row[0], *sorted((leads[0], leads[-1]))) in joined


def joins_told(window, rows, joined):
    """All (point, lesser lead, greater lead) that are joined in the rows of the strips as they're told."""
    told = set()
    for row in rows:
        leads = leads_along(window, row)
        told |= {(v, *sorted(pair)) for v, *pair in zip(row[1:], leads, leads[1:])}
        if is_ring(window, row, joined):
            told.add((row[0], *sorted((leads[0], leads[-1]))))
    return told


class Strips(unittest.TestCase):
    def each(self):
        for window in WINDOWS:
            self.assertTrue(window.whole)
            for a, b in BENDS:
                yield window, a, b, rows_of(strips(a, b, 60, 2, 1, window.cartoon))

    def test_each_lead_lies_in_one_strip_at_one_place(self):
        for window, a, b, rows in self.each():
            leads = [lead for row in rows for lead in leads_along(window, row)]
            self.assertEqual(sorted(leads), window.leads)

    def test_joined_are_those_that_the_order_joins(self):
        rings = 0
        for window, a, b, rows in self.each():
            joined = joined_pairs(window, a, b)
            self.assertEqual(joins_told(window, rows, joined), joined)
            rings += sum(is_ring(window, row, joined) for row in rows)
        self.assertGreater(rings, 5)

    def test_one_behind_the_other_go_through_the_point_between(self):
        for window, a, b, rows in self.each():
            for row in rows:
                leads = leads_along(window, row)
                for v, first, second in zip(row[1:], leads, leads[1:]):
                    x, y = window.points[v]
                    self.assertTrue(0 < x < window.width and 0 < y < window.height)
                    bend = bend_at(window, v, first, second)
                    self.assertIsNotNone(bend)
                    self.assertLessEqual(bend, Fraction(a, b))

    def test_one_at_least_of_two_that_would_go_through_is_joined(self):
        for window, a, b, rows in self.each():
            joined = joins_told(window, rows, joined_pairs(window, a, b))
            ends = {(v, lead) for v, *pair in joined for lead in pair}
            for v, pairs in through(window, a, b).items():
                for bend, first, second in pairs:
                    self.assertTrue((v, first) in ends or (v, second) in ends)

    def test_from_which_end_each_row_is_told(self):
        for window, a, b, rows in self.each():
            joined = joined_pairs(window, a, b)
            for row in rows:
                leads = leads_along(window, row)
                if is_ring(window, row, joined):
                    self.assertEqual(row[0], min(row))
                    self.assertEqual(leads[0], min(lead for lead in leads if row[0] in window.lines[lead]))
                else:
                    self.assertLessEqual((row[0], leads[0]), (row[-1], leads[-1]))

    def test_strips_are_numbered_by_their_least_leads(self):
        for window, a, b, rows in self.each():
            least = [min(leads_along(window, row)) for row in rows]
            self.assertEqual(least, sorted(least))

    def test_mirrored_or_turned_there_are_as_many(self):
        plain = 0
        for window in WINDOWS:
            bends = [bend for bend in BENDS if none_bend_as_much(window, *bend)]
            plain += len(bends)
            for kin in kin_of(window) if bends else ():
                for a, b in bends:
                    count = strips(a, b, 60, 2, 1, window.cartoon)[1]
                    self.assertEqual(strips(a, b, 60, 2, 1, kin.cartoon)[1], count)
        self.assertGreater(plain, 100)


def shops_of(window, k):
    """Bend, bar, joint and loss of several shops whose bars are long enough; with windows k the bends go round."""
    for a, b in {(1, 1), BENDS[k % len(BENDS)]}:
        for joint in (3, (0, 1, 40)[k % 3]):
            longest = max(lengths_in(window).values()) + 2 * joint
            for bar in (longest, longest + 7, 2 * longest, 3 * longest, min(100 * longest, 16777215)):
                yield a, b, bar, joint, 1


class Pieces(unittest.TestCase):
    @classmethod
    def setUpClass(cls):
        """Of each window with several shops: its lengths, its strips, and the pieces of each strip."""
        cls.each = []
        for k, window in enumerate(WINDOWS):
            for shop in shops_of(window, k):
                told = pieces_of(pieces(*shop, window.cartoon))
                rows = rows_of(strips(*shop, window.cartoon))
                parts = []
                for row in rows:
                    parts.append([])
                    while cls.gone(parts[-1]) < len(row) - 1:
                        parts[-1].append(told.pop(0))
                assert told == []
                cls.each.append((shop, lengths_in(window), window, rows, parts))

    @staticmethod
    def gone(parts):
        """How many leads these pieces have."""
        return sum(len(row) - 1 for length, row in parts)

    def test_the_pieces_of_a_strip_are_its_row(self):
        for shop, lengths, window, rows, parts in self.each:
            for row, told in zip(rows, parts):
                together = told[0][1][:1]
                for length, part in told:
                    self.assertEqual(part[0], together[-1])
                    self.assertGreater(len(part), 1)
                    together = together + part[1:]
                self.assertEqual(together, row)

    def test_each_lead_lies_in_one_piece(self):
        for shop, lengths, window, rows, parts in self.each:
            leads = [lead for told in parts for length, part in told for lead in leads_along(window, part)]
            self.assertEqual(sorted(leads), window.leads)

    def test_lengths_of_pieces(self):
        for (a, b, bar, joint, loss), lengths, window, rows, parts in self.each:
            for told in parts:
                for length, part in told:
                    self.assertEqual(length, sum(lengths[lead] for lead in leads_along(window, part)) + 2 * joint)

    def test_no_longer_than_a_bar_but_with_the_next_lead(self):
        parted = 0
        for (a, b, bar, joint, loss), lengths, window, rows, parts in self.each:
            for told in parts:
                self.assertTrue(all(length <= bar for length, part in told))
                for (length, part), (after, following) in zip(told, told[1:]):
                    self.assertGreater(length + lengths[leads_along(window, following)[0]], bar)
                    parted += 1
        self.assertGreater(parted, 1000)

    def test_with_a_greater_bar_no_more_pieces(self):
        for k, window in enumerate(WINDOWS):
            a, b = BENDS[k % len(BENDS)]
            joint = (0, 3, 40)[k % 3]
            longest = max(lengths_in(window).values()) + 2 * joint
            some = range(longest, 4 * longest, max(9, longest // 8))
            counts = [pieces(a, b, bar, joint, 1, window.cartoon)[1] for bar in some]
            self.assertEqual(counts, sorted(counts, reverse=True))

    def test_the_least_lead_that_is_too_long(self):
        for window in WINDOWS:
            lengths = lengths_in(window)
            for length in sorted(set(lengths.values())):
                bar = length - 1 + 2 * 3
                least = min(lead for lead in lengths if lengths[lead] >= length)
                self.assertEqual(pieces(1, 1, bar, 3, 1, window.cartoon), [-3, least])


class Bars(unittest.TestCase):
    @classmethod
    def setUpClass(cls):
        """Of each window, with several bars and losses: its cartoon, the shop, the pieces' lengths and their bars."""
        cls.each = []
        for k, window in enumerate(WINDOWS):
            joint = (3, 0, 3, 20)[k % 4]
            longest = max(lengths_in(window).values()) + 2 * joint
            for bar in (longest, longest + 7, 2 * longest, 5 * longest):
                for loss in (0, 1, 9, 200):
                    shop = (*BENDS[k % len(BENDS)], bar, joint, loss)
                    lengths = [length for length, row in pieces_of(pieces(*shop, window.cartoon))]
                    cls.each.append((window.cartoon, shop, lengths, bars(*shop, window.cartoon)))

    def test_a_bar_for_each_piece(self):
        for cartoon, shop, lengths, answer in self.each:
            self.assertEqual(answer[:2], [0, len(lengths)])
            self.assertEqual(len(answer), 2 + len(lengths))

    def on_bars(self, lengths, row):
        """Bar by bar the lengths on it; no number is left out."""
        self.assertEqual(sorted(set(row)), list(range(max(row) + 1)))
        return [[length for length, chosen in zip(lengths, row) if chosen == number] for number in range(max(row) + 1)]

    def test_on_no_bar_too_much(self):
        for cartoon, (a, b, bar, joint, loss), lengths, (ok, count, *row) in self.each:
            for there in self.on_bars(lengths, row):
                self.assertLessEqual(sum(there) + loss * (len(there) - 1), bar)

    def test_any_two_bars_are_together_too_much_for_one(self):
        several = 0
        for cartoon, (a, b, bar, joint, loss), lengths, (ok, count, *row) in self.each:
            on = self.on_bars(lengths, row)
            for i, first in enumerate(on):
                for second in on[:i]:
                    both = first + second
                    self.assertGreater(sum(both) + loss * (len(both) - 1), bar)
                    several += len(both) > 3
        self.assertGreater(several, 1000)

    def test_each_piece_on_the_first_bar_on_which_it_fits(self):
        for cartoon, (a, b, bar, joint, loss), lengths, (ok, count, *row) in self.each:
            order = sorted(range(len(lengths)), key=lambda piece: (-lengths[piece], piece))
            for i, piece in enumerate(order):
                for earlier in range(row[piece]):
                    there = [lengths[other] for other in order[:i] if row[other] == earlier]
                    self.assertTrue(there)
                    self.assertGreater(sum(there) + lengths[piece] + loss * len(there), bar)

    def test_judge_finds_nothing_on_them(self):
        for cartoon, shop, lengths, (ok, count, *row) in self.each:
            self.assertEqual(judge(*shop, cartoon, row), [0])

    def test_judge_finds_two_bars_put_together(self):
        for cartoon, shop, lengths, (ok, count, *row) in self.each:
            if max(row) > 0:
                last = max(row)
                self.assertEqual(judge(*shop, cartoon, [min(number, last - 1) for number in row]), [0, 1, last - 1])


if __name__ == "__main__":
    unittest.main()
