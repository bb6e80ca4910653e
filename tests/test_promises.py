"""What holds of every answer, asked of many cartoons."""

import unittest

from cartoons import pieces_of, rows_of
from leadstrips.shop import bars, judge, pieces, strips
from many_windows import WINDOWS, joined_pairs, kin_of, leads_along, lengths_in, none_bend_as_much, through

BENDS = ((0, 1), (1, 10), (1, 2), (1, 1), (3, 1), (1000, 1))


class Strips(unittest.TestCase):
    def each(self):
        for window in WINDOWS:
            self.assertTrue(window.whole)
            for a, b in BENDS:
                yield window, a, b, rows_of(strips(a, b, 60, 2, 1, window.cartoon))

    def test_each_lead_lies_in_one_strip_at_one_place(self):
        for window, a, b, rows in self.each():
            leads = [lead for row in rows for lead in leads_along(window, row)]
            self.assertEqual(sorted(leads), window.leads)

    def test_joined_are_those_that_the_order_joins(self):
        rings = 0
        for window, a, b, rows in self.each():
            joined = joined_pairs(window, a, b)
            told = set()
            for row in rows:
                leads = leads_along(window, row)
                told |= {(v,) + tuple(sorted(pair)) for v, *pair in zip(row[1:], leads, leads[1:])}
                last = (row[0],) + tuple(sorted((leads[0], leads[-1])))
                if row[0] == row[-1] and last in joined:
                    told.add(last)
                    rings += 1
            self.assertEqual(told, joined)
        self.assertGreater(rings, 5)

    def test_one_at_least_of_two_that_would_go_through_is_joined(self):
        for window, a, b, rows in self.each():
            joined = joined_pairs(window, a, b)
            ends = {(v, lead) for v, *pair in joined for lead in pair}
            for v, pairs in through(window, a, b).items():
                for bend, first, second in pairs:
                    self.assertTrue((v, first) in ends or (v, second) in ends)

    def test_from_which_end_each_row_is_told(self):
        for window, a, b, rows in self.each():
            joined = joined_pairs(window, a, b)
            for row in rows:
                leads = leads_along(window, row)
                if (row[0],) + tuple(sorted((leads[0], leads[-1]))) in joined and row[0] == row[-1]:
                    self.assertEqual(row[0], min(row))
                    self.assertEqual(leads[0], min(lead for lead in leads if row[0] in window.lines[lead]))
                else:
                    self.assertLessEqual((row[0], leads[0]), (row[-1], leads[-1]))

    def test_strips_are_numbered_by_their_least_leads(self):
        for window, a, b, rows in self.each():
            least = [min(leads_along(window, row)) for row in rows]
            self.assertEqual(least, sorted(least))

    def test_mirrored_or_turned_there_are_as_many(self):
        for window in WINDOWS:
            if none_bend_as_much(window, 1, 1):
                count = strips(1, 1, 60, 2, 1, window.cartoon)[1]
                for kin in kin_of(window):
                    self.assertEqual(strips(1, 1, 60, 2, 1, kin.cartoon)[1], count)


class Pieces(unittest.TestCase):
    joint = 3

    def each(self):
        """Window by window its lengths, its strips, and the pieces of each strip, with several bars."""
        for window in WINDOWS:
            lengths = lengths_in(window)
            longest = max(lengths.values()) + 2 * self.joint
            rows = rows_of(strips(1, 1, 1, 0, 0, window.cartoon))
            for bar in (longest, longest + 7, 2 * longest, 3 * longest, 100 * longest):
                told = pieces_of(pieces(1, 1, bar, self.joint, 1, window.cartoon))
                parts = []
                for row in rows:
                    parts.append([])
                    while self.gone(parts[-1]) < len(row) - 1:
                        parts[-1].append(told.pop(0))
                self.assertEqual(told, [])
                yield bar, lengths, window, rows, parts

    def gone(self, parts):
        """How many leads these pieces have."""
        return sum(len(row) - 1 for length, row in parts)

    def test_the_pieces_of_a_strip_are_its_row(self):
        for bar, lengths, window, rows, parts in self.each():
            for row, told in zip(rows, parts):
                together = told[0][1][:1]
                for length, part in told:
                    self.assertEqual(part[0], together[-1])
                    self.assertGreater(len(part), 1)
                    together += part[1:]
                self.assertEqual(together, row)

    def test_each_lead_lies_in_one_piece(self):
        for bar, lengths, window, rows, parts in self.each():
            leads = [lead for told in parts for length, part in told for lead in leads_along(window, part)]
            self.assertEqual(sorted(leads), window.leads)

    def test_lengths_of_pieces(self):
        for bar, lengths, window, rows, parts in self.each():
            for told in parts:
                for length, part in told:
                    self.assertEqual(length, sum(lengths[lead] for lead in leads_along(window, part)) + 2 * self.joint)

    def test_no_longer_than_a_bar_but_with_the_next_lead(self):
        for bar, lengths, window, rows, parts in self.each():
            for told in parts:
                self.assertTrue(all(length <= bar for length, part in told))
                for (length, part), (after, following) in zip(told, told[1:]):
                    self.assertGreater(length + lengths[leads_along(window, following)[0]], bar)

    def test_with_a_greater_bar_no_more_pieces(self):
        for window in WINDOWS:
            longest = max(lengths_in(window).values()) + 2 * self.joint
            counts = [pieces(1, 1, bar, self.joint, 1, window.cartoon)[1] for bar in range(longest, 4 * longest, 9)]
            self.assertEqual(counts, sorted(counts, reverse=True))

    def test_the_least_lead_that_is_too_long(self):
        for window in WINDOWS:
            lengths = lengths_in(window)
            for length in sorted(set(lengths.values())):
                bar = length - 1 + 2 * self.joint
                least = min(lead for lead in lengths if lengths[lead] >= length)
                self.assertEqual(pieces(1, 1, bar, self.joint, 1, window.cartoon), [-3, least])


class Bars(unittest.TestCase):
    @classmethod
    def setUpClass(cls):
        """Of each window, with several bars and losses: its cartoon, the shop, the pieces' lengths and their bars."""
        cls.each = []
        for window in WINDOWS:
            longest = max(lengths_in(window).values()) + 6
            for bar in (longest, longest + 7, 2 * longest, 5 * longest):
                for loss in (0, 1, 9, 200):
                    shop = (1, 1, bar, 3, loss)
                    lengths = [length for length, row in pieces_of(pieces(*shop, window.cartoon))]
                    cls.each.append((window.cartoon, shop, lengths, bars(*shop, window.cartoon)))

    def test_a_bar_for_each_piece(self):
        for cartoon, shop, lengths, answer in self.each:
            self.assertEqual(answer[:2], [0, len(lengths)])
            self.assertEqual(len(answer), 2 + len(lengths))

    def on_bars(self, lengths, row):
        """Bar by bar the lengths on it; no number is left out."""
        self.assertEqual(sorted(set(row)), list(range(max(row) + 1)))
        return [[length for length, chosen in zip(lengths, row) if chosen == number] for number in range(max(row) + 1)]

    def test_on_no_bar_too_much(self):
        for cartoon, (a, b, bar, joint, loss), lengths, (ok, count, *row) in self.each:
            for there in self.on_bars(lengths, row):
                self.assertLessEqual(sum(there) + loss * (len(there) - 1), bar)

    def test_any_two_bars_are_together_too_much_for_one(self):
        several = 0
        for cartoon, (a, b, bar, joint, loss), lengths, (ok, count, *row) in self.each:
            on = self.on_bars(lengths, row)
            for i, first in enumerate(on):
                for second in on[:i]:
                    both = first + second
                    self.assertGreater(sum(both) + loss * (len(both) - 1), bar)
                    several += len(both) > 3
        self.assertGreater(several, 1000)

    def test_each_piece_on_the_first_bar_on_which_it_fits(self):
        for cartoon, (a, b, bar, joint, loss), lengths, (ok, count, *row) in self.each:
            order = sorted(range(len(lengths)), key=lambda piece: (-lengths[piece], piece))
            for i, piece in enumerate(order):
                for earlier in range(row[piece]):
                    there = [lengths[other] for other in order[:i] if row[other] == earlier]
                    self.assertTrue(there)
                    self.assertGreater(sum(there) + lengths[piece] + loss * len(there), bar)

    def test_judge_finds_nothing_on_them(self):
        for cartoon, shop, lengths, (ok, count, *row) in self.each:
            self.assertEqual(judge(*shop, cartoon, row), [0])

    def test_judge_finds_two_bars_put_together(self):
        for cartoon, shop, lengths, (ok, count, *row) in self.each:
            if max(row) > 0:
                last = max(row)
                self.assertEqual(judge(*shop, cartoon, [min(number, last - 1) for number in row]), [0, 1, last - 1])


if __name__ == "__main__":
    unittest.main()
