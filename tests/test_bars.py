import random
import unittest

from cartoons import Window, fence, pieces_of, run
from leadstrips.shop import bars, pieces

# A strip of 10, 15, 15 and 20 straight across, and three short ones that end at it.
STRAIGHT = Window(60, 40, [
    ((0, 20), (10, 20)), ((10, 20), (25, 20)), ((25, 20), (40, 20)), ((40, 20), (60, 20)),
    ((10, 20), (10, 40)), ((25, 0), (25, 20)), ((40, 20), (40, 40)),
])


def put_on_bars(lengths, bar, loss):
    """Each piece's bar as the document tells it, nothing kept but which pieces lie on which bar."""
    on = []
    where = {}
    while len(where) < len(lengths):
        left = [piece for piece in range(len(lengths)) if piece not in where]
        longest = max(lengths[piece] for piece in left)
        piece = min(piece for piece in left if lengths[piece] == longest)
        fitting = []
        for number, there in enumerate(on):
            if sum(lengths[other] for other in there) + longest + sum(loss for other in there) <= bar:
                fitting.append(number)
        where[piece] = min(fitting, default=len(on))
        if not fitting:
            on.append([])
        on[where[piece]].append(piece)
    return [where[piece] for piece in range(len(lengths))]


class BarTest(unittest.TestCase):
    def told(self, lengths, bar, loss, row, joint=0):
        """Pieces of these lengths lie on these bars."""
        window = fence([length - 2 * joint for length in lengths])
        self.assertTrue(window.whole)
        shop = (1, 1, bar, joint, loss)
        self.assertEqual([length for length, points in pieces_of(pieces(*shop, window.cartoon))], lengths)
        self.assertEqual(bars(*shop, window.cartoon), [0, len(row)] + row)


class TheRun(unittest.TestCase):
    def told(self, bar, *row, joint=2, loss=1):
        self.assertEqual(bars(1, 1, bar, joint, loss, run()), [0, len(row)] + list(row))

    def test_bar_60(self):
        self.told(60, 1, 0)

    def test_bar_61(self):
        self.told(61, 1, 0)

    def test_bar_62(self):
        self.told(62, 0, 0)

    def test_bar_40(self):
        self.told(40, 1, 0, 1)

    def test_bar_26(self):
        self.assertEqual(bars(1, 1, 26, 2, 1, run()), [-3, 3])

    def test_other_losses(self):
        self.told(61, 0, 0, loss=0)
        self.told(60, 1, 0, loss=0)
        self.told(62, 1, 0, loss=2)
        self.told(38, 1, 0, 1, loss=0)
        self.told(38, 1, 0, 2, loss=1)
        self.told(39, 1, 0, 1, loss=1)

    def test_joint(self):
        self.told(53, 0, 0, joint=0, loss=0)
        self.told(52, 1, 0, joint=0, loss=0)
        self.told(60, 1, 0, 2, joint=12)

    def test_other_bends(self):
        for a, b in ((0, 1), (333, 1000)):
            self.assertEqual(bars(a, b, 60, 2, 1, run()), [0, 3, 0, 0, 1])
        for a, b in ((1, 3), (1000, 333)):
            self.assertEqual(bars(a, b, 60, 2, 1, run()), [0, 2, 1, 0])

    def test_a_strip_in_more_pieces_on_more_bars(self):
        self.told(41, 1, 0, 1)
        self.told(42, 1, 0)
        self.told(27, 1, 0, 2)


class Order(BarTest):
    def test_the_longest_first(self):
        self.told([20, 30, 40], 70, 0, [1, 0, 0])
        self.told([40, 30, 20], 70, 0, [0, 0, 1])
        self.told([30, 20, 40], 70, 0, [0, 1, 0])

    def test_not_in_the_order_of_their_numbers(self):
        self.told([20, 25, 50, 55], 75, 0, [0, 1, 1, 0])

    def test_of_one_length_the_lower_number_first(self):
        self.told([30, 30, 30], 60, 0, [0, 0, 1])
        self.told([30, 30, 30], 59, 0, [0, 1, 2])
        self.told([20, 30, 20, 30, 20], 80, 0, [0, 0, 1, 0, 1])
        self.told([20, 30, 20, 30, 20], 100, 0, [0, 0, 0, 0, 1])

    def test_pieces_of_one_length_and_longer_ones_between(self):
        self.told([20, 60, 20, 60, 20], 80, 0, [0, 0, 1, 1, 2])

    def test_pieces_are_numbered_along_their_strips(self):
        # Strips parted: the pieces are 24, 29, 19, 24, 24, 24 with this bar.
        shop = (0, 1, 38, 2, 0)
        lengths = [length for length, row in pieces_of(pieces(*shop, STRAIGHT.cartoon))]
        self.assertEqual(lengths, [24, 29, 19, 24, 24, 24])
        self.assertEqual(bars(*shop, STRAIGHT.cartoon), [0, 6, 1, 0, 5, 2, 3, 4])

    def test_in_the_order_of_pieces_of_parted_strips(self):
        shop = (0, 1, 43, 2, 0)
        self.assertEqual([length for length, row in pieces_of(pieces(*shop, STRAIGHT.cartoon))], [24, 29, 39, 24, 24])
        self.assertEqual(bars(*shop, STRAIGHT.cartoon), [0, 5, 2, 1, 0, 3, 4])
        self.assertEqual(bars(0, 1, 48, 2, 0, STRAIGHT.cartoon), [0, 5, 1, 0, 1, 2, 2])


class Fitting(BarTest):
    def test_one_that_just_fits_and_one_that_is_one_too_long(self):
        self.told([40, 20], 60, 0, [0, 0])
        self.told([40, 21], 60, 0, [0, 1])
        self.told([40, 20], 65, 5, [0, 0])
        self.told([40, 21], 65, 5, [0, 1])
        self.told([40, 20], 64, 5, [0, 1])

    def test_a_piece_that_is_just_a_bar(self):
        self.told([60], 60, 0, [0])
        self.told([60], 60, 65535, [0])
        self.told([60, 60, 16], 60, 0, [0, 1, 2])

    def test_loss_for_each_piece_that_is_there(self):
        self.told([20, 20, 20], 60, 0, [0, 0, 0])
        self.told([20, 20, 20], 60, 1, [0, 0, 1])
        self.told([20, 20, 20], 61, 1, [0, 0, 1])
        self.told([20, 20, 20], 62, 1, [0, 0, 0])
        self.told([20, 20, 20, 20], 110, 10, [0, 0, 0, 0])
        self.told([20, 20, 20, 20], 109, 10, [0, 0, 0, 1])

    def test_no_loss_behind_the_last_piece_of_a_bar(self):
        self.told([30, 30, 20, 20], 57, 7, [0, 1, 0, 1])
        self.told([30, 30, 20, 20], 56, 7, [0, 1, 2, 2])

    def test_a_large_loss(self):
        self.told([20, 20, 20], 1000, 65535, [0, 1, 2])
        self.told([20, 20, 20], 65575, 65535, [0, 0, 1])
        self.told([20, 20, 20], 65574, 65535, [0, 1, 2])
        self.told([20, 20, 20], 131130, 65535, [0, 0, 0])
        self.told([20, 20, 20], 131129, 65535, [0, 0, 1])

    def test_on_a_bar_begun_earlier_behind_one_that_did_not_fit(self):
        self.told([60, 50, 30], 90, 0, [0, 1, 0])
        self.told([60, 50, 40, 30], 90, 0, [0, 1, 1, 0])
        self.told([70, 60, 50, 21, 20], 90, 0, [0, 1, 2, 1, 0])

    def test_the_first_bar_not_the_one_that_it_fills_best(self):
        self.told([50, 60, 30], 90, 0, [1, 0, 0])
        self.told([60, 70, 20], 90, 0, [1, 0, 0])
        self.told([70, 60, 18, 18], 96, 0, [0, 1, 0, 1])

    def test_joints_are_in_the_lengths(self):
        self.told([60, 40], 100, 0, [0, 0], joint=7)
        self.told([60, 41], 100, 0, [0, 1], joint=7)

    def test_the_greatest_bar_takes_all(self):
        self.told([20] * 40, 16777215, 0, [0] * 40)
        self.told([20] * 40, 16777215, 65535, [0] * 40)


class ManyPieces(unittest.TestCase):
    def test_against_a_plain_reading(self):
        begun = set()
        for seed in range(12):
            chance = random.Random(seed)
            most = chance.choice((20, 40, 100, 250))
            lengths = [chance.randint(16, most) for piece in range(chance.randint(1, 90))]
            window = fence(lengths)
            self.assertTrue(window.whole)
            for joint in (0, chance.randint(1, 30)):
                whole = [length + 2 * joint for length in lengths]
                for bar in (max(whole), 2 * max(whole), 3 * max(whole) + chance.randint(0, 9), 1000):
                    for loss in (0, 1, chance.randint(2, 30), 65535):
                        shop = (1, 1, bar, joint, loss)
                        row = put_on_bars(whole, bar, loss)
                        self.assertEqual(bars(*shop, window.cartoon), [0, len(row)] + row)
                        begun.add(max(row) + 1)
        self.assertGreater(len(begun), 15)

    def test_as_many_as_there_can_be(self):
        points = [(5 * x, y) for y in (0, 20) for x in range(100)]
        lines = [(i, i + 1) for i in range(199) if i != 99] + [(i, i + 100) for i in range(100)]
        window = Window(495, 20, [(points[i], points[i + 100]) for i in range(1, 99)])
        self.assertEqual((window.points, window.lines), (points, sorted(lines)))
        self.assertEqual(bars(1, 1, 20, 0, 0, window.cartoon), [0, 98] + list(range(98)))
        self.assertEqual(bars(1, 1, 64, 0, 2, window.cartoon), [0, 98] + [i // 3 for i in range(98)])
        self.assertEqual(bars(1, 1, 63, 0, 2, window.cartoon), [0, 98] + [i // 2 for i in range(98)])


class NoLeads(unittest.TestCase):
    def test_an_empty_row(self):
        for bar, joint, loss in ((60, 2, 1), (1, 0, 0), (1, 65535, 65535)):
            self.assertEqual(bars(1, 1, bar, joint, loss, Window(40, 30, []).cartoon), [0, 0])


class TooLong(unittest.TestCase):
    def test_of_two_the_least(self):
        self.assertEqual(bars(1, 1, 27, 2, 1, run())[0], 0)
        self.assertEqual(bars(1, 1, 18, 2, 1, run()), [-3, 1])
        self.assertEqual(bars(1, 1, 1, 65535, 1, run()), [-3, 1])
        window = fence([20, 30, 40, 30])
        self.assertEqual(bars(1, 1, 39, 0, 0, window.cartoon), [-3, window.leads[2]])
        self.assertEqual(bars(1, 1, 29, 0, 0, window.cartoon), [-3, window.leads[1]])


if __name__ == "__main__":
    unittest.main()
