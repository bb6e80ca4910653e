import random
import unittest

from cartoons import SHOP, Window, fence, pieces_of, run
from leadstrips.shop import bars, judge, pieces

MOST = 2 ** 65 - 1


def too_much(lengths, row, bar, loss):
    """What the document says of these pieces on these bars, read bar by bar from the least number on."""
    for number in sorted(set(row)):
        there = [length for length, chosen in zip(lengths, row) if chosen == number]
        if sum(there) + sum(loss for length in there[1:]) > bar:
            return [0, 1, number]
    return [0]


class JudgeTest(unittest.TestCase):
    def told(self, lengths, bar, loss, row, *told, joint=0):
        """Of pieces of these lengths on these bars this is told."""
        window = fence([length - 2 * joint for length in lengths])
        self.assertTrue(window.whole)
        shop = (1, 1, bar, joint, loss)
        self.assertEqual([length for length, points in pieces_of(pieces(*shop, window.cartoon))], lengths)
        self.assertEqual(judge(*shop, window.cartoon, row), [0] + list(told))


class TheRun(unittest.TestCase):
    def told(self, bar, row, *answer, joint=2, loss=1):
        self.assertEqual(judge(1, 1, bar, joint, loss, run(), row), list(answer))

    def test_the_bars_that_are_told(self):
        for bar, row in ((60, [1, 0]), (61, [1, 0]), (62, [0, 0]), (40, [1, 0, 1]), (27, [1, 0, 2]), (42, [1, 0])):
            self.assertEqual(bars(1, 1, bar, 2, 1, run()), [0, len(row)] + row)
            self.told(bar, row, 0)

    def test_other_bars_that_are_good(self):
        self.told(60, [0, 1], 0)
        self.told(62, [1, 0], 0)
        self.told(62, [7, 7], 0)
        self.told(40, [0, 1, 2], 0)
        self.told(40, [5, 3, 5], 0)

    def test_two_that_are_just_a_bar_and_one_above(self):
        self.told(62, [0, 0], 0)
        self.told(61, [0, 0], 0, 1, 0)
        self.told(60, [0, 0], 0, 1, 0)
        self.told(61, [3, 3], 0, 1, 3)
        self.told(39, [0, 1, 0], 0)
        self.told(38, [0, 1, 0], 0, 1, 0)
        self.told(38, [0, 1, 0], 0, loss=0)

    def test_other_bends(self):
        for a, b in ((0, 1), (333, 1000)):
            self.assertEqual(judge(a, b, 60, 2, 1, run(), [0, 0, 1]), [0])
            self.assertEqual(judge(a, b, 60, 2, 1, run(), [1, 0]), [-2])
        for a, b in ((1, 3), (1000, 333)):
            self.assertEqual(judge(a, b, 60, 2, 1, run(), [0, 0, 1]), [-2])
            self.assertEqual(judge(a, b, 60, 2, 1, run(), [1, 0]), [0])

    def test_a_lead_that_is_too_long(self):
        self.told(26, [1, 0], -3, 3)
        self.told(26, [0, 1, 2], -3, 3)


class AsManyAsPieces(unittest.TestCase):
    def test_fewer_and_more(self):
        for row in ([], [0], [0, 1, 2], [0, 0, 0, 0], [0] * 2000, [MOST]):
            self.assertEqual(judge(1, 1, 60, 2, 1, run(), row), [-2])
        for row in ([], [0, 1], [0, 1, 2, 3], [MOST] * 2000):
            self.assertEqual(judge(1, 1, 40, 2, 1, run(), row), [-2])

    def test_also_where_a_bar_would_be_above(self):
        self.assertEqual(judge(1, 1, 40, 2, 1, run(), [0, 0, 0]), [0, 1, 0])
        self.assertEqual(judge(1, 1, 40, 2, 1, run(), [0, 0, 0, 0]), [-2])
        self.assertEqual(judge(1, 1, 40, 2, 1, run(), [0, 0]), [-2])

    def test_other_refusals_are_told_ahead_of_it(self):
        for row in ([], [0], [0, 1, 2], [MOST] * 2000):
            self.assertEqual(judge(1001, 1, 60, 2, 1, run(), row), [-1])
            self.assertEqual(judge(1, 1, 60, 2, 65536, run(), row), [-1])
            self.assertEqual(judge(*SHOP, [0] * 131073, row), [-6])
            self.assertEqual(judge(*SHOP, run()[:-1], row), [-5, 3, 20])
            self.assertEqual(judge(*SHOP, run(marks=[(15, 2), (2, 10)]), row), [-5, 13, 112])
            self.assertEqual(judge(1, 1, 26, 2, 1, run(), row), [-3, 3])
            self.assertEqual(judge(1, 1, 18, 2, 1, run(), row), [-3, 1])

    def test_a_cartoon_without_leads(self):
        cartoon = Window(40, 30, []).cartoon
        for bar, joint, loss in ((60, 2, 1), (1, 65535, 65535)):
            self.assertEqual(judge(1, 1, bar, joint, loss, cartoon, []), [0])
            for row in ([0], [MOST], [0, 1]):
                self.assertEqual(judge(1, 1, bar, joint, loss, cartoon, row), [-2])


class Numbers(JudgeTest):
    def test_some_left_out(self):
        self.told([30, 30, 20], 60, 0, [4, 9, 4])
        self.told([30, 30, 20], 49, 0, [4, 9, 4], 1, 4)

    def test_out_of_order(self):
        self.told([30, 30, 20], 60, 0, [2, 1, 0])
        self.told([30, 30, 20], 50, 0, [9, 9, 0], 1, 9)
        self.told([30, 30, 20], 50, 0, [0, 9, 9])
        self.told([30, 30, 20], 49, 0, [0, 9, 9], 1, 9)

    def test_very_large(self):
        self.told([30, 30, 20], 60, 0, [MOST, MOST, MOST - 1])
        self.told([30, 30, 20], 59, 0, [MOST, MOST, MOST - 1], 1, MOST)
        self.told([30, 30, 20], 59, 0, [2 ** 64, 2 ** 32, 2 ** 64])
        self.told([30, 30, 20], 49, 0, [2 ** 64, 2 ** 32, 2 ** 64], 1, 2 ** 64)
        # Bars that are one only if their numbers' upper bits are lost.
        self.told([30, 30, 20], 30, 0, [0, 2 ** 32, 2 ** 64])

    def test_of_two_the_least(self):
        self.told([30, 30, 20, 20], 39, 0, [0, 0, 1, 1], 1, 0)
        self.told([30, 30, 20, 20], 39, 0, [1, 1, 0, 0], 1, 0)
        self.told([30, 30, 20, 20], 39, 0, [8, 5, 5, 8], 1, 5)
        self.told([30, 30, 20, 20], 39, 0, [MOST, MOST, 17, 17], 1, 17)
        self.told([30, 30, 20, 20], 39, 0, [17, 17, MOST, MOST], 1, 17)
        self.told([30, 30, 20, 20, 16], 39, 0, [6, 6, 4, 4, 2], 1, 4)
        self.told([30, 30, 20, 20], 40, 0, [8, 8, 5, 5], 1, 8)

    def test_the_least_not_the_one_with_the_most(self):
        self.told([60, 60, 40, 40, 25, 25], 70, 0, [3, 3, 2, 2, 1, 1], 1, 2)


class Losses(JudgeTest):
    def test_none(self):
        self.told([20, 20, 20], 60, 0, [0, 0, 0])
        self.told([20, 20, 20], 59, 0, [0, 0, 0], 1, 0)

    def test_for_each_piece_but_one(self):
        self.told([20, 20], 45, 5, [0, 0])
        self.told([20, 20], 44, 5, [0, 0], 1, 0)
        self.told([20, 20, 20], 70, 5, [0, 0, 0])
        self.told([20, 20, 20], 69, 5, [0, 0, 0], 1, 0)
        self.told([20, 20, 20, 20, 20], 120, 5, [0, 0, 0, 0, 0])
        self.told([20, 20, 20, 20, 20], 119, 5, [0, 0, 0, 0, 0], 1, 0)
        self.told([20, 20, 20, 20, 20], 119, 5, [0, 0, 0, 0, 1])

    def test_for_pieces_of_its_own_alone(self):
        self.told([20, 20, 20, 20], 45, 5, [0, 1, 0, 1])
        self.told([20, 20, 20, 20], 44, 5, [2, 1, 2, 1], 1, 1)

    def test_large(self):
        self.told([20, 20, 20], 65575, 65535, [0, 1, 0])
        self.told([20, 20, 20], 65574, 65535, [0, 1, 0], 1, 0)
        self.told([20, 20, 20], 131130, 65535, [0, 0, 0])
        self.told([20, 20, 20], 131129, 65535, [0, 0, 0], 1, 0)

    def test_a_piece_alone_is_never_above(self):
        self.told([20, 30, 40], 40, 65535, [0, 1, 2])
        self.told([40], 40, 65535, [MOST])
        self.told([40, 40], 40, 0, [5, 3])

    def test_joints_are_in_the_lengths(self):
        self.told([50, 40], 91, 1, [0, 0], joint=7)
        self.told([50, 40], 90, 1, [0, 0], 1, 0, joint=7)


class ManyPieces(unittest.TestCase):
    def test_against_a_plain_reading(self):
        good = bad = 0
        for seed in range(12):
            chance = random.Random(seed)
            lengths = [chance.randint(16, chance.choice((30, 200))) for piece in range(chance.randint(1, 60))]
            window = fence(lengths)
            self.assertTrue(window.whole)
            for loss in (0, chance.randint(1, 40), 65535):
                for bar in (max(lengths), 3 * max(lengths), 6 * max(lengths), 70000):
                    shop = (1, 1, bar, 0, loss)
                    numbers = [chance.choice((chance.randint(0, 99), chance.randint(0, MOST))) for piece in lengths]
                    row = [chance.choice(numbers) for piece in lengths]
                    answer = too_much(lengths, row, bar, loss)
                    self.assertEqual(judge(*shop, window.cartoon, row), answer)
                    good += answer == [0]
                    bad += answer != [0]
                    best = bars(*shop, window.cartoon)[2:]
                    self.assertEqual(judge(*shop, window.cartoon, best), [0])
                    self.check_with_one_moved(shop, window, lengths, best)
        self.assertGreater(min(good, bad), 30)

    def check_with_one_moved(self, shop, window, lengths, best):
        """Of the last bar's first piece put on the bar ahead of it the same is told as by the plain reading."""
        row = list(best)
        row[best.index(max(best))] = max(max(best) - 1, 0)
        answer = too_much(lengths, row, shop[2], shop[4])
        self.assertEqual(judge(*shop, window.cartoon, row), answer)


if __name__ == "__main__":
    unittest.main()
