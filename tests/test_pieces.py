import unittest

from cartoons import Window, pieces_of, rows_of, run, written
from leadstrips.shop import pieces, strips

SIDE = 1048575

# A strip straight across with leads 10, 15, 15, 20 long, and short leads up and down that end at it.
ACROSS = [(0, 20), (10, 20), (25, 20), (40, 20), (60, 20)]
STUBS = [[(10, 20), (10, 40)], [(25, 0), (25, 20)], [(40, 20), (40, 40)]]
STRAIGHT = Window(60, 40, list(zip(ACROSS, ACROSS[1:])) + STUBS)

# A ring of eight leads, 10, 15, 10, 15 .. long, that is held by two spokes.
OCTAGON = [(30, 20), (40, 20), (50, 30), (50, 40), (40, 50), (30, 50), (20, 40), (20, 30)]
HELD = [((40, 50), (44, 60)), ((44, 60), (44, 70)), ((20, 30), (0, 22))]
RING = Window(70, 70, list(zip(OCTAGON, OCTAGON[1:] + OCTAGON[:1])) + HELD)


class PieceTest(unittest.TestCase):
    def told(self, window, shop, *told):
        self.assertTrue(window.whole)
        self.assertEqual(pieces(*shop, window.cartoon), window.pieces(*told))


class TheRun(unittest.TestCase):
    def test_bar_60(self):
        self.assertEqual(pieces(1, 1, 60, 2, 1, run()), [0, 2, 19, 2, 0, 2, 42, 3, 1, 2, 3])

    def test_bar_40(self):
        self.assertEqual(pieces(1, 1, 40, 2, 1, run()), [0, 3, 19, 2, 0, 2, 27, 2, 1, 2, 19, 2, 2, 3])

    def test_a_piece_that_is_just_a_bar_and_one_more(self):
        self.assertEqual(pieces(1, 1, 42, 2, 1, run()), [0, 2, 19, 2, 0, 2, 42, 3, 1, 2, 3])
        self.assertEqual(pieces(1, 1, 41, 2, 1, run()), [0, 3, 19, 2, 0, 2, 27, 2, 1, 2, 19, 2, 2, 3])

    def test_a_lead_that_just_fits_and_just_not(self):
        self.assertEqual(pieces(1, 1, 27, 2, 1, run()), [0, 3, 19, 2, 0, 2, 27, 2, 1, 2, 19, 2, 2, 3])
        self.assertEqual(pieces(1, 1, 26, 2, 1, run()), [-3, 3])

    def test_joint(self):
        self.assertEqual(pieces(1, 1, 38, 0, 1, run()), [0, 2, 15, 2, 0, 2, 38, 3, 1, 2, 3])
        self.assertEqual(pieces(1, 1, 60, 11, 1, run()), [0, 2, 37, 2, 0, 2, 60, 3, 1, 2, 3])
        self.assertEqual(pieces(1, 1, 60, 12, 1, run()), [0, 3, 39, 2, 0, 2, 47, 2, 1, 2, 39, 2, 2, 3])
        self.assertEqual(pieces(1, 1, 60, 18, 1, run())[:2], [0, 3])
        self.assertEqual(pieces(1, 1, 60, 19, 1, run()), [-3, 3])

    def test_loss_changes_nothing(self):
        for loss in (0, 65535):
            self.assertEqual(pieces(1, 1, 60, 2, loss, run()), pieces(1, 1, 60, 2, 1, run()))

    def test_other_bends(self):
        apart = [0, 3, 19, 2, 0, 2, 27, 2, 1, 2, 19, 2, 2, 3]
        self.assertEqual(pieces(0, 1, 60, 2, 1, run()), apart)
        self.assertEqual(pieces(333, 1000, 60, 2, 1, run()), apart)


class Parted(PieceTest):
    def test_a_strip_in_one_piece(self):
        self.told(STRAIGHT, (0, 1, 64, 2, 1), (24, STUBS[1]), (64, ACROSS), (24, STUBS[0]), (24, STUBS[2]))

    def test_a_strip_in_several_pieces(self):
        stubs = [(24, stub) for stub in (STUBS[1], STUBS[0], STUBS[2])]
        self.told(STRAIGHT, (0, 1, 63, 2, 1), stubs[0], (44, ACROSS[:4]), (24, ACROSS[3:]), *stubs[1:])
        self.told(STRAIGHT, (0, 1, 44, 2, 1), stubs[0], (44, ACROSS[:4]), (24, ACROSS[3:]), *stubs[1:])
        self.told(STRAIGHT, (0, 1, 43, 2, 1), stubs[0], (29, ACROSS[:3]), (39, ACROSS[2:]), *stubs[1:])
        self.told(STRAIGHT, (0, 1, 39, 2, 1), stubs[0], (29, ACROSS[:3]), (39, ACROSS[2:]), *stubs[1:])
        self.told(
            STRAIGHT, (0, 1, 38, 2, 1), stubs[0],
            (29, ACROSS[:3]), (19, ACROSS[2:4]), (24, ACROSS[3:]), *stubs[1:],
        )
        self.told(
            STRAIGHT, (0, 1, 24, 2, 1), stubs[0],
            (14, ACROSS[:2]), (19, ACROSS[1:3]), (19, ACROSS[2:4]), (24, ACROSS[3:]), *stubs[1:],
        )

    def test_a_ring_parted(self):
        ring = OCTAGON + OCTAGON[:1]
        rest = [(24, [(0, 22), (20, 30)]), (23, [(40, 50), (44, 60), (44, 70)])]
        self.told(RING, (1, 1, 102, 1, 0), (102, ring), *rest)
        self.told(RING, (1, 1, 101, 1, 0), (87, ring[:8]), (17, ring[7:]), *rest)
        self.told(RING, (1, 1, 52, 1, 0), (52, ring[:5]), (52, ring[4:]), *rest)
        self.told(RING, (1, 1, 51, 1, 0), (37, ring[:4]), (42, ring[3:7]), (27, ring[6:]), *rest)

    def test_a_ring_is_not_put_together_across_its_beginning(self):
        told = pieces_of(pieces(1, 1, 24, 1, 0, RING.cartoon))
        ring = [row for length, row in told][:8]
        self.assertEqual(ring, [[RING.numbers[p], RING.numbers[q]] for p, q in zip(OCTAGON, OCTAGON[1:] + OCTAGON[:1])])

    def test_no_leads(self):
        for bar, joint in ((60, 2), (1, 0), (1, 65535)):
            self.assertEqual(pieces(1, 1, bar, joint, 1, Window(40, 30, []).cartoon), [0, 0])


class Lengths(PieceTest):
    def test_whole(self):
        self.told(Window(40, 30, [((0, 0), (40, 30))]), (1, 1, 50, 0, 0), (50, [(0, 0), (40, 30)]))
        self.assertEqual(pieces(1, 1, 49, 0, 0, Window(40, 30, [((0, 0), (40, 30))]).cartoon), [-3, 2])

    def test_just_above_a_whole_number(self):
        window = Window(SIDE, 16, [((0, 1), (SIDE, 2))])
        self.told(window, (1, 1, SIDE + 1, 0, 0), (SIDE + 1, [(0, 1), (SIDE, 2)]))
        self.assertEqual(pieces(1, 1, SIDE, 0, 0, window.cartoon)[0], -3)
        level = Window(SIDE, 16, [((0, 5), (SIDE, 5))])
        self.told(level, (1, 1, SIDE, 0, 0), (SIDE, [(0, 5), (SIDE, 5)]))

    def test_across_the_widest_cartoon(self):
        window = Window(SIDE, SIDE, [((0, 0), (SIDE, SIDE))])
        self.told(window, (0, 1, 16777215, 65535, 65535), (1482909 + 131070, [(0, 0), (SIDE, SIDE)]))
        self.told(window, (0, 1, 1482909, 0, 0), (1482909, [(0, 0), (SIDE, SIDE)]))
        self.assertEqual(pieces(0, 1, 1482908, 0, 0, window.cartoon), [-3, 2])

    def test_each_lead_is_rounded_by_itself(self):
        window = Window(40, 40, [((0, 0), (10, 10)), ((10, 10), (40, 40)), ((10, 10), (40, 0))])
        self.told(window, (0, 1, 60, 0, 0), (58, [(0, 0), (10, 10), (40, 40)]), (32, [(40, 0), (10, 10)]))


class TooLong(unittest.TestCase):
    def test_of_two_the_least(self):
        self.assertEqual(pieces(1, 1, 18, 2, 1, run()), [-3, 1])
        self.assertEqual(pieces(1, 1, 1, 0, 0, run()), [-3, 1])
        self.assertEqual(pieces(1, 1, 22, 0, 0, run()), [-3, 3])

    def test_a_line_on_the_edge_is_never_too_long(self):
        self.assertEqual(pieces(1, 1, 27, 2, 1, run())[0], 0)
        window = Window(1000, 1000, [((0, 10), (10, 0))])
        self.assertEqual(pieces(1, 1, 15, 0, 0, window.cartoon), window.pieces((15, [(10, 0), (0, 10)])))


class Large(unittest.TestCase):
    def test_200_points(self):
        points = [(5 * x, y) for y in (0, 20) for x in range(100)]
        lines = [(i, i + 1) for i in range(199) if i != 99] + [(i, i + 100) for i in range(100)]
        marks = [(5 * x + 2, 5) for x in range(99)]
        cartoon = written(495, 20, points, sorted(lines), marks)
        told = pieces_of(pieces(1, 1, 20, 0, 0, cartoon))
        self.assertEqual(told, [(20, [i, i + 100]) for i in range(1, 99)])
        self.assertEqual([row for length, row in told], rows_of(strips(1, 1, 20, 0, 0, cartoon)))


if __name__ == "__main__":
    unittest.main()
