import unittest

from cartoons import Window, rows_of, run, two_on_each_edge
from leadstrips.shop import strips

OCTAGON = [(30, 20), (40, 20), (50, 30), (50, 40), (40, 50), (30, 50), (20, 40), (20, 30)]


def round_of(points):
    return list(zip(points, points[1:] + points[:1]))


def chain_of(points):
    return list(zip(points, points[1:]))


class StripTest(unittest.TestCase):
    def told(self, window, a, b, *rows):
        """That the window's strips with bend a over b are these rows of points."""
        self.assertTrue(window.whole)
        self.assertEqual(strips(a, b, 60, 2, 1, window.cartoon), window.strips(*rows))


class TheRun(unittest.TestCase):
    def test_with_bend_one(self):
        self.assertEqual(strips(1, 1, 60, 2, 1, run()), [0, 2, 2, 0, 2, 3, 1, 2, 3])

    def test_with_bends_that_join_nothing(self):
        for a, b in ((0, 1), (0, 1000), (1, 4), (1, 1000)):
            self.assertEqual(strips(a, b, 60, 2, 1, run()), [0, 3, 2, 0, 2, 2, 1, 2, 2, 2, 3])

    def test_just_as_much_as_told_and_just_more(self):
        joined = [0, 2, 2, 0, 2, 3, 1, 2, 3]
        apart = [0, 3, 2, 0, 2, 2, 1, 2, 2, 2, 3]
        for a, b in ((1, 3), (333, 999), (334, 1000)):
            self.assertEqual(strips(a, b, 60, 2, 1, run()), joined)
        for a, b in ((333, 1000), (332, 999)):
            self.assertEqual(strips(a, b, 60, 2, 1, run()), apart)

    def test_a_greater_bend_joins_no_second_pair_there(self):
        for a, b in ((3, 1), (4, 1), (1000, 1)):
            self.assertEqual(strips(a, b, 60, 2, 1, run()), [0, 2, 2, 0, 2, 3, 1, 2, 3])

    def test_bar_joint_and_loss_change_nothing(self):
        for shop in ((1, 1, 1, 65535, 65535), (1, 1, 16777215, 0, 0), (1, 1, 26, 2, 1)):
            self.assertEqual(strips(*shop, run()), [0, 2, 2, 0, 2, 3, 1, 2, 3])


class Bends(StripTest):
    def test_a_right_angle_never_goes_through(self):
        window = Window(40, 40, [((0, 10), (20, 10)), ((20, 10), (20, 0))])
        self.told(window, 1000, 1, [(20, 0), (20, 10)], [(0, 10), (20, 10)])

    def test_a_way_back_never_goes_through(self):
        window = Window(40, 40, [((0, 10), (30, 20)), ((30, 20), (0, 30))])
        self.told(window, 1000, 1, [(0, 10), (30, 20)], [(30, 20), (0, 30)])

    def test_a_bend_just_below_a_right_angle(self):
        window = Window(2000, 40, [((0, 10), (1000, 10)), ((1000, 10), (1001, 0))])
        self.told(window, 10, 1, [(1001, 0), (1000, 10), (0, 10)])
        self.told(window, 999, 100, [(1001, 0), (1000, 10)], [(0, 10), (1000, 10)])
        window = Window(2000, 2000, [((0, 1000), (1000, 1000)), ((1000, 1000), (1001, 0))])
        self.told(window, 1000, 1, [(1001, 0), (1000, 1000), (0, 1000)])
        self.told(window, 999, 1, [(1001, 0), (1000, 1000)], [(0, 1000), (1000, 1000)])

    def test_to_the_left_and_to_the_right(self):
        for y in (10, 30):
            window = Window(40, 40, [((0, 20), (20, 20)), ((20, 20), (40, y))])
            ends = sorted([(0, 20), (40, y)], key=lambda point: point[1])
            self.told(window, 1, 2, [ends[0], (20, 20), ends[1]])
            self.assertEqual(len(rows_of(strips(499, 1000, 60, 2, 1, window.cartoon))), 2)

    def test_with_bend_none_straight_on_alone(self):
        window = Window(60, 40, [((0, 10), (20, 20)), ((20, 20), (60, 40))])
        self.told(window, 0, 1, [(0, 10), (20, 20), (60, 40)])
        window = Window(60, 40, [((0, 10), (20, 20)), ((20, 20), (60, 39))])
        self.told(window, 0, 1000, [(0, 10), (20, 20)], [(20, 20), (60, 39)])
        self.told(window, 1, 1, [(0, 10), (20, 20), (60, 39)])


class Straight(StripTest):
    def test_no_leads(self):
        self.told(Window(16, 16, []), 1, 1)
        self.told(Window(40, 30, [], [(7, 0), (0, 11), (40, 12), (9, 30)]), 1, 1)

    def test_one_lead(self):
        self.told(Window(40, 30, [((0, 0), (40, 30))]), 0, 1, [(0, 0), (40, 30)])

    def test_through_several_points(self):
        across = [(0, 20), (10, 20), (20, 20), (30, 20), (40, 20)]
        leads = chain_of(across) + [((10, 20), (10, 40)), ((20, 0), (20, 20)), ((30, 20), (30, 40))]
        self.told(
            Window(40, 40, leads), 0, 1,
            [(20, 0), (20, 20)], across, [(10, 20), (10, 40)], [(30, 20), (30, 40)],
        )

    def test_two_across_one_another(self):
        middle = (20, 20)
        leads = [(middle, end) for end in ((0, 0), (40, 40), (0, 40), (40, 0))]
        self.told(Window(40, 40, leads), 0, 1, [(0, 0), middle, (40, 40)], [(40, 0), middle, (0, 40)])


class OrderOfPairs(StripTest):
    def test_the_less_bend_first(self):
        v = (50, 50)
        ends = [(0, 50), (100, 60), (100, 30), (0, 80)]
        window = Window(100, 100, [(v, end) for end in ends])
        self.told(window, 1, 1, [(100, 30), v, (0, 80)], [(0, 50), v, (100, 60)])

    def test_a_less_bend_to_the_right_of_a_greater_to_the_left(self):
        v = (50, 50)
        for low, high, end in ((41, 60, 41), (40, 59, 59)):
            window = Window(100, 100, [(v, (0, 50)), (v, (100, low)), (v, (100, high))])
            rows = rows_of(strips(1, 1, 60, 2, 1, window.cartoon))
            strip = [row for row in rows if len(row) == 3]
            self.assertEqual([sorted(strip[0])], [sorted(window.row([(0, 50), v, (100, end)])[1:])])

    def test_of_as_much_bend_the_lower_of_the_greater_numbers(self):
        v = (50, 50)
        window = Window(100, 100, [(v, (50, 0)), (v, (30, 100)), (v, (70, 100))])
        self.told(window, 1, 1, [(50, 0), v, (30, 100)], [v, (70, 100)])

    def test_of_as_much_bend_the_lower_of_the_lesser_numbers(self):
        v = (50, 50)
        window = Window(100, 100, [(v, (50, 100)), (v, (30, 0)), (v, (70, 0))])
        self.told(window, 1, 1, [(30, 0), v, (50, 100)], [(70, 0), v])

    def test_as_much_bend_with_other_lengths(self):
        v = (50, 50)
        window = Window(70, 100, [(v, (50, 0)), (v, (25, 100)), (v, (70, 90))])
        self.told(window, 1, 1, [(50, 0), v, (70, 90)], [v, (25, 100)])

    def test_no_lead_is_joined_twice_at_a_point(self):
        v = (50, 50)
        window = Window(100, 100, [(v, (0, 50)), (v, (100, 50)), (v, (100, 55)), (v, (100, 45))])
        self.told(window, 1, 1, [(100, 45), v], [(0, 50), v, (100, 50)], [v, (100, 55)])

    def test_bends_too_near_for_numbers_that_are_rounded(self):
        side = 1048575
        v, p, q, r = (524287, 524287), (200038, 473421), (885147, 976018), (1044137, 179556)
        edge_p, edge_q, edge_r = (0, 473421), (885147, side), (1044137, 0)
        leads = [(v, p), (v, q), (v, r), (p, edge_p), (q, edge_q), (r, edge_r)]
        window = Window(side, side, leads)
        self.told(window, 1, 1, [edge_r, r], [r, v], [edge_p, p, v, q, edge_q])


class OnTheFrame(StripTest):
    def test_at_its_edge_none_are_joined(self):
        for place, window in two_on_each_edge():
            self.assertTrue(window.whole)
            rows = rows_of(strips(1000, 1, 60, 2, 1, window.cartoon))
            at = window.numbers[place]
            self.assertTrue(all(at not in row[1:-1] for row in rows), rows)
            self.assertEqual(sum([row[0], row[-1]].count(at) for row in rows), 2)

    def test_a_point_just_within_is_no_edge(self):
        window = Window(40, 40, [((0, 20), (1, 20)), ((1, 20), (40, 20)), ((1, 20), (20, 0))])
        self.told(window, 0, 1, [(20, 0), (1, 20)], [(0, 20), (1, 20), (40, 20)])

    def test_a_lead_from_edge_to_edge_is_no_edge(self):
        window = Window(40, 40, [((0, 20), (20, 0)), ((20, 40), (40, 20))])
        self.told(window, 1, 1, [(20, 0), (0, 20)], [(40, 20), (20, 40)])


class Ends(StripTest):
    def test_from_the_other_end_since_it_has_the_lower_number(self):
        window = Window(40, 40, [((0, 30), (20, 15)), ((20, 15), (40, 10))])
        self.told(window, 1, 1, [(40, 10), (20, 15), (0, 30)])
        window = Window(40, 40, [((0, 10), (20, 15)), ((20, 15), (40, 30))])
        self.told(window, 1, 1, [(0, 10), (20, 15), (40, 30)])

    def test_the_lead_with_the_lowest_number_lies_within(self):
        row = [(0, 30), (20, 16), (40, 15), (60, 29)]
        self.told(Window(60, 40, chain_of(row)), 1, 1, row[::-1])
        row = [(0, 29), (20, 15), (40, 16), (60, 30)]
        self.told(Window(60, 40, chain_of(row)), 1, 1, row)

    def test_both_ends_at_one_point_of_the_edge(self):
        petal = [(0, 50), (30, 40), (50, 42), (56, 50), (50, 58), (30, 60)]
        window = Window(100, 100, round_of(petal) + [((30, 40), (30, 0))])
        self.told(window, 4, 1, [(30, 0), (30, 40)], petal + petal[:1])
        petal = [(50, 100), (40, 70), (42, 50), (50, 44), (58, 50), (60, 70)]
        window = Window(100, 100, round_of(petal) + [((40, 70), (0, 70))])
        self.told(window, 4, 1, petal + petal[:1], [(0, 70), (40, 70)])

    def test_both_ends_at_one_point_within(self):
        spur = (50, 20)
        heptagon = [spur, (50, 40), (40, 50), (30, 50), (20, 40), (20, 30), (30, 20)]
        leads = round_of(heptagon) + [((40, 50), (44, 60)), ((44, 60), (44, 70)), ((20, 30), (0, 22))]
        window = Window(70, 70, leads)
        row = [spur, (30, 20), (20, 30), (20, 40), (30, 50), (40, 50), (50, 40), spur]
        self.told(window, 1, 1, row, [(0, 22), (20, 30)], [(40, 50), (44, 60), (44, 70)])

    def test_a_strip_that_comes_to_a_point_twice(self):
        row = [(30, 0), (30, 30), (30, 60), (40, 70), (60, 70), (70, 60), (70, 40), (60, 30), (30, 30), (0, 30)]
        window = Window(100, 100, chain_of(row) + [((70, 40), (100, 25))])
        self.told(window, 1, 1, row, [(100, 25), (70, 40)])


class Rings(StripTest):
    def test_a_ring(self):
        spokes = [((40, 50), (44, 60)), ((44, 60), (44, 70)), ((20, 30), (0, 22))]
        window = Window(70, 70, round_of(OCTAGON) + spokes)
        ring = OCTAGON + OCTAGON[:1]
        self.told(window, 1, 1, ring, [(0, 22), (20, 30)], [(40, 50), (44, 60), (44, 70)])

    def test_a_ring_first_along_the_lower_lead(self):
        ring = [(40, 20), (30, 21), (20, 30), (20, 40), (30, 50), (40, 50), (50, 40), (50, 30)]
        spokes = [((40, 50), (44, 60)), ((44, 60), (44, 70)), ((20, 30), (0, 22))]
        window = Window(70, 70, round_of(ring) + spokes)
        self.told(window, 5, 4, ring + ring[:1], [(0, 22), (20, 30)], [(40, 50), (44, 60), (44, 70)])

    def test_a_ring_within_a_ring(self):
        inner = [(x + 35, y + 35) for x, y in OCTAGON]
        outer = [(x * 3 - 35, y * 3 - 35) for x, y in OCTAGON]
        ties = [((75, 55), (85, 25)), ((55, 75), (25, 85)), ((55, 25), (43, 0)), ((115, 85), (140, 97))]
        window = Window(140, 140, round_of(inner) + round_of(outer) + ties)
        ties = [tie[::-1] if tie == ties[0] or tie == ties[2] else tie for tie in ties]
        self.told(
            window, 1, 1,
            ties[2], outer + outer[:1], ties[0], inner + inner[:1], ties[1], ties[3],
        )

    def test_a_ring_that_comes_to_its_least_point_twice(self):
        least = (50, 20)
        right = [(70, 20), (80, 25), (80, 35), (72, 38)]
        left = [(26, 40), (16, 40), (10, 36), (12, 28)]
        ring = [least] + right + [least] + left + [least]
        window = Window(100, 100, chain_of(ring) + [((70, 20), (70, 0)), ((16, 40), (16, 100))])
        self.told(window, 6, 1, [(70, 0), (70, 20)], ring, [(16, 40), (16, 100)])


class Large(StripTest):
    def test_wide_cartoons(self):
        side = 1048575
        self.told(Window(side, side, [((0, 0), (side, side))]), 0, 1, [(0, 0), (side, side)])
        self.told(Window(side, 16, [((0, 0), (side, 16))]), 0, 1, [(0, 0), (side, 16)])
        self.told(Window(16, side, [((16, 0), (0, side))]), 0, 1, [(16, 0), (0, side)])

    def test_straight_on_or_all_but_across_a_wide_cartoon(self):
        side = 1048575
        middle = (524288, 524288)
        near = (10, 10)
        window = Window(side, side, [(near, middle), (middle, (side, side)), (near, (0, 50)), (near, (50, 0))])
        self.told(window, 0, 1, [(50, 0), near], [near, (0, 50)], [near, middle, (side, side)])
        window = Window(side, side, [((0, 0), middle), (middle, (side, side - 1))])
        self.told(window, 0, 1, [(0, 0), middle], [middle, (side, side - 1)])
        self.told(window, 1, 1000, [(0, 0), middle, (side, side - 1)])

    def test_200_points(self):
        columns, rows = 20, 10
        leads = []
        for x in range(1, columns - 1):
            leads += chain_of([(10 * x, 10 * y) for y in range(rows)])
        for y in range(1, rows - 1):
            leads += chain_of([(10 * x, 10 * y) for x in range(columns)])
        window = Window(190, 90, leads)
        self.assertEqual(len(window.points), 200)
        upright = [[(10 * x, 10 * y) for y in range(rows)] for x in range(1, columns - 1)]
        level = [[(10 * x, 10 * y) for x in range(columns)] for y in range(1, rows - 1)]
        self.told(window, 1000, 1, *(upright + level))

    def test_200_points_and_more_than_255_panes(self):
        leads = []
        for x in range(20):
            for y in range(10):
                for end in ((x + 1, y), (x, y + 1), (x + 1, y + 1)):
                    on_edge = x == end[0] in (0, 19) or y == end[1] in (0, 9)
                    if end[0] < 20 and end[1] < 10 and not on_edge:
                        leads.append(((10 * x, 10 * y), (10 * end[0], 10 * end[1])))
        window = Window(190, 90, leads)
        self.assertEqual((len(window.points), len(window.marks)), (200, 342))
        self.assertTrue(window.whole)
        for bend in (0, 1000):
            rows = rows_of(strips(bend, 1, 60, 2, 1, window.cartoon))
            for row in rows:
                (x, y), (u, v) = [window.points[i] for i in row[:2]]
                steps = [window.points[i] for i in row]
                self.assertEqual(steps, [(x + k * (u - x), y + k * (v - y)) for k in range(len(row))])
                for p, q in (steps[0], steps[-1]):
                    self.assertTrue(p in (0, 190) or q in (0, 90))
            self.assertEqual(len(rows), 18 + 8 + 27)

    def test_a_point_with_very_many_leads(self):
        v = (98, 50)
        ends = [(x, y) for x in range(1, 196, 2) for y in (0, 100)]
        window = Window(196, 100, [(v, end) for end in ends[:195]])
        self.assertEqual(len(window.points), 200)
        self.assertTrue(window.whole)
        rows = rows_of(strips(0, 1, 60, 2, 1, window.cartoon))
        lower = [window.numbers[end] for end in ends[:195] if end[1] == 0]
        self.assertEqual([row[0] for row in rows], lower)
        self.assertEqual([len(row) for row in rows], [2] + [3] * 97)


if __name__ == "__main__":
    unittest.main()
