import unittest

from cartoons import RUN_LINES, RUN_MARKS, RUN_POINTS, SHOP, Window, run, written
from leadstrips.shop import strips


def point_place(i):
    return 20 + 8 * i


def line_place(i):
    return 60 + 4 * i


def mark_place(i):
    return 88 + 12 * i


# The frame with two points more, at the middle of the lower and the upper edge, and the line between these.
SPLIT_POINTS = [(0, 0), (20, 0), (40, 0), (0, 30), (20, 30), (40, 30)]
SPLIT_LINES = [(0, 1), (0, 3), (1, 2), (1, 4), (2, 5), (3, 4), (4, 5)]
SPLIT_MARKS = [(10, 10), (30, 10)]


def split(points=SPLIT_POINTS, lines=SPLIT_LINES, marks=SPLIT_MARKS):
    return written(40, 30, points, lines, marks)


# The frame alone, with points and lines within it.
CORNERS = [(0, 0), (40, 0), (0, 40), (40, 40)]


def framed(inner_points, inner_lines, marks=((1, 1),)):
    """The frame 40, 40 with inner points (by y and x) numbered from 2 on, and lines between these or the corners."""
    points = CORNERS[:2] + list(inner_points) + CORNERS[2:]
    top = len(points) - 2
    lines = sorted([(0, 1), (0, top), (1, top + 1), (top, top + 1)] + list(inner_lines))
    return written(40, 40, points, lines, list(marks))


class Rules(unittest.TestCase):
    def faulty(self, cartoon, rule, place):
        self.assertEqual(strips(*SHOP, cartoon), [-5, rule, place])

    def sound(self, cartoon):
        self.assertEqual(strips(*SHOP, cartoon)[0], 0)


class TheRunAndItsKin(Rules):
    def test_they_are_cartoons(self):
        self.sound(run())
        self.sound(split())

    def test_glass_and_painting_may_be_any(self):
        cartoon = run()
        for i in range(3):
            cartoon[mark_place(i) + 8:mark_place(i) + 12] = [255, 255, 255, 255]
        self.sound(cartoon)


class Rule1(Rules):
    def test_fewer_than_20_bytes(self):
        for size in range(20):
            self.faulty(run()[:size], 1, size)

    def test_too_few_bytes_are_told_ahead_of_the_sign(self):
        self.faulty([0] * 19, 1, 19)

    def test_each_byte_of_the_sign(self):
        for i in range(4):
            for value in (0, 255, run()[i] + 1, run()[i] - 1):
                cartoon = run()
                cartoon[i] = value
                self.faulty(cartoon, 1, 0)

    def test_20_bytes_with_the_sign_are_judged_on(self):
        self.faulty(list(b"GLA1") + [0] * 16, 2, 4)
        self.faulty(list(b"GLA2") + [0] * 16, 1, 0)


class Rule2(Rules):
    def test_the_width(self):
        for width in (0, 1, 15, 1048576, 4294967295):
            self.faulty(run(width=width), 2, 4)

    def test_the_height(self):
        for height in (0, 1, 15, 1048576, 4294967295):
            self.faulty(run(height=height), 2, 8)

    def test_how_many_points(self):
        for count in (0, 3, 4097, 65535):
            self.faulty(run(counts=(count, 7, 3)), 2, 12)

    def test_how_many_lines(self):
        for count in (0, 3, 8193, 65535):
            self.faulty(run(counts=(5, count, 3)), 2, 14)

    def test_how_many_marks(self):
        for count in (0, 2049, 65535):
            self.faulty(run(counts=(5, 7, count)), 2, 16)

    def test_the_spare_bytes(self):
        for spare in ((1, 0), (0, 1), (255, 255)):
            self.faulty(run(spare=spare), 2, 18)

    def test_just_within_the_bounds_the_next_rule_is_asked(self):
        for counts in ((4, 7, 3), (5, 4, 3), (5, 7, 1), (200, 7, 3), (4096, 7, 3), (5, 8192, 3), (5, 7, 2048)):
            self.faulty(run(counts=counts), 3, 20)

    def test_the_least_and_the_most_width_and_height(self):
        for width in (16, 1048575):
            for height in (16, 1048575):
                self.sound(Window(width, height, []).cartoon)

    def test_each_byte_of_width_and_height_counts(self):
        for high in (2 ** 16 * 16, 2 ** 24, 2 ** 31):
            self.faulty(run(width=high + 30), 2, 4)
            self.faulty(run(height=high + 20), 2, 8)

    def test_the_least_place_of_several(self):
        self.faulty(run(width=15, height=15, counts=(3, 3, 0), spare=(1, 1)), 2, 4)
        self.faulty(run(height=15, counts=(3, 3, 0), spare=(1, 1)), 2, 8)
        self.faulty(run(counts=(3, 3, 0), spare=(1, 1)), 2, 12)
        self.faulty(run(counts=(5, 3, 0), spare=(1, 1)), 2, 14)
        self.faulty(run(counts=(5, 7, 0), spare=(1, 1)), 2, 16)

    def test_the_lowest_byte_comes_first(self):
        cartoon = run()
        self.assertEqual(cartoon[4:8], [30, 0, 0, 0])
        cartoon[4:8] = [0, 0, 0, 30]
        self.faulty(cartoon, 2, 4)


class Rule3(Rules):
    def test_a_byte_more_or_less(self):
        self.faulty(run() + [0], 3, 20)
        self.faulty(run()[:-1], 3, 20)

    def test_a_mark_more_or_less_than_told(self):
        self.faulty(run() + run()[-12:], 3, 20)
        self.faulty(run()[:-12], 3, 20)

    def test_the_head_alone(self):
        self.faulty(run()[:20], 3, 20)


class Rule4(Rules):
    def moved(self, i, point):
        points = list(RUN_POINTS)
        points[i] = point
        return run(points=points)

    def test_out_of_the_frame_to_the_right(self):
        self.faulty(self.moved(2, (31, 10)), 4, point_place(2))
        self.faulty(self.moved(2, (4294967295, 10)), 4, point_place(2))

    def test_out_of_the_frame_above(self):
        self.faulty(self.moved(4, (30, 21)), 4, point_place(4))
        self.faulty(self.moved(4, (30, 4294967295)), 4, point_place(4))

    def test_not_behind_the_one_before(self):
        self.faulty(self.moved(1, (0, 0)), 4, point_place(1))
        self.faulty(self.moved(4, (10, 10)), 4, point_place(4))
        self.faulty(run(points=[(0, 0), (30, 0), (10, 10), (9, 10), (30, 20)]), 4, point_place(3))
        self.faulty(run(points=[(0, 0), (30, 0), (10, 10), (30, 20), (0, 20)]), 4, point_place(4))

    def test_the_first_point_has_none_before_it(self):
        self.faulty(self.moved(0, (0, 1)), 4, point_place(1))

    def test_the_least_of_several(self):
        self.faulty(run(points=[(0, 0), (31, 0), (10, 10), (0, 21), (31, 21)]), 4, point_place(1))
        self.faulty(run(points=[(0, 0), (30, 0), (10, 10), (0, 10), (31, 20)]), 4, point_place(3))


class Rule5(Rules):
    def changed(self, i, line):
        lines = list(RUN_LINES)
        lines[i] = line
        return run(lines=lines)

    def test_the_first_is_not_below_the_second(self):
        self.faulty(self.changed(3, (2, 1)), 5, line_place(3))
        self.faulty(self.changed(5, (2, 2)), 5, line_place(5))

    def test_the_second_is_not_below_the_count(self):
        self.faulty(self.changed(6, (3, 5)), 5, line_place(6))
        self.faulty(self.changed(6, (3, 65535)), 5, line_place(6))
        self.faulty(self.changed(6, (65534, 65535)), 5, line_place(6))

    def test_not_behind_the_one_before(self):
        self.faulty(self.changed(1, (0, 1)), 5, line_place(1))
        self.faulty(self.changed(2, (0, 2)), 5, line_place(2))
        self.faulty(run(lines=[(0, 1), (0, 3), (0, 2), (1, 2), (1, 4), (2, 3), (3, 4)]), 5, line_place(2))
        self.faulty(run(lines=[(0, 1), (0, 2), (1, 4), (0, 3), (1, 2), (2, 3), (3, 4)]), 5, line_place(3))

    def test_the_first_line_has_none_before_it(self):
        self.faulty(self.changed(0, (1, 0)), 5, line_place(0))

    def test_the_least_of_several(self):
        self.faulty(run(lines=[(0, 1), (0, 2), (0, 3), (2, 1), (1, 5), (2, 2), (3, 3)]), 5, line_place(3))


class Rule6(Rules):
    def test_each_corner(self):
        self.faulty(run(points=[(1, 0), (30, 0), (10, 10), (0, 20), (30, 20)]), 6, 20)
        self.faulty(run(points=[(0, 0), (29, 0), (10, 10), (0, 20), (30, 20)]), 6, 20)
        self.faulty(run(points=[(0, 0), (30, 0), (10, 10), (1, 20), (30, 20)]), 6, 20)
        self.faulty(run(points=[(0, 0), (30, 0), (10, 10), (0, 20), (29, 20)]), 6, 20)

    def test_a_corner_of_a_wider_frame(self):
        self.faulty(run(width=31), 6, 20)
        self.faulty(run(height=21), 6, 20)

    def test_each_edge_without_its_line(self):
        for edge in ((0, 1), (0, 3), (1, 4), (3, 4)):
            lines = [line for line in RUN_LINES if line != edge]
            self.faulty(run(lines=lines), 6, 20)

    def test_each_stretch_of_a_parted_edge(self):
        for stretch in ((0, 1), (1, 2), (3, 4), (4, 5)):
            lines = [line for line in SPLIT_LINES if line != stretch]
            self.faulty(split(lines=lines), 6, 20)

    def test_a_line_over_both_stretches_does_not_stand_for_them(self):
        lines = sorted([line for line in SPLIT_LINES if line != (1, 2)] + [(0, 2)])
        self.faulty(split(lines=lines), 6, 20)

    def test_upright_edges_are_parted_too(self):
        window = Window(40, 30, [((0, 10), (40, 20))])
        self.sound(window.cartoon)
        for p, q in (((0, 0), (0, 10)), ((0, 10), (0, 30)), ((40, 0), (40, 20)), ((40, 20), (40, 30))):
            lines = [line for line in window.lines if line != window.pair(p, q)]
            self.faulty(written(40, 30, window.points, lines, window.marks), 6, 20)


class Rule7(Rules):
    def test_a_line_with_a_point_on_it(self):
        lines = sorted(SPLIT_LINES + [(0, 2)])
        self.faulty(split(lines=lines), 7, 20 + 48 + 4 * lines.index((0, 2)))

    def test_a_point_on_it_at_which_no_line_ends(self):
        points = [(0, 0), (20, 0), (40, 0), (20, 10), (0, 30), (20, 30), (40, 30)]
        lines = [(0, 1), (0, 4), (1, 2), (1, 5), (2, 6), (4, 5), (5, 6)]
        self.faulty(written(40, 30, points, lines, SPLIT_MARKS), 7, 20 + 56 + 4 * 3)

    def test_an_end_on_another_line(self):
        points = [(0, 0), (20, 0), (40, 0), (20, 10), (0, 30), (20, 30), (40, 30)]
        lines = [(0, 1), (0, 4), (1, 2), (1, 5), (2, 3), (2, 6), (4, 5), (5, 6)]
        self.faulty(written(40, 30, points, lines, SPLIT_MARKS), 7, 20 + 56 + 4 * 3)

    def test_crossing_is_told_of_the_later_line(self):
        cartoon = written(40, 40, CORNERS, [(0, 1), (0, 2), (0, 3), (1, 2), (1, 3), (2, 3)], [(20, 5)])
        self.faulty(cartoon, 7, 20 + 32 + 4 * 3)

    def test_two_lines_that_lie_upon_one_another(self):
        points = [(0, 0), (40, 0), (10, 20), (20, 20), (30, 20), (0, 40), (40, 40)]
        lines = [(0, 1), (0, 2), (0, 5), (1, 4), (1, 6), (2, 3), (2, 4), (3, 4), (5, 6)]
        self.faulty(written(40, 40, points, lines, [(1, 1)]), 7, 20 + 56 + 4 * 6)

    def test_the_least_of_several(self):
        points = [(0, 0), (40, 0), (20, 10), (20, 30), (0, 40), (40, 40)]
        lines = [(0, 1), (0, 2), (0, 3), (0, 4), (0, 5), (1, 2), (1, 3), (1, 4), (1, 5), (4, 5)]
        self.faulty(written(40, 40, points, lines, [(1, 1)]), 7, 20 + 48 + 4 * lines.index((1, 3)))

    def test_ends_in_common_are_no_crossing(self):
        self.sound(Window(40, 40, [((0, 0), (40, 40))]).cartoon)
        self.sound(Window(40, 40, [((20, 20), corner) for corner in CORNERS]).cartoon)


class Rule8(Rules):
    def test_a_point_without_lines(self):
        self.faulty(framed([(20, 20)], []), 8, point_place(2))

    def test_a_point_with_one_line(self):
        self.faulty(framed([(20, 20)], [(0, 2)]), 8, point_place(2))

    def test_the_least_of_several(self):
        self.faulty(framed([(20, 10), (20, 20), (20, 30)], [(0, 2), (1, 2), (1, 3)]), 8, point_place(3))


class Rule9(Rules):
    def test_a_triangle_by_itself(self):
        self.faulty(framed([(20, 10), (10, 20), (30, 20)], [(2, 3), (2, 4), (3, 4)]), 9, point_place(2))

    def test_the_least_that_is_apart(self):
        inner = [(20, 8), (20, 12), (10, 20), (30, 20)]
        self.faulty(framed(inner, [(0, 2), (1, 2), (3, 4), (3, 5), (4, 5)]), 9, point_place(3))

    def test_two_triangles_by_themselves(self):
        inner = [(5, 5), (30, 5), (5, 10), (10, 10), (30, 10), (35, 10)]
        lines = [(2, 4), (2, 5), (4, 5), (3, 6), (3, 7), (6, 7)]
        self.faulty(framed(inner, lines), 9, point_place(2))


class Rule10(Rules):
    def test_a_triangle_that_hangs_on_a_corner(self):
        inner = [(20, 10), (10, 20)]
        self.faulty(framed(inner, [(0, 2), (0, 3), (2, 3)]), 10, point_place(0))

    def test_a_triangle_that_hangs_on_the_last_corner(self):
        inner = [(30, 20), (20, 30)]
        self.faulty(framed(inner, [(2, 5), (3, 5), (2, 3)]), 10, point_place(5))

    def test_a_triangle_that_hangs_on_an_inner_point(self):
        inner = [(20, 10), (10, 20), (30, 20)]
        self.faulty(framed(inner, [(0, 2), (1, 2), (2, 3), (2, 4), (3, 4)]), 10, point_place(2))

    def test_the_least_of_several(self):
        inner = [(20, 10), (20, 20), (10, 30), (30, 30)]
        lines = [(1, 2), (2, 3), (3, 4), (3, 5), (4, 5)]
        self.faulty(framed(inner, lines), 10, point_place(1))
        lines = [(0, 2), (1, 2), (2, 3), (3, 4), (3, 5), (4, 5)]
        self.faulty(framed(inner, lines), 10, point_place(2))


class Rule11(Rules):
    def moved(self, i, mark):
        marks = list(RUN_MARKS)
        marks[i] = mark
        return run(marks=marks)

    def test_on_or_beyond_each_edge(self):
        for i, mark in ((1, (0, 10)), (1, (30, 10)), (1, (31, 10)), (1, (4294967295, 10)), (0, (15, 0))):
            self.faulty(self.moved(i, mark), 11, mark_place(i))
        for mark in ((20, 20), (20, 21), (20, 4294967295)):
            self.faulty(self.moved(2, mark), 11, mark_place(2))

    def test_on_a_line(self):
        self.faulty(self.moved(0, (5, 5)), 11, mark_place(0))
        self.faulty(self.moved(2, (5, 15)), 11, mark_place(2))

    def test_on_a_point(self):
        self.faulty(self.moved(1, (10, 10)), 11, mark_place(1))

    def test_not_behind_the_one_before(self):
        self.faulty(self.moved(1, (15, 2)), 11, mark_place(1))
        self.faulty(run(marks=[(15, 2), (14, 2), (20, 15)]), 11, mark_place(1))
        self.faulty(run(marks=[(15, 2), (20, 15), (2, 10)]), 11, mark_place(2))
        self.faulty(run(marks=[(15, 2), (2, 10), (1, 10)]), 11, mark_place(2))

    def test_the_first_mark_has_none_before_it(self):
        self.faulty(run(marks=[(20, 15), (2, 10), (15, 2)]), 11, mark_place(1))

    def test_the_least_of_several(self):
        self.faulty(run(marks=[(15, 2), (5, 5), (20, 20)]), 11, mark_place(1))
        self.faulty(run(marks=[(15, 2), (2, 10), (10, 10)]), 11, mark_place(2))


class Rule12(Rules):
    def test_a_second_mark_in_a_pane(self):
        self.faulty(run(marks=[(15, 2), (2, 10), (3, 10), (20, 15)]), 12, mark_place(2))
        self.faulty(run(marks=[(15, 2), (16, 2), (2, 10)]), 12, mark_place(1))

    def test_the_least_of_several(self):
        self.faulty(run(marks=[(15, 2), (2, 10), (20, 15), (21, 15), (22, 15)]), 12, mark_place(3))
        self.faulty(run(marks=[(15, 2), (16, 2), (17, 2)]), 12, mark_place(1))

    def test_two_marks_of_one_pane_that_bends_round(self):
        leads = [((0, 20), (20, 10)), ((20, 10), (40, 20)), ((0, 20), (20, 38)), ((20, 38), (40, 20))]
        window = Window(40, 40, leads)
        self.sound(window.cartoon)
        marks = sorted(window.marks + [(1, 39), (39, 39)], key=lambda mark: (mark[1], mark[0]))
        place = len(window.cartoon) - 12 * len(window.marks) + 12 * (len(marks) - 2)
        self.faulty(written(40, 40, window.points, window.lines, marks), 12, place)

    def test_a_mark_at_the_height_of_corners(self):
        window = Window(40, 40, [((0, 20), (20, 20)), ((20, 20), (40, 20)), ((20, 20), (20, 40))], [(0, 10), (40, 10)])
        points, lines = window.points, window.lines
        self.sound(written(40, 40, points, lines, [(39, 10), (1, 21), (21, 21)]))
        start = 20 + 8 * len(points) + 4 * len(lines)
        self.faulty(written(40, 40, points, lines, [(1, 10), (39, 10), (1, 21), (21, 21)]), 12, start + 12)


class Rule13(Rules):
    def test_a_pane_without_a_mark(self):
        for left_out in RUN_MARKS:
            marks = [mark for mark in RUN_MARKS if mark != left_out]
            self.faulty(run(marks=marks), 13, 124 - 12)

    def test_a_pane_in_which_no_point_with_whole_numbers_lies(self):
        window = Window(40, 40, [((0, 20), (1, 20)), ((0, 20), (1, 21)), ((1, 20), (1, 21)), ((1, 21), (40, 40))])
        self.assertFalse(window.whole)
        self.faulty(window.cartoon, 13, len(window.cartoon))


class SeveralRules(Rules):
    def test_of_two_broken_rules_the_first_is_told(self):
        points = RUN_POINTS[:2] + [(31, 10)] + RUN_POINTS[3:]
        lines = RUN_LINES[:5] + [(2, 2), (3, 4)]
        marks = [(15, 0), (2, 10), (20, 15)]
        self.faulty(run(sign=b"GLA2", width=0), 1, 0)
        self.faulty(run(height=0)[:-1], 2, 8)
        self.faulty(run(points=points)[:-1], 3, 20)
        self.faulty(run(points=points, lines=lines), 4, point_place(2))
        self.faulty(run(points=[(1, 0)] + RUN_POINTS[1:], lines=lines), 5, line_place(5))
        self.faulty(run(points=[(1, 0)] + RUN_POINTS[1:], marks=marks), 6, 20)

    def test_rules_of_the_lines_come_before_those_of_the_marks(self):
        crossing = [(0, 1), (0, 2), (0, 3), (1, 2), (1, 3), (2, 3)]
        self.faulty(written(40, 40, CORNERS, crossing, [(0, 0)]), 7, 20 + 32 + 4 * 3)
        island = [(2, 3), (2, 4), (3, 4)]
        self.faulty(framed([(20, 10), (10, 20), (30, 20), (20, 30)], island), 8, point_place(5))
        hung = [(0, 2), (0, 3), (2, 3), (4, 5), (4, 6), (5, 6)]
        self.faulty(framed([(20, 10), (10, 20), (30, 30), (20, 35), (30, 35)], hung), 9, point_place(4))
        self.faulty(framed([(20, 10), (10, 20)], [(0, 2), (0, 3), (2, 3)], [(0, 0)]), 10, point_place(0))

    def test_rules_of_the_marks_in_their_order(self):
        self.faulty(run(marks=[(15, 2), (16, 2), (5, 15)]), 11, mark_place(2))
        self.faulty(run(marks=[(15, 2), (16, 2)]), 12, mark_place(1))


if __name__ == "__main__":
    unittest.main()
