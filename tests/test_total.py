import random
import unittest

from cartoons import RUN_LINES, SHOP, Window, fence, pieces_of, run, two_on_each_edge
from leadstrips.shop import bars, pieces, strips, total
from many_windows import WINDOWS, joined_pairs, kin_of, lengths_in, none_bend_as_much

SIDE = 1048575
BENDS = ((0, 1), (1, 10), (1, 2), (1, 1), (3, 1), (1000, 1))

# A ring of eight leads that is held by two spokes; one of these is two leads in a row.
OCTAGON = [(30, 20), (40, 20), (50, 30), (50, 40), (40, 50), (30, 50), (20, 40), (20, 30)]
HELD = [((40, 50), (44, 60)), ((44, 60), (44, 70)), ((20, 30), (0, 22))]
RING = Window(70, 70, list(zip(OCTAGON, OCTAGON[1:] + OCTAGON[:1])) + HELD)


def joints_in(window, a, b):
    """The points that the document tells as soldered joints, point by point as it says."""
    joined = joined_pairs(window, a, b)
    joints = []
    for v, (x, y) in enumerate(window.points):
        here = [lead for lead in window.leads if v in window.lines[lead]]
        on_edge = x in (0, window.width) or y in (0, window.height)
        if here and (on_edge or len(here) != 2 or (v, *here) not in joined):
            joints.append(v)
    return joints


class TheRun(unittest.TestCase):
    def test_bar_60(self):
        self.assertEqual(total(1, 1, 60, 2, 1, run()), [0, 2, 53, 4, 2])

    def test_bar_62(self):
        self.assertEqual(total(1, 1, 62, 2, 1, run()), [0, 2, 53, 4, 1])

    def test_bar_40(self):
        self.assertEqual(total(1, 1, 40, 2, 1, run()), [0, 3, 53, 4, 2])

    def test_bar_26(self):
        self.assertEqual(total(1, 1, 26, 2, 1, run()), [-3, 3])

    def test_bars_that_just_fit_and_just_not(self):
        self.assertEqual(total(1, 1, 61, 2, 1, run()), [0, 2, 53, 4, 2])
        self.assertEqual(total(1, 1, 42, 2, 1, run()), [0, 2, 53, 4, 2])
        self.assertEqual(total(1, 1, 41, 2, 1, run()), [0, 3, 53, 4, 2])
        self.assertEqual(total(1, 1, 38, 2, 1, run()), [0, 3, 53, 4, 3])
        self.assertEqual(total(1, 1, 27, 2, 1, run()), [0, 3, 53, 4, 3])

    def test_loss(self):
        self.assertEqual(total(1, 1, 61, 2, 0, run()), [0, 2, 53, 4, 1])
        self.assertEqual(total(1, 1, 62, 2, 2, run()), [0, 2, 53, 4, 2])
        self.assertEqual(total(1, 1, 16777215, 2, 65535, run()), [0, 2, 53, 4, 1])

    def test_other_bends(self):
        self.assertEqual(total(0, 1, 60, 2, 1, run()), [0, 3, 53, 4, 2])
        self.assertEqual(total(333, 1000, 60, 2, 1, run()), [0, 3, 53, 4, 2])
        self.assertEqual(total(1000, 1, 60, 2, 1, run()), [0, 2, 53, 4, 2])


class Lengths(unittest.TestCase):
    def test_without_joint_and_loss(self):
        for a, b in ((0, 1), (1, 1), (1000, 1)):
            for bar in (23 + 2 * 65535, 300000, 16777215):
                for joint in (0, 1, 65535):
                    for loss in (0, 1, 65535):
                        self.assertEqual(total(a, b, bar, joint, loss, run())[2], 53)
        for bar in range(23, 63):
            self.assertEqual(total(1, 1, bar, 0, 0, run())[2], 53)

    def test_each_lead_is_rounded_by_itself(self):
        window = Window(40, 40, [((0, 0), (10, 10)), ((10, 10), (40, 40)), ((10, 10), (40, 0))])
        self.assertEqual(total(0, 1, 60, 0, 0, window.cartoon), [0, 2, 15 + 43 + 32, 4, 2])

    def test_whole_and_just_above_a_whole_number(self):
        self.assertEqual(total(1, 1, 50, 0, 0, Window(40, 30, [((0, 0), (40, 30))]).cartoon), [0, 1, 50, 2, 1])
        window = Window(SIDE, 16, [((0, 1), (SIDE, 2))])
        self.assertEqual(total(1, 1, 2 * SIDE, 0, 0, window.cartoon), [0, 1, SIDE + 1, 2, 1])

    def test_a_line_on_the_edge_is_no_lead(self):
        window = Window(1000, 1000, [((0, 10), (10, 0))], [(500, 0), (1000, 7)])
        self.assertEqual(total(1, 1, 15, 0, 0, window.cartoon), [0, 1, 15, 2, 1])

    def test_together_above_any_bar(self):
        window = Window(SIDE, SIDE, [((0, 0), (30000 * i, SIDE)) for i in range(1, 34)])
        self.assertTrue(window.whole)
        length = sum(lengths_in(window).values())
        self.assertGreater(length, 2 * 16777215)
        self.assertEqual(total(0, 1, 16777215, 0, 0, window.cartoon), [0, 33, length, 34, 3])


class SolderedJoints(unittest.TestCase):
    def joints(self, count, window, a, b):
        self.assertTrue(window.whole)
        self.assertEqual(len(joints_in(window, a, b)), count)
        self.assertEqual(total(a, b, 16777215, 2, 1, window.cartoon)[3], count)

    def test_just_two_joined(self):
        window = Window(40, 40, [((0, 20), (20, 20)), ((20, 20), (40, 20))])
        for a, b in BENDS:
            self.joints(2, window, a, b)

    def test_just_two_that_bend_as_much_as_told_and_more(self):
        window = Window(40, 40, [((0, 20), (20, 20)), ((20, 20), (40, 10))])
        for a, b in ((1, 2), (500, 1000), (501, 1000), (1000, 1)):
            self.joints(2, window, a, b)
        for a, b in ((0, 1), (499, 1000), (1, 3)):
            self.joints(3, window, a, b)

    def test_just_two_that_never_go_through(self):
        for end in ((20, 0), (0, 0), (0, 30)):
            self.joints(3, Window(40, 40, [((0, 20), (20, 20)), ((20, 20), end)]), 1000, 1)

    def test_just_two_where_a_strip_has_both_its_ends(self):
        spur = (50, 20)
        heptagon = [spur, (50, 40), (40, 50), (30, 50), (20, 40), (20, 30), (30, 20)]
        window = Window(70, 70, list(zip(heptagon, heptagon[1:] + heptagon[:1])) + HELD)
        self.joints(5, window, 1, 1)

    def test_one_that_ends_there(self):
        self.joints(2, Window(40, 30, [((0, 0), (40, 30))]), 1, 1)
        self.joints(2, Window(40, 30, [((0, 9), (17, 30))]), 1000, 1)

    def test_three_of_which_two_are_joined(self):
        v = (20, 20)
        window = Window(40, 40, [((0, 20), v), (v, (40, 20)), (v, (20, 40))])
        for a, b in BENDS:
            self.assertEqual(strips(a, b, 60, 2, 1, window.cartoon)[1], 2)
            self.joints(4, window, a, b)

    def test_three_of_which_none_are_joined(self):
        v = (20, 20)
        window = Window(40, 40, [((0, 20), v), (v, (40, 10)), (v, (20, 40))])
        self.assertEqual(strips(0, 1, 60, 2, 1, window.cartoon)[1], 3)
        self.joints(4, window, 0, 1)

    def test_four_in_two_joined_pairs(self):
        v = (20, 20)
        window = Window(40, 40, [(v, end) for end in ((0, 0), (40, 40), (0, 40), (40, 0))])
        for a, b in BENDS:
            self.assertEqual(strips(a, b, 60, 2, 1, window.cartoon)[1], 2)
            self.joints(5, window, a, b)

    def test_two_on_the_edge_that_would_go_through(self):
        for place, window in two_on_each_edge():
            self.joints(5, window, 1000, 1)

    def test_two_just_within_the_edge(self):
        window = Window(40, 40, [((0, 3), (1, 20)), ((1, 20), (20, 40))])
        self.joints(2, window, 1, 1)
        self.joints(3, window, 1, 2)

    def test_points_at_which_none_end(self):
        edge = [(7, 0), (0, 11), (40, 12), (9, 30)]
        self.joints(0, Window(40, 30, [], edge), 1, 1)
        self.joints(2, Window(40, 30, [((0, 20), (40, 20))], edge), 1, 1)

    def test_round_a_ring(self):
        self.joints(4, RING, 1, 1)
        self.joints(11, RING, 0, 1)

    def test_where_a_strip_is_parted_nothing_more_is_told(self):
        self.assertEqual(total(1, 1, 103, 1, 0, RING.cartoon), [0, 3, 143, 4, 2])
        self.assertEqual(total(1, 1, 24, 1, 0, RING.cartoon), [0, 10, 143, 4, 8])


class NoLeads(unittest.TestCase):
    def test_four_times_none(self):
        for window in (Window(16, 16, []), Window(40, 30, [], [(7, 0), (0, 11)]), Window(SIDE, SIDE, [])):
            for shop in (SHOP, (0, 1, 1, 0, 0), (1000, 1000, 1, 65535, 65535)):
                self.assertEqual(total(*shop, window.cartoon), [0, 0, 0, 0, 0])


class AsTheOtherCalls(unittest.TestCase):
    """What total tells of many cartoons and shops, beside what pieces and bars tell and a plain reading."""

    @classmethod
    def setUpClass(cls):
        """Each window with a shop, and what total tells of them."""
        cls.each = []
        for k, window in enumerate(WINDOWS):
            chance = random.Random(k)
            for a, b in BENDS:
                joint = chance.choice((0, 1, 3, 40))
                longest = max(lengths_in(window).values()) + 2 * joint
                for bar in (longest, longest + chance.randint(1, 30), 3 * longest, 20 * longest):
                    shop = (a, b, bar, joint, chance.choice((0, 1, 9, 200)))
                    cls.each.append((window, shop, total(*shop, window.cartoon)))

    def test_pieces(self):
        for window, shop, told in self.each:
            self.assertEqual((told[0], len(told)), (0, 5))
            self.assertEqual(told[1], len(pieces_of(pieces(*shop, window.cartoon))))

    def test_lengths(self):
        for window, shop, told in self.each:
            self.assertEqual(told[2], sum(lengths_in(window).values()))
            with_joints = sum(length for length, row in pieces_of(pieces(*shop, window.cartoon)))
            self.assertEqual(told[2] + 2 * shop[3] * told[1], with_joints)

    def test_soldered_joints(self):
        counts = set()
        for window, shop, told in self.each:
            joints = joints_in(window, *shop[:2])
            self.assertEqual(told[3], len(joints))
            ended = {v for lead in window.leads for v in window.lines[lead]}
            counts.add(len(ended) - len(joints))
        self.assertGreater(len(counts), 5)

    def test_bars(self):
        begun = set()
        for window, shop, told in self.each:
            self.assertEqual(told[4], len(set(bars(*shop, window.cartoon)[2:])))
            begun.add(told[4])
        self.assertGreater(len(begun), 15)

    def test_of_posts_with_other_lengths(self):
        for seed in range(6):
            chance = random.Random(seed)
            lengths = [chance.randint(16, chance.choice((20, 250))) for piece in range(chance.randint(1, 60))]
            window = fence(lengths)
            for bar in (max(lengths), 3 * max(lengths), 5000):
                for loss in (0, 7, 65535):
                    begun = max(bars(1, 1, bar, 0, loss, window.cartoon)[2:]) + 1
                    told = [0, len(lengths), sum(lengths), 2 * len(lengths), begun]
                    self.assertEqual(total(1, 1, bar, 0, loss, window.cartoon), told)


class ThePromises(unittest.TestCase):
    def test_with_a_greater_bar_no_more_pieces(self):
        for k, window in enumerate(WINDOWS):
            a, b = BENDS[k % len(BENDS)]
            longest = max(lengths_in(window).values()) + 6
            some = range(longest, 4 * longest, max(9, longest // 8))
            counts = [total(a, b, bar, 3, 1, window.cartoon)[1] for bar in some]
            self.assertEqual(counts, sorted(counts, reverse=True))

    def test_turned_and_mirrored(self):
        plain = 0
        for k, window in enumerate(WINDOWS):
            for a, b in (BENDS[k % len(BENDS)], (1, 1)):
                told = total(a, b, 16777215, 2, 1, window.cartoon)
                for kin in kin_of(window):
                    again = total(a, b, 16777215, 2, 1, kin.cartoon)
                    self.assertEqual(again[2], told[2])
                    if none_bend_as_much(window, a, b):
                        self.assertEqual(again[3], told[3])
                        plain += 1
        self.assertGreater(plain, 100)


class Refusals(unittest.TestCase):
    def test_of_two_leads_too_long_the_least(self):
        self.assertEqual(total(1, 1, 18, 2, 1, run()), [-3, 1])
        self.assertEqual(total(1, 1, 1, 65535, 1, run()), [-3, 1])
        self.assertEqual(total(1, 1, 22, 0, 0, run()), [-3, 3])
        window = fence([20, 30, 40, 30])
        self.assertEqual(total(1, 1, 39, 0, 0, window.cartoon), [-3, window.leads[2]])
        self.assertEqual(total(1, 1, 29, 0, 0, window.cartoon), [-3, window.leads[1]])

    def test_too_long_in_what_is_no_cartoon(self):
        self.assertEqual(total(1, 1, 26, 2, 1, run(marks=[(15, 2), (2, 10)])), [-5, 13, 112])
        self.assertEqual(total(1, 1, 26, 2, 1, run(lines=RUN_LINES[:-1])), [-5, 6, 20])
        self.assertEqual(total(1, 1, 1, 65535, 1, run() + [0]), [-5, 3, 20])
        self.assertEqual(total(1, 1, 1, 65535, 1, [0] * 131073), [-6])

    def test_too_long_and_a_number_out_of_its_bounds(self):
        for shop in ((1001, 1, 26, 2, 1), (1, 0, 26, 2, 1), (1, 1, 0, 2, 1), (1, 1, 26, 65536, 1), (1, 1, 26, 2, 65536)):
            for cartoon in (run(), run() + [0], [0] * 131073):
                self.assertEqual(total(*shop, cartoon), [-1])


class Large(unittest.TestCase):
    def test_200_points(self):
        window = Window(495, 20, [((5 * x, 0), (5 * x, 20)) for x in range(1, 99)], [(0, 0), (495, 0)])
        self.assertEqual(len(window.points), 200)
        self.assertEqual(total(1, 1, 20, 0, 0, window.cartoon), [0, 98, 98 * 20, 196, 98])
        self.assertEqual(total(1, 1, 64, 0, 2, window.cartoon), [0, 98, 98 * 20, 196, 33])
        self.assertEqual(total(1, 1, 16777215, 0, 0, window.cartoon), [0, 98, 98 * 20, 196, 1])

    def test_a_strip_of_195_leads(self):
        row = [(x, 20) for x in range(196)]
        window = Window(195, 40, list(zip(row, row[1:])))
        self.assertEqual(len(window.points), 200)
        self.assertEqual(total(0, 1, 10, 0, 0, window.cartoon), [0, 20, 195, 2, 20])
        self.assertEqual(total(0, 1, 100, 45, 9, window.cartoon), [0, 20, 195, 2, 20])
        self.assertEqual(total(1, 1, 195, 0, 0, window.cartoon), [0, 1, 195, 2, 1])


if __name__ == "__main__":
    unittest.main()
