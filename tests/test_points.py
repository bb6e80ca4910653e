import unittest

from leadstrips.points import apart, comes_behind, cross, lies_on, onward, turn


class Turns(unittest.TestCase):
    def test_the_turns_of_the_run(self):
        self.assertEqual(turn((0, 0), (10, 10), (30, 0)), -300)
        self.assertEqual(turn((30, 0), (10, 10), (0, 20)), -100)

    def test_left_right_and_in_a_row(self):
        self.assertGreater(turn((0, 0), (4, 0), (5, 1)), 0)
        self.assertLess(turn((0, 0), (4, 0), (5, -1)), 0)
        self.assertEqual(turn((0, 0), (4, 2), (6, 3)), 0)
        self.assertEqual(turn((0, 0), (4, 2), (2, 1)), 0)

    def test_far_out_it_is_exact(self):
        far = 1048575
        self.assertEqual(turn((0, 0), (far - 1, far), (far, far)), -far)
        self.assertEqual(turn((0, 0), (far - 1, far - 2), (far, far - 1)), 1)

    def test_how_far_onward(self):
        self.assertEqual(onward((0, 0), (10, 10), (30, 0)), 100)
        self.assertEqual(onward((0, 0), (10, 10), (0, 20)), 0)
        self.assertEqual(onward((30, 0), (10, 10), (0, 20)), 300)
        self.assertLess(onward((0, 0), (10, 0), (1, 1)), 0)


class OnALine(unittest.TestCase):
    def test_ends_and_between(self):
        for point in ((2, 1), (4, 2), (6, 3)):
            self.assertTrue(lies_on(point, (2, 1), (6, 3)))
            self.assertTrue(lies_on(point, (6, 3), (2, 1)))

    def test_in_the_row_but_out_of_the_box(self):
        for point in ((0, 0), (8, 4)):
            self.assertFalse(lies_on(point, (2, 1), (6, 3)))

    def test_in_the_box_but_beside_the_row(self):
        self.assertFalse(lies_on((4, 3), (2, 1), (6, 3)))

    def test_upright_and_level(self):
        self.assertTrue(lies_on((3, 5), (3, 9), (3, 1)))
        self.assertFalse(lies_on((3, 10), (3, 9), (3, 1)))
        self.assertTrue(lies_on((5, 3), (9, 3), (1, 3)))
        self.assertFalse(lies_on((0, 3), (9, 3), (1, 3)))


class Crossing(unittest.TestCase):
    def test_apart_only_with_neither_in_the_row(self):
        left, row, right = (4, 3), (9, 0), (4, -3)
        for r in (left, row, right):
            for s in (left, row, right):
                self.assertEqual(apart((0, 0), (5, 0), r, s), {r, s} == {left, right})

    def test_one_across_the_other(self):
        self.assertTrue(cross((0, 0), (4, 4), (0, 4), (4, 0)))
        self.assertTrue(cross((4, 4), (0, 0), (0, 4), (4, 0)))

    def test_an_end_in_common_or_on_the_other_is_no_crossing(self):
        self.assertFalse(cross((0, 0), (4, 4), (4, 4), (8, 0)))
        self.assertFalse(cross((0, 0), (4, 4), (2, 2), (8, 0)))

    def test_would_cross_if_one_were_longer(self):
        self.assertFalse(cross((0, 0), (1, 1), (0, 4), (4, 0)))
        self.assertFalse(cross((0, 4), (4, 0), (0, 0), (1, 1)))


class Order(unittest.TestCase):
    def test_by_y_then_by_x(self):
        self.assertTrue(comes_behind((0, 2), (9, 1)))
        self.assertTrue(comes_behind((3, 1), (2, 1)))
        self.assertFalse(comes_behind((2, 1), (2, 1)))
        self.assertFalse(comes_behind((9, 1), (0, 2)))


if __name__ == "__main__":
    unittest.main()
