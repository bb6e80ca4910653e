import math
import unittest

from leadstrips.lengths import distance_above, root_above


class Roots(unittest.TestCase):
    def test_small_numbers(self):
        for number in range(3000):
            root = root_above(number)
            self.assertGreaterEqual(root * root, number)
            self.assertTrue(root == 0 or (root - 1) * (root - 1) < number)

    def test_round_about_squares(self):
        for root in (2 ** 20 - 1, 2 ** 20, 1482909, 2 ** 31, 2 ** 32 - 1, 2 ** 32):
            self.assertEqual(root_above(root * root - 1), root)
            self.assertEqual(root_above(root * root), root)
            self.assertEqual(root_above(root * root + 1), root + 1)

    def test_the_greatest_squared_distance_of_a_cartoon(self):
        number = 2 * 1048575 * 1048575
        self.assertEqual(root_above(number), math.isqrt(number - 1) + 1)


class Distances(unittest.TestCase):
    def test_whole(self):
        self.assertEqual(distance_above((3, 4), (0, 0)), 5)
        self.assertEqual(distance_above((0, 0), (20, 21)), 29)
        self.assertEqual(distance_above((7, 7), (7, 40)), 33)
        self.assertEqual(distance_above((40, 7), (7, 7)), 33)

    def test_rounded_up(self):
        self.assertEqual(distance_above((0, 0), (10, 10)), 15)
        self.assertEqual(distance_above((30, 0), (10, 10)), 23)
        self.assertEqual(distance_above((0, 0), (1, 1)), 2)

    def test_just_above_a_whole_number(self):
        self.assertEqual(distance_above((0, 0), (1048575, 1)), 1048576)
        self.assertEqual(distance_above((1, 1048575), (0, 0)), 1048576)
        self.assertEqual(distance_above((0, 5), (1048575, 5)), 1048575)

    def test_from_corner_to_corner(self):
        self.assertEqual(distance_above((0, 0), (1048575, 1048575)), 1482909)


if __name__ == "__main__":
    unittest.main()
