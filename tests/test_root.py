import random
import unittest

from leadstrips.shop import root

FIRST_REFUSED = 2 ** 64
MOST = 2 ** 65 - 1


class SmallNumbers(unittest.TestCase):
    def test_the_first_ones(self):
        for number, told in enumerate((0, 1, 2, 2, 2, 3, 3, 3, 3, 3, 4)):
            self.assertEqual(root(number), [0, told])

    def test_against_a_plain_search(self):
        for number in range(5000):
            least = 0
            while least * least < number:
                least += 1
            self.assertEqual(root(number), [0, least])


class Squares(unittest.TestCase):
    def about(self, k):
        self.assertEqual(root(k * k), [0, k])
        self.assertEqual(root(k * k - 1), [0, k])
        self.assertEqual(root(k * k + 1), [0, k + 1])

    def test_about_powers_of_two(self):
        # Of 1 the number one less is 0, and of 2 ** 32 the square is refused.
        for bits in range(2, 32):
            for k in range(2 ** bits - 2, 2 ** bits + 3):
                self.about(k)
        for k in range(2 ** 32 - 5, 2 ** 32):
            self.about(k)

    def test_over_the_whole_range(self):
        chance = random.Random(1)
        for bits in range(2, 33):
            for k in range(40):
                self.about(chance.randint(2 ** (bits - 1), 2 ** bits - 1))

    def test_where_numbers_that_are_rounded_would_fail(self):
        for k in (94906267, 94906266, 134217729, 3037000500, 4294967295, 4294967294):
            self.about(k)

    def test_the_greatest_distance_across_a_cartoon(self):
        self.assertEqual(root(2 * 1048575 * 1048575), [0, 1482909])

    def test_up_to_the_last_number(self):
        self.assertEqual(root(FIRST_REFUSED - 1), [0, 4294967296])
        self.assertEqual(root(FIRST_REFUSED - 2), [0, 4294967296])
        self.assertEqual(root(4294967295 ** 2 + 1), [0, 4294967296])
        self.assertEqual(root(4294967295 ** 2), [0, 4294967295])
        self.assertEqual(root(2 ** 63), [0, 3037000500])
        self.assertEqual(root(2 ** 32), [0, 65536])
        self.assertEqual(root(2 ** 32 + 1), [0, 65537])


class ManyNumbers(unittest.TestCase):
    def test_the_answer_is_the_least(self):
        chance = random.Random(2)
        numbers = [chance.randrange(2 ** bits) for bits in range(1, 65) for k in range(60)]
        numbers += [2 ** bits + k for bits in range(2, 64) for k in (-1, 0, 1)]
        for number in numbers:
            zero, told = root(number)
            self.assertEqual(zero, 0)
            self.assertGreaterEqual(told * told, number)
            self.assertTrue(told == number == 0 or (told - 1) ** 2 < number)


class Refused(unittest.TestCase):
    def test_from_2_to_the_64_on(self):
        for number in (2 ** 64, 2 ** 64 + 1, 2 ** 64 + 2 ** 32, 3 * 2 ** 63, MOST - 1, MOST):
            self.assertEqual(root(number), [-1])


class TheAnswer(unittest.TestCase):
    def test_it_is_a_list_of_whole_numbers(self):
        for number in (0, 1, 2, 99, FIRST_REFUSED - 1, FIRST_REFUSED, MOST):
            answer = root(number)
            self.assertIs(type(answer), list)
            self.assertTrue(all(type(value) is int for value in answer))

    def test_a_second_call_answers_the_same(self):
        for number in (0, 1, 2, 99, FIRST_REFUSED - 1, FIRST_REFUSED, MOST):
            first = root(number)
            kept = list(first)
            root(7)
            first.append(7)
            self.assertEqual(root(number), kept)


if __name__ == "__main__":
    unittest.main()
