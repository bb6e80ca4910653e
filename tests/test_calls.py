"""What is so with every call: what it refuses first, and that it changes nothing and keeps nothing."""

import contextlib
import inspect
import io
import random
import sys
import unittest

from cartoons import SHOP, Held, Window, run
from leadstrips.shop import bars, judge, pieces, root, strips, total
from many_windows import WINDOWS

MOST = 2 ** 65 - 1
DIAGONAL = Window(40, 40, [((0, 0), (40, 40))]).cartoon

# Each call but root, and what it takes beside a shop and a cartoon.
CALLS = [(strips, []), (pieces, []), (bars, []), (total, []), (judge, [[1, 0]])]
PARTING = CALLS[1:]

# Each cartoon with what is wrong with it if the shop is not.
CARTOONS = [
    (run(), None),
    ([], [-5, 1, 0]),
    (run()[:19], [-5, 1, 19]),
    (run(width=0), [-5, 2, 4]),
    (run()[:-1], [-5, 3, 20]),
    (run(marks=[(15, 2), (16, 2)]), [-5, 12, 88 + 12]),
    (run(marks=[(15, 2), (2, 10)]), [-5, 13, 112]),
    ([0] * 100000, [-5, 1, 0]),
    ([0] * 131072, [-5, 1, 0]),
    ([0] * 131073, [-6]),
]


def shops(values_of_each):
    """SHOP with one number that's another, number by number and value by value."""
    for place, values in enumerate(values_of_each):
        for value in values:
            yield SHOP[:place] + (value,) + SHOP[place + 1:]


class TheShop(unittest.TestCase):
    def test_each_number_just_within_its_bounds(self):
        for call, more in CALLS:
            for shop in shops(((0, 1000), (1, 1000), (1, 16777215), (0, 65535), (0, 65535))):
                answer = call(*shop, run(), *more)
                if call != strips and (shop[2] == 1 or shop[3] == 65535):
                    self.assertEqual(answer, [-3, 1])
                elif shop[0] == 0 or shop[1] == 1000:
                    # Three strips, each in one piece, so a row of two bars isn't enough.
                    self.assertEqual(answer[:1], [-2] if call == judge else [0])
                else:
                    self.assertEqual(answer[0], 0)

    def test_each_number_out_of_its_bounds(self):
        large = (2 ** 32, 2 ** 63, 2 ** 64, MOST)
        beyond = ((1001,) + large, (0, 1001) + large, (0, 16777216) + large, (65536,) + large, (65536,) + large)
        for call, more in CALLS:
            for shop in shops(beyond):
                self.assertEqual(call(*shop, run(), *more), [-1], shop)

    def test_it_is_looked_at_ahead_of_the_cartoon(self):
        for call, more in CALLS:
            for cartoon, refusal in CARTOONS:
                for shop in shops(((1001,), (0,), (0,), (65536,), (65536,))):
                    self.assertEqual(call(*shop, cartoon, *more), [-1])


class TheCartoon(unittest.TestCase):
    def test_what_is_refused(self):
        for call, more in CALLS:
            for cartoon, refusal in CARTOONS[1:]:
                self.assertEqual(call(*SHOP, cartoon, *more), refusal)

    def test_it_is_looked_at_ahead_of_the_leads_that_are_too_long(self):
        for call, more in PARTING:
            self.assertEqual(call(1, 1, 26, 2, 1, run(), *more), [-3, 3])
            for cartoon, refusal in CARTOONS[1:]:
                self.assertEqual(call(1, 1, 26, 2, 1, cartoon, *more), refusal)

    def test_every_call_refuses_the_same(self):
        cartoon = run()
        for i in range(len(cartoon)):
            for value in (0, 1, 255):
                changed = cartoon[:i] + [value] + cartoon[i + 1:]
                told = strips(1, 1, 16777215, 2, 1, changed)
                for call, more in PARTING:
                    answer = call(1, 1, 16777215, 2, 1, changed, *more)
                    if told[0] < 0:
                        self.assertEqual(answer, told)
                    else:
                        self.assertIn(answer[0], (0, -2))


class TooLong(unittest.TestCase):
    def test_of_two_the_least(self):
        for call, more in PARTING:
            self.assertEqual(call(1, 1, 18, 2, 1, run(), *more), [-3, 1])
            self.assertEqual(call(1, 1, 1, 65535, 1, run(), *more), [-3, 1])
            self.assertEqual(call(1, 1, 22, 0, 0, run(), *more), [-3, 3])

    def test_a_shop_out_of_its_bounds_is_told_ahead_of_it(self):
        for call, more in PARTING:
            for shop in shops(((1001,), (0, 1001), (0,), (65536,), (65536,))):
                a, b, bar, joint, loss = shop
                self.assertEqual(call(a, b, min(bar, 26), joint, loss, run(), *more), [-1])

    def test_strips_are_told_all_the_same(self):
        self.assertEqual(strips(1, 1, 1, 65535, 1, run()), [0, 2, 2, 0, 2, 3, 1, 2, 3])

    def test_with_bars_that_are_just_long_enough(self):
        for call in (pieces, bars, total):
            self.assertEqual(call(1, 1, 27, 2, 1, run())[:2], [0, 3])
        self.assertEqual(judge(1, 1, 27, 2, 1, run(), [0, 1, 2]), [0])


class NothingKept(unittest.TestCase):
    def test_what_is_handed_in_stays_as_it_was(self):
        for call, more in CALLS:
            for cartoon, refusal in CARTOONS:
                for bar in (62, 60, 40, 26):
                    before = list(cartoon), [list(row) for row in more]
                    call(1, 1, bar, 2, 1, cartoon, *more)
                    self.assertEqual((cartoon, more), before)

    def test_it_is_not_changed_for_a_while_either(self):
        for call, more in CALLS:
            for cartoon, refusal in CARTOONS:
                for bar in (62, 60, 40, 26):
                    held = call(1, 1, bar, 2, 1, Held(cartoon), *[Held(row) for row in more])
                    self.assertEqual(held, call(1, 1, bar, 2, 1, cartoon, *more))

    def test_a_second_call_answers_the_same(self):
        for call, more in CALLS:
            for bar in (60, 40, 26):
                for cartoon, refusal in CARTOONS:
                    first = call(1, 1, bar, 2, 1, cartoon, *more)
                    kept = list(first)
                    call(0, 1, 60, 2, 1, DIAGONAL, *more)
                    first.append(7)
                    self.assertEqual(call(1, 1, bar, 2, 1, cartoon, *more), kept)

    def test_the_answer_is_a_list_of_whole_numbers(self):
        for call, more in CALLS:
            for cartoon, refusal in CARTOONS:
                for shop in (SHOP, (1, 1, 61, 2, 1), (1, 1, 26, 2, 1), (1001, 1, 60, 2, 1)):
                    answer = call(*shop, cartoon, *more)
                    self.assertIs(type(answer), list)
                    self.assertTrue(all(type(value) is int for value in answer))


class InTurn(unittest.TestCase):
    """All six calls, asked again and again in one order and another."""

    @classmethod
    def setUpClass(cls):
        cls.asked = [(root, (number,)) for number in (0, 1, 2, 200, 53 * 53, 2 ** 64 - 1, 2 ** 64, MOST)]
        cartoons = [cartoon for cartoon, refusal in CARTOONS[:-3]] + [window.cartoon for window in WINDOWS[::13]]
        for cartoon in cartoons:
            for shop in (SHOP, (0, 1, 40, 2, 1), (1, 1, 16777215, 3, 9), (1, 1, 26, 2, 1), (1, 0, 60, 2, 1)):
                row = bars(*shop, cartoon)[2:]
                for call, more in ((strips, []), (pieces, []), (bars, []), (total, []), (judge, [row])):
                    cls.asked.append((call, (*shop, cartoon, *more)))

    def test_the_same_is_answered(self):
        first = [call(*what) for call, what in self.asked]
        self.assertGreater(len({tuple(answer) for answer in first}), 50)
        kept = [list(answer) for answer in first]
        for answer in first:
            answer.append(7)
        for seed in range(3):
            order = list(range(len(self.asked)))
            random.Random(seed).shuffle(order)
            for i in order:
                call, what = self.asked[i]
                self.assertEqual(call(*what), kept[i])
                self.assertEqual(call(*what), kept[i])

    def test_in_turn_with_each_other_call(self):
        some = [(root, (200,))] + [(call, (*SHOP, run(), *more)) for call, more in CALLS]
        others = some + [(call, (0, 1, 200, 7, 3, DIAGONAL, *more)) for call, more in CALLS] + [(root, (MOST,))]
        for call, what in some:
            told = call(*what)
            for other, with_what in others:
                other(*with_what)
                self.assertEqual(call(*what), told)

    def test_nothing_is_printed_and_nothing_imported(self):
        modules = set(sys.modules)
        printed = io.StringIO()
        with contextlib.redirect_stdout(printed), contextlib.redirect_stderr(printed):
            for call, what in self.asked:
                call(*what)
        self.assertEqual(printed.getvalue(), "")
        self.assertEqual(set(sys.modules), modules)


class Loops(unittest.TestCase):
    def test_calls_within_one_another_stay_few(self):
        row = [(x, 20) for x in range(196)]
        posts = [((5 * x, 0), (5 * x, 20)) for x in range(1, 99)]
        windows = [Window(195, 40, list(zip(row, row[1:]))), Window(495, 20, posts)]
        asked = [(root, (2 ** 64 - 1,))]
        for window in windows:
            self.assertEqual(len(window.points), 200)
            asked += [(call, (1, 1, 20, 0, 0, window.cartoon, *more)) for call, more in CALLS]
        limit = sys.getrecursionlimit()
        sys.setrecursionlimit(len(inspect.stack()) + 40)
        try:
            told = [call(*what)[0] for call, what in asked]
        finally:
            sys.setrecursionlimit(limit)
        # judge is handed two bars for the many pieces.
        self.assertEqual(told, [0] + [0, 0, 0, 0, -2] * 2)


if __name__ == "__main__":
    unittest.main()
