"""The interface's turned, with points [1] and [2] as far as they speak of it."""

import unittest

from guardline.signs import turned

# As in test_sign_of.py, 10 to any multiple of 3 is alike to 1, by which
# the answers for the large numbers below are worked out by hand.
SMALLEST_OF_HUNDRED_FIGURES = 10 ** 99
LARGEST_OF_HUNDRED_FIGURES = 10 ** 100 - 1


class Turned(unittest.TestCase):
    def check(self, pairs):
        for number, answer in pairs:
            with self.subTest(number=number):
                self.assertEqual(turned(number), answer)

    def check_turns(self, number):
        with self.subTest(number=number):
            self.assertIn(turned(number), range(1, 37))
            self.assertEqual(turned(number) * number % 37, 1)

    def test_each_number_from_1_to_36(self):
        for number in range(1, 37):
            self.check_turns(number)

    def test_some_worked_out_by_hand(self):
        self.check([(1, 1), (2, 19), (3, 25), (4, 28), (6, 31), (10, 26), (18, 35), (19, 2), (35, 18), (36, 36)])

    def test_turned_twice_is_the_number_again(self):
        self.check([(turned(number), number) for number in range(1, 37)])

    def test_nought_for_what_is_alike_to_nought(self):
        numbers = (0, 37, 74, 111, 37 * 37, 37 * 36, 999, 10 ** 24 - 1, 37 * 10 ** 98)
        self.check([(number, 0) for number in numbers])
        self.check([(-number, 0) for number in numbers])

    def test_neighbours_of_what_is_alike_to_nought(self):
        self.check([(38, 1), (75, 1), (73, 36), (-38, 36), (-36, 1), (-73, 1), (-75, 36)])

    def test_below_nought(self):
        self.check([(-1, 36), (-2, 18), (-3, 12), (-10, 11), (-35, 19)])
        for number in range(-36, 0):
            self.check_turns(number)

    def test_numbers_that_are_alike_have_the_same_answer(self):
        for times in (-1000, -2, -1, 1, 2, 1000, 10 ** 30, -10 ** 30):
            self.check([(number + 37 * times, turned(number)) for number in range(37)])

    def test_24_and_25_figures(self):
        self.check([
            (10 ** 23, 10),
            (-10 ** 23, 27),
            (10 ** 24 - 2, 36),
            (-10 ** 24 + 2, 1),
            (10 ** 24 + 1, 19),
            (-10 ** 24 - 1, 18),
        ])

    def test_a_hundred_figures(self):
        self.check([
            (SMALLEST_OF_HUNDRED_FIGURES, 1),
            (SMALLEST_OF_HUNDRED_FIGURES + 1, 19),
            (LARGEST_OF_HUNDRED_FIGURES, 33),
            (-SMALLEST_OF_HUNDRED_FIGURES, 36),
            (-SMALLEST_OF_HUNDRED_FIGURES - 1, 18),
            (-LARGEST_OF_HUNDRED_FIGURES, 4),
        ])

    def test_somewhat_beyond_a_hundred_figures_is_not_refused(self):
        self.check([
            (LARGEST_OF_HUNDRED_FIGURES + 1, 26),
            (-LARGEST_OF_HUNDRED_FIGURES - 1, 11),
            (10 ** 150, 1),
            (10 ** 150 - 1, 0),
            (-10 ** 150, 36),
        ])

    def test_the_answer_is_a_whole_number(self):
        for number in (0, 1, 36, 37, 38, -1, -37, 10 ** 24 + 1, -LARGEST_OF_HUNDRED_FIGURES):
            with self.subTest(number=number):
                self.assertIs(type(turned(number)), int)

    def test_asked_again_it_answers_the_same(self):
        numbers = list(range(-80, 80))
        self.assertEqual([turned(number) for number in numbers], [turned(number) for number in numbers])


if __name__ == "__main__":
    unittest.main()
