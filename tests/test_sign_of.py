"""Point [2], and point [1] as far as it speaks of sign_of."""

import unittest

from guardline.signs import sign_of

FIGURES = "0123456789"
LETTERS = "abcdefghijklmnopqrstuvwxyz"
IN_ORDER = FIGURES + LETTERS + "-"

# The signs of the large numbers below are worked out by hand: 999 is 27 times 37,
# so 10 ** 3 is alike to 1, and so is 10 to any multiple of 3.
SMALLEST_OF_HUNDRED_FIGURES = 10 ** 99
LARGEST_OF_HUNDRED_FIGURES = 10 ** 100 - 1


class SignOf(unittest.TestCase):
    def check(self, pairs):
        for number, sign in pairs:
            with self.subTest(number=number):
                self.assertEqual(sign_of(number), sign)

    def test_each_sign_by_its_number(self):
        self.assertEqual(len(IN_ORDER), 37)
        self.check(enumerate(IN_ORDER))

    def test_the_numbers_that_the_document_names(self):
        self.check([(0, "0"), (9, "9"), (10, "a"), (35, "z"), (36, "-")])

    def test_edges_of_the_round(self):
        self.check([(37, "0"), (38, "1"), (73, "-"), (74, "0"), (75, "1")])

    def test_edges_below_nought(self):
        self.check([(-1, "-"), (-2, "z"), (-27, "a"), (-36, "1"), (-37, "0"), (-38, "-"), (-74, "0"), (-75, "-")])

    def test_numbers_that_are_alike_have_the_same_sign(self):
        for times in (-1000, -3, -2, -1, 1, 2, 3, 1000, 10 ** 30, -10 ** 30):
            self.check([(place + 37 * times, sign) for place, sign in enumerate(IN_ORDER)])

    def test_numbers_that_are_not_alike_have_different_signs(self):
        for start in (-38, -37, -1, 0, 1, 10 ** 24 + 1, -10 ** 24 - 1):
            with self.subTest(start=start):
                self.assertEqual({sign_of(start + step) for step in range(37)}, set(IN_ORDER))

    def test_ten_to_the_24th_and_one_more(self):
        self.check([(10 ** 24, "1"), (10 ** 24 + 1, "2"), (-10 ** 24, "-"), (-10 ** 24 - 1, "z")])

    def test_a_hundred_figures(self):
        self.check([
            (SMALLEST_OF_HUNDRED_FIGURES, "1"),
            (SMALLEST_OF_HUNDRED_FIGURES + 9, "a"),
            (LARGEST_OF_HUNDRED_FIGURES, "9"),
            (-SMALLEST_OF_HUNDRED_FIGURES, "-"),
            (-SMALLEST_OF_HUNDRED_FIGURES - 1, "z"),
            (-LARGEST_OF_HUNDRED_FIGURES, "s"),
        ])

    def test_somewhat_beyond_a_hundred_figures_is_not_refused(self):
        self.check([
            (LARGEST_OF_HUNDRED_FIGURES + 1, "a"),
            (-LARGEST_OF_HUNDRED_FIGURES - 1, "r"),
            (10 ** 150, "1"),
            (-10 ** 150, "-"),
            (10 ** 200 + 1, "r"),
        ])

    def test_the_answer_is_a_text_of_one_sign(self):
        for number in (0, 9, 10, 36, 37, -1, -37, 10 ** 24 + 1, -LARGEST_OF_HUNDRED_FIGURES):
            with self.subTest(number=number):
                self.assertIs(type(sign_of(number)), str)
                self.assertEqual(len(sign_of(number)), 1)

    def test_asked_again_it_answers_the_same(self):
        numbers = list(range(-80, 80))
        self.assertEqual([sign_of(number) for number in numbers], [sign_of(number) for number in numbers])


if __name__ == "__main__":
    unittest.main()
