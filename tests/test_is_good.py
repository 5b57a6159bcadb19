"""is_good: points [5] and [6], and point [1] as far as it speaks of it."""

import unittest

import reckoning
from guardline.single import guarded, is_good
from reckoning import Case, OTHER_SIGNS, SIGNS, replaced, sample, samples, swapped, with_other_signs

LENGTHS = (0, 1, 2, 3, 8, 34, 35, 36, 37, 38, 62, 71, 72, 73)


class Good(Case):
    def test_what_guarded_answers(self):
        for length in LENGTHS + (999, 1000, 1500):
            self.assert_all_said(True, is_good, [guarded(word) for word in samples(length)])

    def test_noughts_alone(self):
        self.assert_all_said(True, is_good, ["0" * length for length in (1, 2, 3, 35, 36, 37, 38, 1000, 1001)])

    def test_some_worked_out_by_hand(self):
        self.assert_all_said(True, is_good, ["1i", "abe", "-j", "2" + "0" * 34 + "2", "2" + "0" * 35 + "z"])


class NotGood(Case):
    def test_the_empty_text(self):
        self.assert_says(False, is_good, "")

    def test_one_sign_that_is_not_nought(self):
        self.assert_all_said(False, is_good, SIGNS[1:])

    def test_each_text_of_two_signs(self):
        for first in SIGNS:
            for second in SIGNS:
                self.assert_says(reckoning.is_good(first + second), is_good, first + second)

    def test_a_thousand_signs_with_another_guard_sign(self):
        for word in samples(999) + samples(1000):
            for sign in SIGNS:
                self.assert_says(reckoning.is_good(word + sign), is_good, word + sign)

    def test_a_plain_load_alike_to_nought_is_not_enough(self):
        self.assert_all_said(False, is_good, ["1-", "-1", "0a00r", "1" * 37])


class OneSignReplaced(Case):
    def check(self, text, places):
        for place in places:
            for sign in SIGNS.replace(text[place], ""):
                self.assert_says(False, is_good, replaced(text, place, sign))

    def test_each_place_by_each_other_sign(self):
        for length in LENGTHS:
            text = guarded(sample(length, length))
            self.check(text, range(len(text)))

    def test_some_places_of_a_thousand_and_one(self):
        self.check(guarded(sample(1000)), (0, 1, 34, 35, 36, 37, 71, 72, 500, 998, 999, 1000))


class NeighboursChangedPlaces(Case):
    def check(self, text, place):
        self.assertNotEqual(text[place], text[place + 1])
        self.assert_says(False, is_good, swapped(text, place))

    def test_each_two_different_neighbours(self):
        for length in LENGTHS + (1000,):
            for start in (0, 5, 17):
                text = guarded(sample(length, start))
                for place in range(len(text) - 1):
                    if text[place] != text[place + 1]:
                        self.check(text, place)

    def test_each_two_signs_at_the_places_35_and_36(self):
        for first in SIGNS:
            for second in SIGNS.replace(first, ""):
                self.check(guarded("0" * 35 + first + second), 35)

    def test_the_guard_sign_at_place_36(self):
        texts = [guarded(sample(35, start) + sign) for start in (2, 3) for sign in SIGNS]
        different = [text for text in texts if text[35] != text[36]]
        self.assertGreater(len(different), 60)
        for text in different:
            self.check(text, 35)

    def test_the_places_71_and_72(self):
        for first in SIGNS:
            for second in SIGNS.replace(first, ""):
                self.check(guarded(sample(71) + first + second), 71)


class AnotherSign(Case):
    def test_alone(self):
        self.assert_all_said(False, is_good, OTHER_SIGNS)

    def test_beside_each_sign_so_that_no_number_for_it_would_do(self):
        for other in OTHER_SIGNS:
            for sign in SIGNS:
                self.assert_all_said(False, is_good, [other + sign, sign + other])

    def test_in_the_place_of_each_sign_of_a_good_text(self):
        for text in (guarded("-0a-0a"), guarded(sample(36)), "0" * 5):
            for place in range(len(text)):
                for other in OTHER_SIGNS:
                    self.assert_says(False, is_good, replaced(text, place, other))

    def test_put_into_a_good_text(self):
        for length in (0, 3, 35, 36):
            self.assert_all_said(False, is_good, with_other_signs(guarded(sample(length))))

    def test_a_good_text_in_capital_letters(self):
        self.assert_all_said(False, is_good, ["ABE", "abE", "1I", "-J"])

    def test_within_a_thousand_signs(self):
        for other in ". A\n":
            for place in (0, 36, 999):
                self.assert_says(False, is_good, replaced("0" * 1000, place, other))


class AskedAgain(Case):
    def test_it_answers_the_same(self):
        texts = [guarded(sample(length)) for length in range(50)] + ["", ".", "A", "1", "a.b"]
        copies = ["".join(list(text)) for text in texts]
        once = [is_good(text) for text in texts]
        self.assertEqual(once, [True] * 50 + [False] * 5)
        self.assertEqual([is_good(text) for text in texts], once)
        self.assertEqual(texts, copies)


if __name__ == "__main__":
    unittest.main()
