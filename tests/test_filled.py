"""filled: point [7], and point [1] as far as it speaks of it."""

import unittest

from guardline.errors import NoSign
from guardline.single import filled, guarded
from reckoning import Case, OTHER_SIGNS, SIGNS, is_good, replaced, sample, samples

NO_SIGN_NO_GAP = [sign for sign in OTHER_SIGNS if sign != "."]


class Filled(Case):
    def check(self, text, place):
        with self.subTest(text=text, place=place):
            gapped = replaced(text, place, ".")
            fitting = [replaced(text, place, sign) for sign in SIGNS if is_good(replaced(text, place, sign))]
            answer = filled(gapped)
            self.assertIs(type(answer), str)
            self.assertEqual(fitting, [answer])

    def test_some_worked_out_by_hand(self):
        # ".i": 2 * 18 is 36, so the gap has the number 1. "a.e": 10 + 3 * 14 is 52, and 52 + 2 * 11 is 74.
        pairs = [(".i", "1i"), ("1.", "1i"), ("a.e", "abe"), ("ab.", "abe"), (".be", "abe"), (".0", "00")]
        for text, answer in pairs + [("0.0", "000")]:
            with self.subTest(text=text):
                self.assertEqual(filled(text), answer)

    def test_the_gap_alone(self):
        self.assertEqual(filled("."), "0")

    def test_each_text_of_a_gap_and_a_sign(self):
        for sign in SIGNS:
            self.check("0" + sign, 0)
            self.check(sign + "0", 1)

    def test_a_gap_at_each_place_of_texts_that_are_good_or_not(self):
        for length in (1, 2, 3, 10, 35, 36, 37, 38, 73, 80):
            for word in (sample(length, 3), sample(length, 20)):
                for place in range(length):
                    self.check(word, place)

    def test_the_places_where_the_weights_begin_again(self):
        for length in (36, 37, 38, 62, 73, 109):
            for word in samples(length):
                for place in (0, length // 2, 34, 35, length - 1):
                    self.check(word, place)
        for word in samples(110):
            for place in (35, 36, 37, 70, 71, 72, 73, 107, 108):
                self.check(word, place)

    def test_a_thousand_signs_and_somewhat_beyond(self):
        for length in (999, 1000, 1001, 1500):
            for place in (0, 35, 36, 500, 998, length - 1):
                self.check(sample(length, 7), place)

    def test_a_good_text_with_any_sign_made_a_gap_is_filled_to_itself(self):
        for length in (0, 1, 2, 9, 34, 35, 36, 37, 72, 100):
            for word in samples(length):
                text = guarded(word)
                for place in range(len(text)):
                    with self.subTest(text=text, place=place):
                        self.assertEqual(filled(replaced(text, place, ".")), text)


class Refused(Case):
    def test_the_empty_text(self):
        self.assert_refused(NoSign, filled, "")

    def test_no_gap(self):
        for length in (1, 2, 35, 36, 37, 1000):
            self.assert_all_refused(NoSign, filled, samples(length))
        self.assert_all_refused(NoSign, filled, [guarded(sample(length)) for length in (0, 1, 9, 36)])

    def test_no_gap_but_another_sign(self):
        self.assert_all_refused(NoSign, filled, NO_SIGN_NO_GAP + ["a" + sign + "b" for sign in NO_SIGN_NO_GAP])

    def test_two_gaps_or_more(self):
        self.assert_all_refused(NoSign, filled, ["..", "...", ".a.", "a..", "..a", "a..b", ".0.", "." * 37, "." * 1000])
        word = sample(40)
        for first in range(39):
            for second in (first + 1, 39):
                self.assert_refused(NoSign, filled, replaced(replaced(word, first, "."), second, "."))

    def test_one_gap_and_another_sign(self):
        for sign in NO_SIGN_NO_GAP:
            texts = ["." + sign, sign + ".", "a." + sign, sign + ".a", ".a" + sign, sign + "a.", "a" + sign + ".b"]
            self.assert_all_refused(NoSign, filled, texts)
            self.assert_refused(NoSign, filled, replaced(sample(40), 36, ".") + sign)
            self.assert_refused(NoSign, filled, sign + replaced(sample(40), 39, "."))

    def test_two_gaps_and_another_sign(self):
        self.assert_all_refused(NoSign, filled, [". .", "..A", "A..", ".\n."])


class AskedAgain(Case):
    def test_it_answers_the_same_also_after_a_refusal(self):
        texts = [replaced(sample(40), place, ".") for place in range(40)]
        copies = ["".join(list(text)) for text in texts]
        once = [filled(text) for text in texts]
        self.assert_refused(NoSign, filled, "a..b")
        self.assertEqual([filled(text) for text in texts], once)
        self.assertEqual(texts, copies)


if __name__ == "__main__":
    unittest.main()
