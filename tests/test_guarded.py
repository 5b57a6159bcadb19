"""guarded: points [2] to [5], and point [1] as far as it speaks of it."""

import unittest

from guardline.errors import NoSign
from guardline.single import guarded
from reckoning import Case, OTHER_SIGNS, SIGNS, is_good, replaced, sample, samples, with_other_signs


class TheGuardSign(Case):
    def check(self, word):
        with self.subTest(word=word):
            answer = guarded(word)
            self.assertIs(type(answer), str)
            self.assertEqual([word + sign for sign in SIGNS if is_good(word + sign)], [answer])

    def test_some_worked_out_by_hand(self):
        # Behind "1" the guard sign has the weight 2: 1 + 2 * 18 is 37.
        # Behind "ab" it has the weight 3: 10 + 2 * 11 + 3 * 14 is 74.
        # Behind 35 signs it has the weight 36, which is alike to -1: the load itself.
        # Behind 36 signs it has the weight 1 again: the load below nought.
        for word, sign in (("1", "i"), ("ab", "e"), ("2" + "0" * 34, "2"), ("2" + "0" * 35, "z"), ("-", "j")):
            with self.subTest(word=word):
                self.assertEqual(guarded(word), word + sign)

    def test_the_empty_word(self):
        self.assertEqual(guarded(""), "0")
        self.check("")

    def test_each_word_of_one_sign(self):
        for sign in SIGNS:
            self.check(sign)

    def test_each_word_of_two_signs(self):
        for first in SIGNS:
            for second in SIGNS:
                self.check(first + second)

    def test_each_length_to_beyond_the_second_round_of_weights(self):
        for length in range(112):
            self.check(sample(length, length))

    def test_where_the_weights_begin_again(self):
        for length in (34, 35, 36, 37, 38, 61, 62, 63, 71, 72, 73):
            for word in samples(length):
                self.check(word)

    def test_a_thousand_signs(self):
        for length in (998, 999, 1000):
            for word in samples(length):
                self.check(word)

    def test_somewhat_beyond_a_thousand_signs_is_not_refused(self):
        for length in (1001, 1002, 1500):
            for word in samples(length):
                self.check(word)


class Refused(Case):
    def test_another_sign_alone(self):
        self.assert_all_refused(NoSign, guarded, OTHER_SIGNS)

    def test_some_by_name(self):
        texts = [".", " ", "A", "Z", "\n", "..", "ab.", ".ab", "a b", "aBc", "ab\n", "\nab", "a_b", "a+b"]
        self.assert_all_refused(NoSign, guarded, texts)

    def test_another_sign_at_the_beginning_in_the_middle_at_the_end(self):
        for length in (1, 2, 3, 9, 35, 36, 37):
            self.assert_all_refused(NoSign, guarded, with_other_signs(sample(length)))

    def test_another_sign_within_a_thousand(self):
        for sign in ". A\n":
            for place in (0, 35, 36, 500, 999):
                self.assert_refused(NoSign, guarded, replaced(sample(1000), place, sign))


class AskedAgain(Case):
    def test_it_answers_the_same_also_after_a_refusal(self):
        words = [sample(length) for length in range(80)]
        copies = ["".join(list(word)) for word in words]
        once = [guarded(word) for word in words]
        self.assert_refused(NoSign, guarded, "a.b")
        self.assertEqual([guarded(word) for word in words], once)
        self.assertEqual(words, copies)


if __name__ == "__main__":
    unittest.main()
