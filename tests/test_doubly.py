"""doubly: point [8], and point [1] as far as it speaks of it."""

import unittest

import guardline.double
from guardline.double import doubly
from guardline.errors import NoLength, NoSign
from reckoning import (
    Case, NUMBERS, OTHER_SIGNS, SIGNS, is_sound, plain_load, sample, samples, weighed_load, with_other_signs,
)


def sound_with_two_signs(word):
    plain = plain_load(word)
    weighed = weighed_load(word)
    weight = len(word) + 1
    found = []
    for first, one in NUMBERS.items():
        for second, other in NUMBERS.items():
            if (plain + one + other) % 37 == 0 and (weighed + one * weight + other * (weight + 1)) % 37 == 0:
                found.append(word + first + second)
    return found


class TheTwoGuardSigns(Case):
    def check(self, word):
        with self.subTest(word=word):
            answer = doubly(word)
            self.assertIs(type(answer), str)
            self.assertEqual(sound_with_two_signs(word), [answer])
            self.assertTrue(is_sound(answer))
            self.assertIs(guardline.double.is_sound(answer), True)

    def test_some_worked_out_by_hand(self):
        # "1z1": 1 + 35 + 1 is 37, and 1 + 2 * 35 + 3 * 1 is 74.
        # "1", 33 times "0" and "2y": 1 + 2 + 34 is 37, and 1 + 35 * 2 + 36 * 34 is 35 times 37.
        longest = "1" + "0" * 33
        for word, answer in (("", "00"), ("0", "000"), ("1", "1z1"), ("2", "2x2"), (longest, longest + "2y")):
            with self.subTest(word=word):
                self.assertEqual(doubly(word), answer)

    def test_the_empty_word(self):
        self.check("")

    def test_each_word_of_one_and_of_two_signs(self):
        for first in SIGNS:
            self.check(first)
            for second in "01ai-":
                self.check(first + second)

    def test_each_length(self):
        for length in range(35):
            for word in samples(length):
                self.check(word)

    def test_each_sign_at_each_end_of_the_longest_words(self):
        for length in (33, 34):
            for sign in SIGNS:
                self.check(sign + sample(length - 1))
                self.check(sample(length - 1) + sign)


class Refused(Case):
    def test_another_sign_alone(self):
        self.assert_all_refused(NoSign, doubly, OTHER_SIGNS)

    def test_another_sign_at_the_beginning_in_the_middle_at_the_end(self):
        for length in (1, 2, 3, 33, 34):
            self.assert_all_refused(NoSign, doubly, with_other_signs(sample(length)))

    def test_another_sign_where_the_length_is_refused_too(self):
        for length in (35, 36, 37, 1000):
            self.assert_all_refused(NoSign, doubly, with_other_signs(sample(length)))

    def test_a_length_beyond_34(self):
        for length in (35, 36, 37, 38, 71, 72, 1000, 1001, 1500):
            self.assert_all_refused(NoLength, doubly, samples(length))


class AskedAgain(Case):
    def test_it_answers_the_same_also_after_a_refusal(self):
        words = [sample(length) for length in range(35)]
        copies = ["".join(list(word)) for word in words]
        once = [doubly(word) for word in words]
        self.assert_refused(NoSign, doubly, "a.b")
        self.assert_refused(NoLength, doubly, "0" * 35)
        self.assertEqual([doubly(word) for word in words], once)
        self.assertEqual(words, copies)


if __name__ == "__main__":
    unittest.main()
