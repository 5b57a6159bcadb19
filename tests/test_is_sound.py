"""is_sound: point [8], what point [9] says of sound texts, and point [1] as far as it speaks of it."""

import itertools
import unittest

import reckoning
from guardline.double import doubly, is_sound
from guardline.single import guarded
from reckoning import Case, OTHER_SIGNS, SIGNS, plain_load, replaced, sample, samples, weighed_load, with_other_signs


class Sound(Case):
    def test_what_doubly_answers(self):
        for length in range(35):
            self.assert_all_said(True, is_sound, [doubly(word) for word in samples(length)])

    def test_noughts_alone(self):
        self.assert_all_said(True, is_sound, ["0" * length for length in range(2, 37)])

    def test_some_worked_out_by_hand(self):
        self.assert_all_said(True, is_sound, ["1z1", "2x2", "01z1", "1z1" + "0" * 33, "0" * 33 + "1z1"])


class NotSound(Case):
    def test_lengths_below_2_and_beyond_36(self):
        for length in (0, 1, 37, 38, 72, 73, 74, 1000, 1001):
            self.assert_all_said(False, is_sound, samples(length))

    def test_lengths_beyond_36_with_both_loads_alike_to_nought(self):
        texts = ["1z1" + "0" * 34, "1" + "0" * 35 + "-", "0" * 36 + "1z1", doubly(sample(34)) + "0", "1" * 36 * 37]
        for text in texts:
            self.assertEqual((plain_load(text) % 37, weighed_load(text) % 37), (0, 0))
        self.assert_all_said(False, is_sound, texts)

    def test_each_text_of_one_sign(self):
        self.assert_all_said(False, is_sound, SIGNS)

    def test_each_text_of_two_signs(self):
        for first in SIGNS:
            for second in SIGNS:
                self.assert_says(first + second == "00", is_sound, first + second)

    def test_only_the_weighed_load_alike_to_nought(self):
        texts = [guarded(sample(length, start)) for length in range(1, 36) for start in range(8)]
        texts = [text for text in texts if plain_load(text) % 37 != 0]
        self.assertEqual({len(text) for text in texts}, set(range(2, 37)))
        self.assert_all_said(False, is_sound, texts)

    def test_only_the_plain_load_alike_to_nought(self):
        words = [sample(length, start) for length in range(1, 36) for start in range(8)]
        texts = [word + SIGNS[-plain_load(word) % 37] for word in words]
        texts = [text for text in texts if weighed_load(text) % 37 != 0]
        self.assertEqual({len(text) for text in texts}, set(range(2, 37)))
        self.assert_all_said(False, is_sound, texts)

    def test_neither_load_alike_to_nought(self):
        self.assert_all_said(False, is_sound, ["01", "10", "ab", "1z2", "1" * 36])

    def test_loads_that_are_only_alike_to_one_another(self):
        self.assert_all_said(False, is_sound, ["10", "50", "-0", "-" + "0" * 35])


class EachTextOfThreeSigns(Case):
    def test_it_is_sound_where_both_loads_say_so(self):
        for signs in itertools.product(SIGNS, repeat=3):
            text = "".join(signs)
            if is_sound(text) is not reckoning.is_sound(text):
                self.fail(text)


class HowFarSoundTextsDiffer(Case):
    def test_two_of_three_or_four_signs_differ_in_three_or_more(self):
        for length in (3, 4):
            words = itertools.product(SIGNS, repeat=length - 2)
            texts = [doubly("".join(word)) for word in words]
            self.assertTrue(all(is_sound(text) for text in texts))
            for one, other in itertools.combinations(texts, 2):
                if sum(a != b for a, b in zip(one, other)) < 3:
                    self.fail((one, other))

    def test_no_other_sound_text_by_one_or_two_signs(self):
        text = doubly(sample(34, 5))
        for first, second in ((0, 1), (0, 35), (17, 18), (1, 34), (34, 35)):
            for one, other in itertools.product(SIGNS, repeat=2):
                near = replaced(replaced(text, first, one), second, other)
                self.assert_says(near == text, is_sound, near)


class AnotherSign(Case):
    def test_alone(self):
        self.assert_all_said(False, is_sound, OTHER_SIGNS)

    def test_in_the_place_of_each_sign_of_a_sound_text(self):
        for text in ("00", "-2-", doubly("-0a-0a"), doubly(sample(34)), "0" * 36):
            for place in range(len(text)):
                for other in OTHER_SIGNS:
                    self.assert_says(False, is_sound, replaced(text, place, other))

    def test_put_into_a_sound_text(self):
        for length in (0, 1, 3, 33, 34):
            self.assert_all_said(False, is_sound, with_other_signs(doubly(sample(length))))

    def test_where_the_length_is_wrong_too(self):
        for length in (0, 37, 1000):
            self.assert_all_said(False, is_sound, with_other_signs("0" * length))

    def test_a_sound_text_in_capital_letters(self):
        self.assert_all_said(False, is_sound, ["1Z1", "2X2"])

    def test_between_each_two_signs_so_that_no_number_for_it_would_do(self):
        for other in (".", " ", "A", "\n"):
            for first, second in itertools.product(SIGNS, repeat=2):
                self.assert_says(False, is_sound, first + other + second)


class AskedAgain(Case):
    def test_it_answers_the_same(self):
        texts = [doubly(sample(length)) for length in range(35)] + ["", "0", "0" * 37, "A", "ab"]
        copies = ["".join(list(text)) for text in texts]
        once = [is_sound(text) for text in texts]
        self.assertEqual(once, [True] * 35 + [False] * 5)
        self.assertEqual([is_sound(text) for text in texts], once)
        self.assertEqual(texts, copies)


if __name__ == "__main__":
    unittest.main()
