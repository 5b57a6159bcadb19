"""mended: point [9], and point [1] as far as it speaks of it."""

import itertools
import unittest

from guardline.double import doubly, mended
from guardline.errors import NoLength, NoMend, NoSign
from reckoning import (
    Case, OTHER_SIGNS, SIGNS, is_sound, replaced, sample, samples, sound_texts_near, swapped, with_other_signs,
)


class Mended(Case):
    def assert_mended(self, text, answer):
        with self.subTest(text=text):
            self.assertIs(type(mended(text)), str)
            self.assertEqual(mended(text), answer)

    def test_some_worked_out_by_hand(self):
        for text in ("1z1", "0z1", "9z1", "101", "1-1", "1z0", "1za"):
            self.assert_mended(text, "1z1")
        for text in ("00", "0a", "-0", "10", "01"):
            self.assert_mended(text, "00")

    def test_sound_texts_to_themselves(self):
        for length in range(35):
            for word in samples(length):
                text = doubly(word)
                self.assertTrue(is_sound(text))
                self.assert_mended(text, text)

    def test_each_single_sign_replaced_by_each_other_sign(self):
        for length in range(35):
            text = doubly(sample(length, length))
            for place in range(len(text)):
                for sign in SIGNS.replace(text[place], ""):
                    self.assert_mended(replaced(text, place, sign), text)

    def test_the_first_and_the_last_sign_of_more_texts(self):
        for length in (0, 1, 2, 33, 34):
            for word in samples(length):
                text = doubly(word)
                for place in (0, len(text) - 2, len(text) - 1):
                    for sign in SIGNS.replace(text[place], ""):
                        self.assert_mended(replaced(text, place, sign), text)


class MendedOrRefused(Case):
    def check(self, text):
        near = sound_texts_near(text)
        self.assertLessEqual(len(near), 1)
        if near:
            self.assertTrue(is_sound(near[0]))
            with self.subTest(text=text):
                self.assertEqual(mended(text), near[0])
        else:
            self.assert_refused(NoMend, mended, text)
        return len(near)

    def test_each_two_signs_behind_a_word(self):
        # The two signs bring about each two loads, so that each way to be mended or refused comes about.
        for length in (0, 1, 2, 9, 33, 34):
            word = sample(length, 8)
            found = [self.check(word + one + other) for one, other in itertools.product(SIGNS, repeat=2)]
            # One sound text, and 36 wrong signs at each place.
            self.assertEqual(sum(found), 1 + 36 * (length + 2))

    def test_samples_of_each_length(self):
        for length in range(2, 37):
            for text in samples(length):
                self.check(text)

    def test_neighbours_changed_places(self):
        for length in (1, 5, 34):
            text = doubly(sample(length, 4))
            for place in range(len(text) - 1):
                self.check(swapped(text, place))


class NoMendThere(Case):
    def check(self, text):
        self.assertEqual(sound_texts_near(text), [])
        self.assert_refused(NoMend, mended, text)

    def test_each_text_of_two_wrong_signs(self):
        for first in SIGNS[1:]:
            for second in SIGNS[1:]:
                self.check(first + second)

    def test_the_place_told_is_the_one_behind_the_text(self):
        for length in range(2, 36):
            longer = [doubly(sample(length - 1, start)) for start in range(1, 6)]
            cut = [text[:-1] for text in longer if text[-1] != "0"]
            self.assertTrue(cut)
            for text in cut:
                self.check(text)

    def test_only_the_plain_load_alike_to_nought(self):
        for length in range(2, 37):
            self.check("1" + "0" * (length - 2) + "-")

    def test_only_the_weighed_load_alike_to_nought(self):
        # The weights 1 and 2: 1 + 2 * 18 is 37. The weights 1 and 36: 1 + 36 is 37.
        for length in range(2, 37):
            self.check("1i" + "0" * (length - 2))
        self.check("1" + "0" * 34 + "1")


class Refused(Case):
    def test_another_sign_alone(self):
        self.assert_all_refused(NoSign, mended, OTHER_SIGNS)

    def test_another_sign_in_a_length_that_could_be_mended(self):
        for length in (0, 1, 7, 33):
            self.assert_all_refused(NoSign, mended, with_other_signs(doubly(sample(length))))

    def test_another_sign_where_the_length_is_refused_too(self):
        for length in (36, 37, 1000):
            for sign in OTHER_SIGNS:
                texts = [sign + "0" * length, "0" * length + sign, sample(length) + sign + sample(length)]
                self.assert_all_refused(NoSign, mended, texts)

    def test_another_sign_where_there_is_no_mending_either(self):
        self.assert_all_refused(NoSign, mended, ["1i" + sign for sign in OTHER_SIGNS])
        self.assert_all_refused(NoSign, mended, [sign + sign for sign in OTHER_SIGNS])
        self.assert_all_refused(NoSign, mended, ["ab\ncd", "a.b", "..", "1Z1", "1z1\n", " 00"])

    def test_fewer_than_2_signs(self):
        self.assert_refused(NoLength, mended, "")
        self.assert_all_refused(NoLength, mended, SIGNS)

    def test_more_than_36_signs(self):
        for length in (37, 38, 72, 73, 1000, 1001):
            self.assert_all_refused(NoLength, mended, samples(length))

    def test_more_than_36_signs_with_loads_that_could_be_mended(self):
        self.assert_all_refused(NoLength, mended, [doubly(sample(34)) + "0", "1z1" + "0" * 34, "0" * 36 + "1"])


class AskedAgain(Case):
    def test_it_answers_the_same_also_after_a_refusal(self):
        texts = [replaced(doubly(sample(length)), length // 2, "7") for length in range(35)]
        copies = ["".join(list(text)) for text in texts]
        once = [mended(text) for text in texts]
        for refusal, text in ((NoSign, "a.b"), (NoLength, "0"), (NoMend, "11")):
            self.assert_refused(refusal, mended, text)
        self.assertEqual([mended(text) for text in texts], once)
        self.assertEqual(texts, copies)


if __name__ == "__main__":
    unittest.main()
