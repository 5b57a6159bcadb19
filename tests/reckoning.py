"""What the tests share: loads worked out by points [2] to [4], sample texts, and how a refusal is checked."""

import itertools
import unittest

from guardline.errors import GuardError

SIGNS = "0123456789abcdefghijklmnopqrstuvwxyz-"
NUMBERS = {sign: number for number, sign in enumerate(SIGNS)}
OTHER_SIGNS = [chr(code) for code in range(128) if chr(code) not in NUMBERS]


def plain_load(text):
    return sum(NUMBERS[sign] for sign in text)


def weighed_load(text):
    return sum(NUMBERS[sign] * weight for sign, weight in zip(text, itertools.cycle(range(1, 37))))


def is_good(text):
    return len(text) >= 1 and weighed_load(text) % 37 == 0


def is_sound(text):
    return 2 <= len(text) <= 36 and plain_load(text) % 37 == 0 and weighed_load(text) % 37 == 0


def replaced(text, place, sign):
    return text[:place] + sign + text[place + 1:]


def swapped(text, place):
    return text[:place] + text[place + 1] + text[place] + text[place + 2:]


def sound_texts_near(text):
    """Every sound text of 2 to 36 signs that differs from the text in one sign or in none."""
    plain = plain_load(text)
    weighed = weighed_load(text)
    found = {text} if is_sound(text) else set()
    for place, old in enumerate(text):
        for sign in SIGNS:
            step = NUMBERS[sign] - NUMBERS[old]
            if (plain + step) % 37 == 0 and (weighed + step * (place + 1)) % 37 == 0:
                found.add(replaced(text, place, sign))
    return sorted(found)


def sample(length, start=0):
    """A word whose neighbours all differ: the steps from sign to sign go from 1 to 36 and begin again."""
    number = start
    word = ""
    for place in range(length):
        word += SIGNS[number % 37]
        number += 1 + (place * 5 + start) % 36
    return word


def samples(length):
    """Words of one length, of one sign throughout among them."""
    return [sample(length, start) for start in (0, 1, 11, 36)] + [sign * length for sign in "01a-"]


def with_other_signs(word):
    """The word with each other sign at the beginning, in the middle and at the end, put in and in place of a sign."""
    middle = len(word) // 2
    texts = []
    for sign in OTHER_SIGNS:
        texts += [sign + word, word[:middle] + sign + word[middle:], word + sign]
        if word:
            texts += [replaced(word, place, sign) for place in (0, middle, len(word) - 1)]
    return texts


class Case(unittest.TestCase):
    def assert_refused(self, refusal, function, text):
        with self.subTest(text=text):
            for taker in (refusal, GuardError, ValueError):
                with self.assertRaises(taker) as caught:
                    function(text)
                self.assertIs(type(caught.exception), refusal)

    def assert_all_refused(self, refusal, function, texts):
        self.assertTrue(texts)
        for text in texts:
            self.assert_refused(refusal, function, text)

    def assert_says(self, answer, function, text):
        with self.subTest(text=text):
            self.assertIs(function(text), answer)

    def assert_all_said(self, answer, function, texts):
        self.assertTrue(texts)
        for text in texts:
            self.assert_says(answer, function, text)
