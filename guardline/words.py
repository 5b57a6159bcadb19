"""What a word is, the weights of its places, and its two loads, counted round at 37."""

from guardline.errors import NoSign
from guardline.signs import ROUND, SIGNS

WEIGHTS = 36


def is_word(text):
    return all([sign in SIGNS for sign in text])


def refuse_other_signs(text):
    if not is_word(text):
        raise NoSign("the text has another sign than the 37")


def number_of(sign):
    return SIGNS.index(sign)


def weight_of(place):
    return place % WEIGHTS + 1


def plain_load(word):
    return sum([number_of(sign) for sign in word]) % ROUND


def weighed_load(word):
    return sum([number_of(sign) * weight_of(place) for place, sign in enumerate(word)]) % ROUND
