"""Words with two guard signs, by which one wrong sign is mended."""

from guardline.errors import NoLength, NoMend
from guardline.signs import ROUND, sign_of, turned
from guardline.words import is_word, number_of, plain_load, refuse_other_signs, weighed_load, weight_of

SHORTEST = 2
LONGEST = 36
LONGEST_WORD = 34


def doubly(word):
    refuse_other_signs(word)
    if len(word) > LONGEST_WORD:
        raise NoLength("the word has more than 34 signs")
    # The second guard sign weighs one more than the first. So both bring into the weighed load what they
    # bring into the plain load, taken times the first one's weight, and the second once more.
    plain = plain_load(word)
    second = weight_of(len(word)) * plain - weighed_load(word)
    first = -plain - second
    return word + sign_of(first) + sign_of(second)


def has_sound_length(text):
    return SHORTEST <= len(text) <= LONGEST


def is_sound(text):
    return has_sound_length(text) and is_word(text) and plain_load(text) == 0 and weighed_load(text) == 0


def mended(text):
    refuse_other_signs(text)
    if not has_sound_length(text):
        raise NoLength("the text has fewer than 2 or more than 36 signs")
    if is_sound(text):
        return text
    # A wrong sign brings its excess into the plain load, and into the weighed load the excess taken
    # times its weight. So the loads tell the weight, and no two places of a sound text weigh the same.
    excess = plain_load(text)
    weight = weighed_load(text) * turned(excess) % ROUND
    if weight == 0 or weight > len(text):
        raise NoMend("no sound text differs from the text in one sign")
    place = weight - 1
    return text[:place] + sign_of(number_of(text[place]) - excess) + text[place + 1:]
