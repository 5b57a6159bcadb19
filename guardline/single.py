"""Words with one guard sign, by which a wrong sign is noticed or a gap is filled."""

from guardline.errors import NoSign
from guardline.signs import sign_of, turned
from guardline.words import is_word, refuse_other_signs, weighed_load, weight_of

GAP = "."


def guarded(word):
    # Without this a word with a gap would be refused for two gaps, which is not what is wrong with it.
    refuse_other_signs(word)
    return filled(word + GAP)


def is_good(text):
    return text != "" and is_word(text) and weighed_load(text) == 0


def filled(text):
    if text.count(GAP) != 1:
        raise NoSign("the text has no gap or more than one")
    # The sign of nought adds nothing to a load, so this has the load of all the other signs.
    rest = text.replace(GAP, sign_of(0))
    refuse_other_signs(rest)
    weight = weight_of(text.index(GAP))
    return text.replace(GAP, sign_of(-weighed_load(rest) * turned(weight)))
