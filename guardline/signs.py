"""The 37 signs, and numbers counted round at 37."""

SIGNS = "0123456789abcdefghijklmnopqrstuvwxyz-"
ROUND = 37


def sign_of(number):
    return SIGNS[number % ROUND]


def turned(number):
    # 37 is a prime, so just one candidate fits unless the number is alike to nought.
    for candidate in range(1, ROUND):
        if candidate * number % ROUND == 1:
            return candidate
    return 0
