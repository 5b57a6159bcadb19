"""The errors by which the program refuses what it is handed."""


class GuardError(ValueError):
    pass


class NoSign(GuardError):
    pass


class NoLength(GuardError):
    pass


class NoMend(GuardError):
    pass
