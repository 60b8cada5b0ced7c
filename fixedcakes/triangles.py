"""Colours on a triangle: of maps that send its places to places.

Each call gives back a list of whole numbers; a refusal is its number alone.
A place is kept as the tuple (i, j), a map as the flat list that was handed in.
"""

NOT_AS_TOLD = -22
GREATEST_SIZE = 9


def is_size(m):
    return m >= 1 and m <= GREATEST_SIZE


def count_places(m):
    return (m + 1) * (m + 2) // 2


def all_places(m):
    """The places by j, then by i."""
    found = []
    for j in range(m + 1):
        for i in range(m + 1 - j):
            found.append((i, j))
    return found


def place_index(m, place):
    """Where the place stands in all_places(m)."""
    j = place[1]
    # Each row is one place shorter than the row before it, the first has m + 1.
    return j * (m + 1) - j * (j - 1) // 2 + place[0]


def three_numbers(m, place):
    return (place[0], place[1], m - place[0] - place[1])


def is_map(m, f):
    # The size comes first: a list can't be held against one that isn't any.
    if not is_size(m):
        return False
    if len(f) != 2 * count_places(m):
        return False
    for k in range(count_places(m)):
        if f[2 * k] + f[2 * k + 1] > m:
            return False
    return True


def sent_to(m, f, place):
    """The place to which map f sends this one."""
    k = place_index(m, place)
    return (f[2 * k], f[2 * k + 1])


def map_colour(m, f, place):
    here = three_numbers(m, place)
    there = three_numbers(m, sent_to(m, f, place))
    fitting = [c for c in range(3) if here[c] != 0 and there[c] <= here[c]]
    # Both places' numbers are m together, so they can't all be greater there: one always fits.
    return fitting[0]


def colours_of_map(m, f):
    return [map_colour(m, f, place) for place in all_places(m)]


def map_colours(m, f):
    """How many places, then their colours by map f."""
    if not is_map(m, f):
        return [NOT_AS_TOLD]
    return [count_places(m)] + colours_of_map(m, f)


def fixed(m, f):
    """How many places map f sends to themselves, then i and j of each."""
    if not is_map(m, f):
        return [NOT_AS_TOLD]
    held = [place for place in all_places(m) if sent_to(m, f, place) == place]
    answer = [len(held)]
    for place in held:
        answer.extend(place)
    return answer
