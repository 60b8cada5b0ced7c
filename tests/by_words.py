"""The document's words, followed step by step, and maps and cakes to try: what the tests hold the program against."""

from functools import lru_cache

LARGEST = 4294967295
SIZES = range(1, 10)


@lru_cache(maxsize=None)
def places(m):
    found = [(i, j) for i in range(m + 1) for j in range(m + 1) if i + j <= m]
    return tuple(sorted(found, key=lambda place: (place[1], place[0])))


def numbers(m, place):
    i, j = place
    return (i, j, m - i - j)


def as_sending(m, f):
    """The map as a dict from place to place."""
    pairs = zip(f[0::2], f[1::2], strict=True)
    return dict(zip(places(m), pairs, strict=True))


def as_list(m, sending):
    """The map as the flat list that is handed in; sending is a function of m, i and j."""
    flat = []
    for i, j in places(m):
        flat.extend(sending(m, i, j))
    return flat


def colours(m, f):
    """The colour of each place, as a dict."""
    found = {}
    for place, target in as_sending(m, f).items():
        for colour, (here, there) in enumerate(zip(numbers(m, place), numbers(m, target), strict=True)):
            if here != 0 and not there > here:
                found[place] = colour
                break
    return found


def map_colours(m, f):
    told = colours(m, f)
    return [len(places(m))] + [told[place] for place in places(m)]


def fixed(m, f):
    held = [place for place, target in as_sending(m, f).items() if place == target]
    answer = [len(held)]
    for i, j in held:
        answer += [i, j]
    return answer


def shifts(m, i, j, f):
    here = numbers(m, (i, j))
    there = numbers(m, as_sending(m, f)[(i, j)])
    return [3] + [b - a for a, b in zip(here, there, strict=True)]


@lru_cache(maxsize=None)
def rooms(m):
    found = []
    for i, j in places(m):
        if i + j < m:
            found.append(((i, j), (i + 1, j), (i, j + 1)))
        if i + j < m - 1:
            found.append(((i + 1, j + 1), (i, j + 1), (i + 1, j)))
    return tuple(found)


def round_on_the_left(corners):
    return list(zip(corners, corners[1:] + corners[:1], strict=True))


@lru_cache(maxsize=None)
def outer_sides(m):
    return tuple(frozenset({(i + 1, m - i - 1), (i, m - i)}) for i in range(m))


@lru_cache(maxsize=None)
def beyond(m, room, side):
    """What's on the other side of a room's side: another room, an outer side, or nothing."""
    for other, corners in enumerate(rooms(m)):
        if other != room and side <= frozenset(corners):
            return other
    if side in outer_sides(m):
        return len(rooms(m)) + outer_sides(m).index(side)
    return None


def next_after(m, told, point):
    """The point next after this one by the colours told, None where there's none."""
    if point < len(rooms(m)):
        for a, b in round_on_the_left(rooms(m)[point]):
            if (told[a], told[b]) == (1, 0):
                return beyond(m, point, frozenset({a, b}))
        return None
    side = outer_sides(m)[point - len(rooms(m))]
    for room, corners in enumerate(rooms(m)):
        for a, b in round_on_the_left(corners):
            if side == {a, b} and (told[a], told[b]) == (0, 1):
                return room
    return None


def lines(m, told):
    """The lines that begin at outer sides, from side 0 on, each as all its points."""
    found = []
    for start in range(len(rooms(m)), len(rooms(m)) + m):
        line = [start]
        while next_after(m, told, line[-1]) is not None:
            line.append(next_after(m, told, line[-1]))
        if len(line) > 1:
            found.append(line)
    return found


def first_room(m, told):
    ends = [line[-1] for line in lines(m, told)]
    return next(end for end in ends if end < len(rooms(m)))


def nearly(m, f):
    told = colours(m, f)
    first = first_room(m, told)
    answer = [first]
    for place in rooms(m)[first]:
        answer += [*place, told[place]]
    return answer


def apart(m, f):
    """How far apart corners are sent, for the whole map."""
    sending = as_sending(m, f)
    most = 0
    for corners in rooms(m):
        for one in corners:
            for other in corners:
                pairs = zip(numbers(m, sending[one]), numbers(m, sending[other]), strict=True)
                most = max([most] + [a - b for a, b in pairs])
    return [most]


def pieces(m, place):
    """The three pieces, each as the numbers of its slices."""
    i, j = place
    row = list(range(m))
    return [row[:i], row[i:i + j], row[i + j:]]


def piece_worth(m, c, place, k, v):
    own = v[m * c:m * (c + 1)]
    total = 0
    for number in pieces(m, place)[k]:
        total += own[number]
    return total


def liked_best(m, c, place, v):
    filled = [k for k in (0, 1, 2) if pieces(m, place)[k] != []]
    most = max(piece_worth(m, c, place, k, v) for k in filled)
    return [k for k in filled if piece_worth(m, c, place, k, v) == most][0]


def choice(m, c, i, j, v):
    return [liked_best(m, c, (i, j), v)]


def worth(m, c, i, j, k, v):
    return [piece_worth(m, c, (i, j), k, v)]


def whose(place):
    i, j = place
    return (i + j + j) % 3


def cake_colours(m, v):
    told = [liked_best(m, whose(place), place, v) for place in places(m)]
    return [len(places(m))] + told


def colours_of_cake(m, v):
    """The colour of each place, as a dict."""
    return dict(zip(places(m), cake_colours(m, v)[1:], strict=True))


def wished_in(m, room, v):
    """Of each person i and j of their corner of the room, and the piece that they like best there."""
    by_person = {}
    for corner in rooms(m)[room]:
        by_person[whose(corner)] = [*corner, liked_best(m, whose(corner), corner, v)]
    return by_person[0] + by_person[1] + by_person[2]


def shared(m, v):
    first = first_room(m, colours_of_cake(m, v))
    return [first] + wished_in(m, first, v)


def wishes(m, k, v):
    return [9] + wished_in(m, k, v)


def envies(m, i, j, v, w):
    answer = [3]
    for c, own in enumerate(w):
        told = sorted(piece_worth(m, c, (i, j), k, v) for k in (0, 1, 2))
        answer.append(told[-1] - piece_worth(m, c, (i, j), own, v))
    return answer


def map_with_colours(m, wanted):
    """A map by which each place has the colour that wanted tells of it."""
    flat = []
    for i, j in places(m):
        here = numbers(m, (i, j))
        for target in places(m):
            fitting = [c for c, there in enumerate(numbers(m, target)) if here[c] != 0 and there <= here[c]]
            if fitting[0] == wanted(m, i, j):
                flat.extend(target)
                break
    return flat


def hold_all(m, i, j):
    return (i, j)


def turn_left(m, i, j):
    """Each corner of the triangle goes to another one, and back after three times."""
    return (m - i - j, i)


def turn_right(m, i, j):
    return (j, m - i - j)


def mirror(m, i, j):
    return (j, i)


def to_first_corner(m, i, j):
    return (m, 0)


def to_second_corner(m, i, j):
    return (0, m)


def to_third_corner(m, i, j):
    return (0, 0)


def to_middle(m, i, j):
    return (m // 3, m // 3)


NAMED = (hold_all, turn_left, turn_right, mirror, to_first_corner, to_second_corner, to_third_corner, to_middle)


def draws(state):
    """Numbers with no plan in them, the same ones each time."""
    while True:
        state = (state * 6364136223846793005 + 1442695040888963407) % 2 ** 64
        yield state >> 33


def mixed_maps(m, how_many):
    """Maps with no plan in them, the same ones each time."""
    drawn = draws(1000003 * m + 17)
    found = []
    for _ in range(how_many):
        flat = []
        for _ in places(m):
            flat.extend(places(m)[next(drawn) % len(places(m))])
        found.append(flat)
    return found


def near_maps(m, how_many):
    """Maps that send each place to itself or to one beside it: their lines wind more than others'."""
    drawn = draws(7919 * m + 5)
    found = []
    for _ in range(how_many):
        flat = []
        for i, j in places(m):
            beside = [(a, b) for a, b in places(m) if max(abs(a - i), abs(b - j), abs(a + b - i - j)) <= 1]
            flat.extend(beside[next(drawn) % len(beside)])
        found.append(flat)
    return found


def all_maps(m):
    """Every map there is; few enough for m of 1 (27) and 2 (46656)."""
    found = [[]]
    for _ in places(m):
        found = [flat + list(target) for flat in found for target in places(m)]
    return found


@lru_cache(maxsize=None)
def tried():
    """Pairs of m and a map, for every size."""
    found = []
    for m in SIZES:
        for sending in NAMED:
            found.append((m, tuple(as_list(m, sending))))
        for f in mixed_maps(m, 40) + near_maps(m, 40):
            found.append((m, tuple(f)))
    for f in all_maps(1) + all_maps(2)[::29]:
        found.append((1 if len(f) == 6 else 2, tuple(f)))
    return tuple(found)


def wrong_maps():
    """Pairs of m and f, to be refused with -22."""
    found = []
    for m in (0, 10, 11, 100, 65536, 2 ** 31, LARGEST - 1, LARGEST):
        for f in ([], [0, 0], [0] * 6, [0] * 110, [0] * 132, [0] * 200, [LARGEST] * 200):
            found.append((m, f))
    for m in SIZES:
        good = as_list(m, hold_all)
        lengths = (0, 1, 2, len(good) - 2, len(good) - 1, len(good) + 1, len(good) + 2, len(good) * 2, 199, 200)
        for length in lengths:
            if length <= 200 and length != len(good):
                found.append((m, (good + [0] * 200)[:length]))
        for place in (0, len(good) // 4, len(good) // 2 - 1):
            for i, j in too_much(m):
                found.append((m, good[:2 * place] + [i, j] + good[2 * place + 2:]))
    return found


def too_much(m):
    """Pairs of numbers that are more than m together."""
    return [
        (m + 1, 0), (0, m + 1), (m, 1), (1, m), (m, m), (m - m // 2, m // 2 + 1),
        (LARGEST, 0), (0, LARGEST), (LARGEST, LARGEST), (LARGEST, 1), (1, LARGEST),
        (2 ** 31, 2 ** 31), (LARGEST - m, m + 1), (65536, 65536),
    ]


def mixed_cakes(m, how_many, most):
    """Cakes whose slices are worth most at most, with no plan in them, the same ones each time."""
    drawn = draws(31337 * m + most)
    return [[next(drawn) % (most + 1) for _ in range(3 * m)] for _ in range(how_many)]


def named_cakes(m):
    """The corners that the document names, and cakes that rise, fall, or have one good slice each."""
    good = mixed_cakes(m, 1, 1000)[0]
    found = [[alike] * (3 * m) for alike in (0, 1, 7, 999, 1000)]
    # Each finds all slices alike, but not like the others.
    found.append([3] * m + [0] * m + [1000] * m)
    for c in (0, 1, 2):
        # Nothing's worth anything to one, or to all but one.
        found.append(good[:m * c] + [0] * m + good[m * (c + 1):])
        found.append([0] * (m * c) + good[m * c:m * (c + 1)] + [0] * (m * (2 - c)))
    for number in range(3 * m):
        # One slice is worth nothing, or nothing but one is worth anything, to somebody.
        found.append(good[:number] + [0] + good[number + 1:])
        found.append([0] * number + [1000] + [0] * (3 * m - number - 1))
    rising = [100 * number for number in range(m)]
    falling = rising[::-1]
    found += [rising * 3, falling * 3, rising + falling + rising, falling + [1] * m + rising]
    return found


def all_cakes(m, worths):
    """Every cake whose slices are worth one of these."""
    found = [[]]
    for _ in range(3 * m):
        found = [flat + [told] for flat in found for told in worths]
    return found


@lru_cache(maxsize=None)
def tried_cakes():
    """Pairs of m and a cake, for every size."""
    found = []
    for m in SIZES:
        # The less the slices are worth, the more pieces are worth as much as others.
        for v in named_cakes(m) + mixed_cakes(m, 12, 1000) + mixed_cakes(m, 12, 3) + mixed_cakes(m, 12, 1):
            found.append((m, tuple(v)))
    for v in all_cakes(1, (0, 1, 1000)):
        found.append((1, tuple(v)))
    for v in all_cakes(2, (0, 1, 2))[::7]:
        found.append((2, tuple(v)))
    return tuple(found)


def wrong_cakes():
    """Pairs of m and v, to be refused with -22."""
    found = []
    for m in (0, 10, 11, 66, 100, 65536, 2 ** 31, LARGEST - 1, LARGEST):
        for length in (0, 1, 3, 27, 30, 33, 198, 200):
            for told in (0, 1000, LARGEST):
                found.append((m, [told] * length))
    for m in SIZES:
        for length in (0, 1, m, 2 * m, 3 * m - 3, 3 * m - 1, 3 * m + 1, 3 * m + 3, 6 * m, 199, 200):
            if length != 3 * m:
                found.append((m, [5] * length))
        good = mixed_cakes(m, 1, 1000)[0]
        for number in range(3 * m):
            for told in (1001, LARGEST):
                found.append((m, good[:number] + [told] + good[number + 1:]))
        for told in (1001, 1002, 65536, 2 ** 31, 2 ** 32 - 1000, LARGEST):
            found.append((m, [told] + [0] * (3 * m - 1)))
            found.append((m, [told] * (3 * m)))
    return found


def all_sharings():
    """Every w that isn't refused, those with a piece told twice or three times among them."""
    return [[a, b, c] for a in (0, 1, 2) for b in (0, 1, 2) for c in (0, 1, 2)]


def wrong_sharings():
    """Each w is to be refused with -22."""
    found = [[told] * length for told in (0, 1, 2) for length in (0, 1, 2, 4, 5, 6, 9, 27, 199, 200)]
    found += [[0, 1], [2, 1], [0, 1, 2, 0], [0, 1, 2, 3], [0, 1, 2] * 2, [3], [LARGEST] * 200]
    for good in ([0, 1, 2], [2, 0, 1], [0, 0, 0]):
        for c in (0, 1, 2):
            for told in (3, 4, 9, 1000, 65536, 2 ** 31, LARGEST - 1, LARGEST):
                found.append(good[:c] + [told] + good[c + 1:])
    found += [[3, 3, 3], [LARGEST] * 3]
    return found


class Untouched(list):
    """A list that can be read, but not changed, not for a while either."""

    def refuse(self, *args, **kwargs):
        raise AssertionError("a list that was handed in was changed")

    __setitem__ = __delitem__ = __iadd__ = __imul__ = refuse
    append = clear = extend = insert = pop = remove = reverse = sort = refuse


def check_form(case, answer):
    """An answer is a list of whole numbers, none of them True or False; a refusal is its number alone."""
    case.assertIs(type(answer), list)
    for number in answer:
        case.assertIs(type(number), int)
    case.assertGreater(len(answer), 0)
    if answer[0] < 0:
        case.assertEqual(len(answer), 1)


def check_kept_apart(case, call, front, *rows):
    """Nothing that is handed in is changed, and nothing is kept from one call to the next."""
    handed = [list(row) for row in rows]
    first = call(*front, *handed)
    case.assertEqual(handed, [list(row) for row in rows])
    case.assertEqual(call(*front, *[Untouched(row) for row in rows]), first)
    # What the caller does with an answer, or with the lists afterwards, is nothing to the next call.
    call(*front, *handed).append(99)
    for row in handed:
        row.clear()
    call(*front, *handed)
    case.assertEqual(call(*front, *[list(row) for row in rows]), first)
