"""Colours on a triangle, of maps that send its places to places and of cakes that are cut at its places.

Each call gives back a list of whole numbers; a refusal is its number alone.
A place is kept as the tuple (i, j), a map or a cake as the flat list that was handed in,
a room as the tuple of its corners, a side as the tuple of the two places it goes from and to.
"""

NOT_AS_TOLD = -22
NOT_THERE = -2
GREATEST_SIZE = 9
GREATEST_WORTH = 1000
NO_POINT = -1


def is_size(m):
    return m >= 1 and m <= GREATEST_SIZE


def count_places(m):
    return (m + 1) * (m + 2) // 2


def all_places(m):
    """The places by j, then by i."""
    found = []
    for j in range(m + 1):
        for i in range(m + 1 - j):
            found.append((i, j))
    return found


def place_index(m, place):
    """Where the place stands in all_places(m)."""
    j = place[1]
    # Each row is one place shorter than the row before it, the first has m + 1.
    return j * (m + 1) - j * (j - 1) // 2 + place[0]


def is_place(m, place):
    return place[0] + place[1] <= m


def three_numbers(m, place):
    """The place's numbers; cut there, they are also how many slices each piece has."""
    return (place[0], place[1], m - place[0] - place[1])


def all_rooms(m):
    """The rooms in their order, each as its corners, so told that one goes round them on the left."""
    found = []
    for j in range(m):
        for i in range(m - j):
            found.append(((i, j), (i + 1, j), (i, j + 1)))
            if i + j < m - 1:
                found.append(((i + 1, j + 1), (i, j + 1), (i + 1, j)))
    return found


def count_rooms(m):
    return m * m


def is_room(m, k):
    return k < count_rooms(m)


def sides_of_points(m):
    """Of each point of the lines its sides: of the rooms, and behind them of the m outer sides."""
    found = []
    for room in all_rooms(m):
        found.append([(room[0], room[1]), (room[1], room[2]), (room[2], room[0])])
    for i in range(m):
        # An outer side is seen from outside, against its room's way round, like any side from the room beyond it:
        # so a door out of its point is one into its room, and one rule holds for all points.
        found.append([((i, m - i), (i + 1, m - i - 1))])
    return found


def points_by_side(sides):
    """Which point has a side, by the side as that point tells it."""
    found = {}
    for point in range(len(sides)):
        for side in sides[point]:
            found[side] = point
    return found


def is_door_out(m, colours, side):
    return colours[place_index(m, side[0])] == 1 and colours[place_index(m, side[1])] == 0


def next_points(m, colours):
    """Of each point what's next after it, NO_POINT where a line ends."""
    sides = sides_of_points(m)
    owners = points_by_side(sides)
    found = []
    for own in sides:
        beyond = [owners[(side[1], side[0])] for side in own if is_door_out(m, colours, side)]
        # Going round three corners one comes from a 1 to a 0 once at most.
        found.append(beyond[0] if len(beyond) > 0 else NO_POINT)
    return found


def end_of_line(following, start):
    # It begins outside, where nothing is before it, and each point is next after one at most: it can't run in a ring.
    point = start
    while following[point] != NO_POINT:
        point = following[point]
    return point


def first_room(m, colours):
    """The first room by fair colours."""
    # The outer sides are the points behind the rooms.
    outside = count_rooms(m)
    following = next_points(m, colours)
    begun = [side for side in range(outside, outside + m) if following[side] != NO_POINT]
    ends = [end_of_line(following, side) for side in begun]
    # By fair colours the outer sides go from a 0 to a 1 in all, so one line more begins at them than ends there.
    return [end for end in ends if end < outside][0]


def is_map(m, f):
    # The size comes first: a list can't be held against one that isn't any.
    if not is_size(m):
        return False
    if len(f) != 2 * count_places(m):
        return False
    for k in range(count_places(m)):
        if f[2 * k] + f[2 * k + 1] > m:
            return False
    return True


def sent_to(m, f, place):
    """The place to which map f sends this one."""
    k = place_index(m, place)
    return (f[2 * k], f[2 * k + 1])


def map_colour(m, f, place):
    here = three_numbers(m, place)
    there = three_numbers(m, sent_to(m, f, place))
    fitting = [c for c in range(3) if here[c] != 0 and there[c] <= here[c]]
    # Both places' numbers are m together, so they can't all be greater there: one always fits.
    return fitting[0]


def colours_of_map(m, f):
    return [map_colour(m, f, place) for place in all_places(m)]


def map_colours(m, f):
    """How many places, then their colours by map f."""
    if not is_map(m, f):
        return [NOT_AS_TOLD]
    return [count_places(m)] + colours_of_map(m, f)


def fixed(m, f):
    """How many places map f sends to themselves, then i and j of each."""
    if not is_map(m, f):
        return [NOT_AS_TOLD]
    held = [place for place in all_places(m) if sent_to(m, f, place) == place]
    answer = [len(held)]
    for place in held:
        answer.extend(place)
    return answer


def shifts(m, i, j, f):
    """3, then how much greater each number of the place is where map f sends it."""
    if not is_map(m, f):
        return [NOT_AS_TOLD]
    if not is_place(m, (i, j)):
        return [NOT_THERE]
    here = three_numbers(m, (i, j))
    there = three_numbers(m, sent_to(m, f, (i, j)))
    return [3] + [there[c] - here[c] for c in range(3)]


def nearly(m, f):
    """The first room, then i, j and the colour by map f of each of its corners."""
    if not is_map(m, f):
        return [NOT_AS_TOLD]
    colours = colours_of_map(m, f)
    room = first_room(m, colours)
    answer = [room]
    for place in all_rooms(m)[room]:
        answer.extend([place[0], place[1], colours[place_index(m, place)]])
    return answer


def apart_in_room(m, f, room):
    """The most by which any number is greater where map f sends one corner than where it sends another."""
    sent = [three_numbers(m, sent_to(m, f, corner)) for corner in room]
    most = 0
    for c in range(3):
        told = [there[c] for there in sent]
        most = max(most, max(told) - min(told))
    return most


def apart(m, f):
    """How far apart map f sends corners of a room."""
    if not is_map(m, f):
        return [NOT_AS_TOLD]
    return [max([apart_in_room(m, f, room) for room in all_rooms(m)])]


def is_cake(m, v):
    # As with maps, the size comes first.
    if not is_size(m):
        return False
    if len(v) != 3 * m:
        return False
    return max(v) <= GREATEST_WORTH


def is_person(c):
    return c < 3


def is_piece(k):
    return k < 3


def piece_worth(m, v, c, place, k):
    """What piece k is worth to person c, cut at the place."""
    lengths = three_numbers(m, place)
    start = c * m + sum(lengths[:k])
    return sum(v[start:start + lengths[k]])


def best_piece(m, v, c, place):
    """The piece that person c likes best, cut at the place."""
    lengths = three_numbers(m, place)
    filled = [k for k in range(3) if lengths[k] != 0]
    best = filled[0]
    for k in filled:
        # Only what's worth more comes before an earlier piece: of like ones the first is liked best.
        if piece_worth(m, v, c, place, k) > piece_worth(m, v, c, place, best):
            best = k
    return best


def whose_place(place):
    return (place[0] + 2 * place[1]) % 3


def colours_of_cake(m, v):
    return [best_piece(m, v, whose_place(place), place) for place in all_places(m)]


def cake_colours(m, v):
    """How many places, then their colours by cake v."""
    if not is_cake(m, v):
        return [NOT_AS_TOLD]
    return [count_places(m)] + colours_of_cake(m, v)


def choice(m, c, i, j, v):
    """Which piece of cake v person c likes best, cut at the place."""
    if not is_cake(m, v):
        return [NOT_AS_TOLD]
    if not (is_place(m, (i, j)) and is_person(c)):
        return [NOT_THERE]
    return [best_piece(m, v, c, (i, j))]


def worth(m, c, i, j, k, v):
    """What piece k of cake v is worth to person c, cut at the place."""
    if not is_cake(m, v):
        return [NOT_AS_TOLD]
    if not (is_place(m, (i, j)) and is_person(c) and is_piece(k)):
        return [NOT_THERE]
    return [piece_worth(m, v, c, (i, j), k)]


def corner_of_person(room, c):
    """The corner of the room that is person c's place."""
    # Round a room, i and twice j go up by one (or down by one) at each step, modulo 3: each person has one corner.
    return [corner for corner in room if whose_place(corner) == c][0]


def wishes_in_room(m, v, room):
    """Of person 0, 1, 2: i and j of their corner of the room, and the piece that they like best there."""
    told = []
    for c in range(3):
        corner = corner_of_person(room, c)
        told.extend([corner[0], corner[1], best_piece(m, v, c, corner)])
    return told


def shared(m, v):
    """The first room by cake v, then of each person their corner of it and the piece that they like best there."""
    if not is_cake(m, v):
        return [NOT_AS_TOLD]
    room = first_room(m, colours_of_cake(m, v))
    return [room] + wishes_in_room(m, v, all_rooms(m)[room])


def wishes(m, k, v):
    """9, then of each person their corner of room k and the piece of cake v that they like best there."""
    if not is_cake(m, v):
        return [NOT_AS_TOLD]
    if not is_room(m, k):
        return [NOT_THERE]
    return [9] + wishes_in_room(m, v, all_rooms(m)[k])


def is_sharing(w):
    """Whether w tells a piece for each of the three people."""
    if len(w) != 3:
        return False
    return is_piece(max(w))


def envy(m, v, c, place, own):
    """By how much the piece that's worth most to person c is worth more to them than their own."""
    worths = [piece_worth(m, v, c, place, k) for k in range(3)]
    return max(worths) - worths[own]


def envies(m, i, j, v, w):
    """3, then the envy of person 0, 1, 2, cut at the place, if they have the pieces of cake v told in w."""
    if not (is_cake(m, v) and is_sharing(w)):
        return [NOT_AS_TOLD]
    if not is_place(m, (i, j)):
        return [NOT_THERE]
    return [3] + [envy(m, v, c, (i, j), w[c]) for c in range(3)]
