import unittest

import by_words
from fixedcakes.triangles import apart, map_colours, shifts


def as_place(c, own, rest):
    """A place by its numbers: own is number c, rest each of the other two."""
    three = [rest, rest, rest]
    three[c] = own
    return three[:2]


def with_one_far_side(c, one, other):
    """A map of size 9 by which number c is 8 greater where one is sent than where the other is; all else is nearer."""
    told = {one: as_place(c, 9, 0), other: as_place(c, 1, 4)}
    return by_words.as_list(9, lambda m, i, j: told.get((i, j), as_place(c, 5, 2)))


class ApartTest(unittest.TestCase):

    def test_size_one(self):
        self.assertEqual(apart(1, [0, 0, 1, 0, 0, 1]), [1])
        self.assertEqual(apart(1, [1, 0, 0, 1, 0, 0]), [1])
        self.assertEqual(apart(1, [1, 0, 1, 0, 0, 1]), [1])
        self.assertEqual(apart(1, [0, 0, 0, 0, 0, 0]), [0])
        for f in by_words.all_maps(1):
            self.assertEqual(apart(1, f), [0 if f[0:2] == f[2:4] == f[4:6] else 1])

    def test_written_out(self):
        # Size 2: (0, 1) and (1, 1) are sent to (0, 0, 2) and (1, 1, 0), all else to (1, 0, 1).
        self.assertEqual(apart(2, [1, 0, 1, 0, 1, 0, 0, 0, 1, 1, 1, 0]), [2])
        # The same two are sent to (1, 1, 0) and (1, 0, 1), all else to (1, 0, 1).
        self.assertEqual(apart(2, [1, 0, 1, 0, 1, 0, 1, 1, 1, 0, 1, 0]), [1])
        # Size 3: of the room (1, 1), (2, 1), (1, 2) one corner is sent to (3, 0, 0), others to (1, 1, 1).
        self.assertEqual(apart(3, [1, 1] * 6 + [3, 0] + [1, 1] * 3), [2])

    def test_only_corners_of_the_same_room(self):
        # Over the whole triangle numbers are 9 apart, step by step; how far a place itself is sent is nothing to it.
        for m in by_words.SIZES:
            for sending in (by_words.hold_all, by_words.turn_left, by_words.turn_right, by_words.mirror):
                self.assertEqual(apart(m, by_words.as_list(m, sending)), [1])
        # (2, 0) and (0, 0) are no corners of one room: sent 2 apart, (1, 0) and all others in between.
        self.assertEqual(apart(2, [2, 0, 1, 0, 0, 0] + [1, 0] * 3), [1])
        # Beside one another, but across a side, (0, 0) and (1, 1) aren't either.
        self.assertEqual(apart(2, [2, 0] + [1, 0] * 3 + [0, 0] + [1, 0]), [1])

    def test_all_sent_to_one_place(self):
        for m in by_words.SIZES:
            for target in by_words.places(m):
                self.assertEqual(apart(m, by_words.as_list(m, lambda m, i, j: target)), [0])

    def test_a_corner_of_the_triangle_sent_off(self):
        # Such a corner is in one room alone: (0, 0) in the first, (0, m) in the last.
        for m in by_words.SIZES:
            for corner in ((0, 0), (m, 0), (0, m)):
                # Sent to (0, 0, m), others where the third number is 0, the first and second less than m if they can.
                there = (m // 2, m - m // 2)
                f = by_words.as_list(m, lambda m, i, j: (0, 0) if (i, j) == corner else there)
                self.assertEqual(apart(m, f), [m])
                f = by_words.as_list(m, lambda m, i, j: there if (i, j) == corner else (0, 0))
                self.assertEqual(apart(m, f), [m])

    def test_each_number_in_each_room(self):
        # Every side of a room that points down is also one of a room that points up, so none is farther alone.
        for room in by_words.rooms(9):
            for one in room:
                for other in room:
                    for c in (0, 1, 2):
                        if one != other:
                            self.assertEqual(apart(9, with_one_far_side(c, one, other)), [8])

    def test_third_number_in_first_and_last_rooms(self):
        rooms = by_words.rooms(9)
        self.assertEqual(rooms[0], ((0, 0), (1, 0), (0, 1)))
        self.assertEqual(rooms[80], ((0, 8), (1, 8), (0, 9)))
        # The first and the last room that point down.
        self.assertEqual(rooms[1], ((1, 1), (0, 1), (1, 0)))
        self.assertEqual(rooms[78], ((1, 8), (0, 8), (1, 7)))
        for room in (0, 1, 78, 80):
            # Sent to (0, 0, 9), (4, 4, 1), and all others to (2, 2, 5).
            told = {rooms[room][0]: (0, 0), rooms[room][1]: (4, 4)}
            f = by_words.as_list(9, lambda m, i, j: told.get((i, j), (2, 2)))
            self.assertEqual(apart(9, f), [8])

    def test_as_the_words_say(self):
        seen = {}
        for m, f in by_words.tried():
            with self.subTest(m=m, f=f):
                answer = apart(m, list(f))
                by_words.check_form(self, answer)
                self.assertEqual(answer, by_words.apart(m, list(f)))
                seen[answer[0]] = True
        self.assertEqual(sorted(seen), list(range(10)))

    def test_every_map_of_size_two(self):
        for f in by_words.all_maps(2)[::7]:
            self.assertEqual(apart(2, f), by_words.apart(2, f))

    def test_where_colours_meet_places_hold_nearly_still(self):
        for m, f in by_words.tried():
            with self.subTest(m=m, f=f):
                told = dict(zip(by_words.places(m), map_colours(m, list(f))[1:], strict=True))
                most = apart(m, list(f))[0] + 1
                meeting = [room for room in by_words.rooms(m) if {told[place] for place in room} == {0, 1, 2}]
                self.assertGreater(len(meeting), 0)
                for i, j in sum(meeting, ()):
                    moved = shifts(m, i, j, list(f))[1:]
                    self.assertLessEqual(max(moved), most)
                    self.assertGreaterEqual(min(moved), -2 * most)

    def test_refusals(self):
        for m, f in by_words.wrong_maps():
            with self.subTest(m=m, f=f):
                answer = apart(m, f)
                by_words.check_form(self, answer)
                self.assertEqual(answer, [-22])

    def test_nothing_changed_nothing_kept(self):
        for m, f in by_words.tried()[::7] + tuple(by_words.wrong_maps()):
            by_words.check_kept_apart(self, apart, (m,), f)


if __name__ == "__main__":
    unittest.main()
