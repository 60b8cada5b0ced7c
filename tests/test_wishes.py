import unittest

import by_words
from fixedcakes.triangles import cake_colours, choice, wishes


class WishesTest(unittest.TestCase):

    def test_size_one(self):
        for v in by_words.all_cakes(1, (0, 1, 1000)):
            self.assertEqual(wishes(1, 0, v), [9, 0, 0, 2, 1, 0, 0, 0, 1, 1])
            self.assertEqual(wishes(1, 1, v), [-2])

    def test_every_room_of_size_two(self):
        # Whose places, by j: 0 1 2, 2 0, 1. Person 0 likes slice 1 at (1, 1), person 1 slice 0 at (1, 0), and to
        # person 2 both are alike at (0, 1).
        v = [1, 2, 3, 1, 1, 1]
        self.assertEqual(wishes(2, 0, v), [9, 0, 0, 2, 1, 0, 0, 0, 1, 1])
        self.assertEqual(wishes(2, 1, v), [9, 1, 1, 1, 1, 0, 0, 0, 1, 1])
        self.assertEqual(wishes(2, 2, v), [9, 1, 1, 1, 1, 0, 0, 2, 0, 0])
        self.assertEqual(wishes(2, 3, v), [9, 1, 1, 1, 0, 2, 1, 0, 1, 1])
        self.assertEqual(wishes(2, 4, v), [-2])

    def test_every_room_of_size_three(self):
        # Whose places, by j: 0 1 2 0, 2 0 1, 1 2, 0; what they like there: 2 2 2 0, 2 0 0, 1 1, 1.
        v = [4, 1, 3, 0, 5, 5, 2, 2, 9]
        self.assertEqual(wishes(3, 0, v), [9, 0, 0, 2, 1, 0, 2, 0, 1, 2])
        self.assertEqual(wishes(3, 1, v), [9, 1, 1, 0, 1, 0, 2, 0, 1, 2])
        self.assertEqual(wishes(3, 2, v), [9, 1, 1, 0, 1, 0, 2, 2, 0, 2])
        self.assertEqual(wishes(3, 3, v), [9, 1, 1, 0, 2, 1, 0, 2, 0, 2])
        self.assertEqual(wishes(3, 4, v), [9, 3, 0, 0, 2, 1, 0, 2, 0, 2])
        self.assertEqual(wishes(3, 5, v), [9, 1, 1, 0, 0, 2, 1, 0, 1, 2])
        self.assertEqual(wishes(3, 6, v), [9, 1, 1, 0, 0, 2, 1, 1, 2, 1])
        self.assertEqual(wishes(3, 7, v), [9, 1, 1, 0, 2, 1, 0, 1, 2, 1])
        self.assertEqual(wishes(3, 8, v), [9, 0, 3, 1, 0, 2, 1, 1, 2, 1])
        self.assertEqual(wishes(3, 9, v), [-2])

    def test_first_and_last_rooms_of_size_nine(self):
        # All like the last slice best, so the last piece that isn't empty.
        v = ([0] * 8 + [1000]) * 3
        self.assertEqual(wishes(9, 0, v), [9, 0, 0, 2, 1, 0, 2, 0, 1, 2])
        # The first room that points down, and the last one.
        self.assertEqual(wishes(9, 1, v), [9, 1, 1, 2, 1, 0, 2, 0, 1, 2])
        self.assertEqual(wishes(9, 78, v), [9, 1, 7, 2, 0, 8, 2, 1, 8, 1])
        self.assertEqual(wishes(9, 80, v), [9, 0, 9, 1, 0, 8, 2, 1, 8, 1])
        # The last room of the first row.
        self.assertEqual(wishes(9, 16, v), [9, 9, 0, 0, 8, 1, 1, 8, 0, 2])

    def test_everybody_finds_each_slice_alike(self):
        # The longest piece, of like ones the first. Size 4, person 0 at (1, 1) and person 2 at (1, 2); person 1 at
        # (2, 1), or, in the room before, at (0, 2), where the first piece is empty and the others are alike.
        for alike in (1, 1000):
            self.assertEqual(wishes(4, 9, [alike] * 12), [9, 1, 1, 2, 2, 1, 0, 1, 2, 1])
            self.assertEqual(wishes(4, 8, [alike] * 12), [9, 1, 1, 2, 0, 2, 1, 1, 2, 1])

    def test_nothing_is_worth_anything_to_somebody(self):
        # That one likes the first piece that isn't empty; the others the last, for the last slice.
        for m in by_words.SIZES:
            last = [0] * (m - 1) + [1]
            for c in (0, 1, 2):
                rows = [last, last, last]
                rows[c] = [0] * m
                for room in range(m * m):
                    answer = wishes(m, room, rows[0] + rows[1] + rows[2])
                    for person in (0, 1, 2):
                        i, j, piece = answer[3 * person + 1:3 * person + 4]
                        filled = [k for k, number in enumerate(by_words.numbers(m, (i, j))) if number > 0]
                        self.assertEqual(piece, filled[0] if person == c else filled[-1])

    def test_a_slice_worth_nothing(self):
        # Size 3, room 5: person 0 at (1, 1), person 1 at (0, 2), person 2 at (0, 1).
        self.assertEqual(wishes(3, 5, [0, 1, 2, 0, 3, 4, 0, 6, 1]), [9, 1, 1, 2, 0, 2, 2, 0, 1, 2])
        self.assertEqual(wishes(3, 5, [1, 0, 2, 5, 0, 4, 9, 0, 1]), [9, 1, 1, 2, 0, 2, 1, 0, 1, 1])
        self.assertEqual(wishes(3, 5, [1, 2, 0, 1, 2, 0, 1, 2, 0]), [9, 1, 1, 1, 0, 2, 1, 0, 1, 2])

    def test_two_pieces_worth_as_much(self):
        # Size 3, room 7: person 0 at (1, 1), person 1 at (2, 1), person 2 at (1, 2). The first of like ones.
        self.assertEqual(wishes(3, 7, [5, 5, 1, 2, 2, 4, 6, 3, 3]), [9, 1, 1, 0, 2, 1, 0, 1, 2, 0])
        self.assertEqual(wishes(3, 7, [1, 5, 5, 2, 2, 5, 6, 3, 4]), [9, 1, 1, 1, 2, 1, 1, 1, 2, 1])

    def test_first_piece_empty(self):
        # Size 2: person 2 at (0, 1) likes piece 1 or 2, never piece 0, though nothing's worth anything.
        self.assertEqual(wishes(2, 0, [0] * 6), [9, 0, 0, 2, 1, 0, 0, 0, 1, 1])
        self.assertEqual(wishes(2, 1, [0] * 6), [9, 1, 1, 0, 1, 0, 0, 0, 1, 1])
        self.assertEqual(wishes(2, 3, [0] * 6), [9, 1, 1, 0, 0, 2, 1, 0, 1, 1])

    def test_each_persons_corner_stands_at_that_persons_place(self):
        orders = {}
        for m in by_words.SIZES:
            v = by_words.mixed_cakes(m, 1, 1000)[0]
            for room, corners in enumerate(by_words.rooms(m)):
                answer = wishes(m, room, v)
                told = list(zip(answer[1::3], answer[2::3], strict=True))
                self.assertEqual([(i + 2 * j) % 3 for i, j in told], [0, 1, 2])
                self.assertEqual(sorted(told), sorted(corners))
                orders[tuple(told.index(corner) for corner in corners)] = True
        # Among all rooms the three stand round in every order that there is.
        self.assertEqual(len(orders), 6)

    def test_as_the_words_say(self):
        for m, v in by_words.tried_cakes():
            with self.subTest(m=m, v=v):
                for room in range(m * m):
                    answer = wishes(m, room, list(v))
                    by_words.check_form(self, answer)
                    self.assertEqual(answer, by_words.wishes(m, room, list(v)))

    def test_pieces_are_choices_and_colours(self):
        for m, v in by_words.tried_cakes()[::3]:
            told = dict(zip(by_words.places(m), cake_colours(m, list(v))[1:], strict=True))
            for room in range(m * m):
                answer = wishes(m, room, list(v))
                self.assertEqual(len(answer), 10)
                for c in (0, 1, 2):
                    i, j, piece = answer[3 * c + 1:3 * c + 4]
                    self.assertEqual(piece, told[(i, j)])
                    self.assertEqual(choice(m, c, i, j, list(v)), [piece])

    def test_no_such_room(self):
        for m in by_words.SIZES:
            for v in (by_words.mixed_cakes(m, 1, 1000)[0], [0] * (3 * m)):
                self.assertEqual(wishes(m, m * m - 1, v)[0], 9)
                for room in (m * m, m * m + 1, m * m + m, 2 * m * m, 82, 65536, 2 ** 31, by_words.LARGEST):
                    with self.subTest(m=m, room=room):
                        answer = wishes(m, room, v)
                        by_words.check_form(self, answer)
                        self.assertEqual(answer, [-2])

    def test_just_the_rooms_that_there_are(self):
        for m in by_words.SIZES:
            v = by_words.mixed_cakes(m, 1, 1000)[0]
            for room in range(120):
                self.assertEqual(wishes(m, room, v) == [-2], room >= len(by_words.rooms(m)))

    def test_refusals(self):
        for m, v in by_words.wrong_cakes():
            with self.subTest(m=m, v=v):
                answer = wishes(m, 0, v)
                by_words.check_form(self, answer)
                self.assertEqual(answer, [-22])

    def test_wrong_cake_is_told_before_a_room_that_isnt_there(self):
        for m, v in by_words.wrong_cakes():
            with self.subTest(m=m, v=v):
                for room in (1, 81, 82, 100, 65536, by_words.LARGEST):
                    self.assertEqual(wishes(m, room, v), [-22])

    def test_nothing_changed_nothing_kept(self):
        for m, v in by_words.tried_cakes()[::3] + tuple(by_words.wrong_cakes()):
            by_words.check_kept_apart(self, wishes, (m, 0), v)
            by_words.check_kept_apart(self, wishes, (m, m * m - 1 if m > 0 else 0), v)
            by_words.check_kept_apart(self, wishes, (m, m * m), v)


if __name__ == "__main__":
    unittest.main()
