import unittest

import by_words
from fixedcakes.triangles import cake_colours


def colours_by_place(m, v):
    return dict(zip(by_words.places(m), cake_colours(m, v)[1:], strict=True))


def filled_pieces(m, place):
    return [k for k, number in enumerate(by_words.numbers(m, place)) if number > 0]


def owners(m):
    """Whose each place is, as the colours show it: one likes the first slice alone, the others the last."""
    found = {}
    first = [1000] + [0] * (m - 1)
    last = first[::-1]
    for c in (0, 1, 2):
        rows = [last, last, last]
        rows[c] = first
        for place, colour in colours_by_place(m, rows[0] + rows[1] + rows[2]).items():
            filled = filled_pieces(m, place)
            if len(filled) > 1 and colour == filled[0]:
                found.setdefault(place, []).append(c)
    return found


class CakeColoursTest(unittest.TestCase):

    def test_size_one_has_one_fair_row_of_colours(self):
        for v in by_words.all_cakes(1, (0, 1, 500, 1000)):
            self.assertEqual(cake_colours(1, v), [3, 2, 0, 1])

    def test_size_two(self):
        # (1, 0) is person 1's, who likes slice 0 (3) better than slice 1 (1); (0, 1) is person 2's, to whom both are
        # worth 1; (1, 1) is person 0's, who likes slice 1 (2) better than slice 0 (1).
        self.assertEqual(cake_colours(2, [1, 2, 3, 1, 1, 1]), [6, 2, 0, 0, 1, 1, 1])
        self.assertEqual(cake_colours(2, [2, 1, 1, 3, 1, 2]), [6, 2, 2, 0, 2, 0, 1])

    def test_size_three(self):
        # Whose places, by j: 0 1 2 0, 2 0 1, 1 2, 0.
        # (1, 0): 0 and 10; (2, 0): 4 and 9; (0, 1): 2 and 11; (1, 1): 4, 1, 3; (2, 1): 5 and 5, so the first;
        # (0, 2): 5 and 5, so the first that isn't empty; (1, 2): 2 and 11.
        v = [4, 1, 3, 0, 5, 5, 2, 2, 9]
        self.assertEqual(cake_colours(3, v), [10, 2, 2, 2, 0, 2, 0, 0, 1, 1, 1])

    def test_everybody_finds_each_slice_alike(self):
        # The longest piece, of like ones the first.
        expected = [15, 2, 2, 0, 0, 0, 2, 2, 0, 0, 1, 1, 0, 1, 1, 1]
        for alike in (1, 2, 999, 1000):
            self.assertEqual(cake_colours(4, [alike] * 12), expected)
        self.assertEqual(cake_colours(4, [1] * 4 + [1000] * 4 + [7] * 4), expected)
        self.assertEqual(cake_colours(3, [1] * 9), [10, 2, 2, 0, 0, 2, 0, 0, 1, 1, 1])

    def test_nothing_is_worth_anything_to_anybody(self):
        # The first piece that isn't empty.
        self.assertEqual(cake_colours(3, [0] * 9), [10, 2, 0, 0, 0, 1, 0, 0, 1, 0, 1])
        for m in by_words.SIZES:
            for place, colour in colours_by_place(m, [0] * (3 * m)).items():
                self.assertEqual(colour, filled_pieces(m, place)[0])

    def test_nothing_is_worth_anything_to_somebody(self):
        # Only at that person's places the first piece that isn't empty counts; the others want the last slice.
        for m in by_words.SIZES:
            last = [0] * (m - 1) + [1]
            for c in (0, 1, 2):
                rows = [last, last, last]
                rows[c] = [0] * m
                for (i, j), colour in colours_by_place(m, rows[0] + rows[1] + rows[2]).items():
                    filled = filled_pieces(m, (i, j))
                    self.assertEqual(colour, filled[0] if (i + 2 * j) % 3 == c else filled[-1])

    def test_a_slice_worth_nothing(self):
        # Size 2, slice 0 is worth nothing: (1, 0), (0, 1) and (1, 1) have two pieces, the later one has slice 1.
        self.assertEqual(cake_colours(2, [0, 1] * 3), [6, 2, 2, 0, 2, 1, 1])
        # And slice 1: the earlier one has slice 0.
        self.assertEqual(cake_colours(2, [1, 0] * 3), [6, 2, 0, 0, 1, 0, 1])

    def test_two_pieces_worth_as_much(self):
        # Size 3, (1, 1) is person 0's: the pieces are the slices.
        for worths, colour in (((5, 5, 1), 0), ((5, 1, 5), 0), ((1, 5, 5), 1), ((5, 5, 5), 0), ((0, 0, 1), 2)):
            self.assertEqual(cake_colours(3, list(worths) + [9] * 6)[6], colour)

    def test_first_piece_empty(self):
        # Size 4, (0, 1) is person 2's, (0, 2) person 1's, (0, 3) person 0's.
        v = [1, 1, 1, 4, 5, 1, 3, 3, 6, 2, 2, 2]
        told = colours_by_place(4, v)
        self.assertEqual([told[(0, j)] for j in range(5)], [2, 1, 1, 2, 1])

    def test_greatest_worth(self):
        for m in by_words.SIZES:
            for number in (0, 3 * m // 2, 3 * m - 1):
                v = [0] * (3 * m)
                v[number] = 1000
                self.assertEqual(cake_colours(m, v), by_words.cake_colours(m, v))
                self.assertEqual(cake_colours(m, v)[0], (m + 1) * (m + 2) // 2)

    def test_whose_place(self):
        for m in by_words.SIZES:
            for (i, j), found in owners(m).items():
                self.assertEqual(found, [(i + 2 * j) % 3])

    def test_of_the_corners_of_a_room_each_is_another_ones(self):
        for m in range(2, 10):
            shown = owners(m)
            # At the triangle's own corners there's one piece alone, which all like best.
            self.assertEqual(len(shown), len(by_words.places(m)) - 3)
            for room in by_words.rooms(m):
                if all(place in shown for place in room):
                    self.assertEqual(sorted(sum([shown[place] for place in room], [])), [0, 1, 2])

    def test_as_the_words_say(self):
        for m, v in by_words.tried_cakes():
            with self.subTest(m=m, v=v):
                self.assertEqual(cake_colours(m, list(v)), by_words.cake_colours(m, list(v)))

    def test_colours_are_fair(self):
        for m, v in by_words.tried_cakes():
            with self.subTest(m=m, v=v):
                answer = cake_colours(m, list(v))
                by_words.check_form(self, answer)
                self.assertEqual(answer[0], (m + 1) * (m + 2) // 2)
                for place, colour in zip(by_words.places(m), answer[1:], strict=True):
                    self.assertIn(colour, (0, 1, 2))
                    self.assertNotEqual(by_words.numbers(m, place)[colour], 0)

    def test_all_three_meet_somewhere(self):
        for m, v in by_words.tried_cakes():
            told = colours_by_place(m, list(v))
            meeting = [room for room in by_words.rooms(m) if {told[place] for place in room} == {0, 1, 2}]
            self.assertEqual(len(meeting) % 2, 1)

    def test_refusals(self):
        for m, v in by_words.wrong_cakes():
            with self.subTest(m=m, v=v):
                answer = cake_colours(m, v)
                by_words.check_form(self, answer)
                self.assertEqual(answer, [-22])

    def test_nothing_changed_nothing_kept(self):
        for m, v in by_words.tried_cakes()[::3] + tuple(by_words.wrong_cakes()):
            by_words.check_kept_apart(self, cake_colours, (m,), v)


if __name__ == "__main__":
    unittest.main()
