import unittest

import by_words
from fixedcakes.triangles import map_colours


class MapColoursTest(unittest.TestCase):

    def test_size_one_has_one_fair_row_of_colours(self):
        for f in by_words.all_maps(1):
            self.assertEqual(map_colours(1, f), [3, 2, 0, 1])

    def test_holds_all(self):
        # The first number that isn't 0: 0 where there's an i, else 1 where there's a j, else 2.
        self.assertEqual(map_colours(2, [0, 0, 1, 0, 2, 0, 0, 1, 1, 1, 0, 2]), [6, 2, 0, 0, 1, 0, 1])
        f = [0, 0, 1, 0, 2, 0, 3, 0, 0, 1, 1, 1, 2, 1, 0, 2, 1, 2, 0, 3]
        self.assertEqual(map_colours(3, f), [10, 2, 0, 0, 0, 1, 0, 0, 1, 0, 1])

    def test_turns_the_triangle(self):
        # Size 3, (i, j, k) is sent to (j, k, i); (0, 1, 2) to (1, 2, 0), so its third is the first that fits,
        # and (1, 2, 0) to (2, 0, 1), so its second is.
        f = [0, 3, 0, 2, 0, 1, 0, 0, 1, 2, 1, 1, 1, 0, 2, 1, 2, 0, 3, 0]
        self.assertEqual(f, by_words.as_list(3, by_words.turn_right))
        self.assertEqual(map_colours(3, f), [10, 2, 0, 0, 0, 2, 0, 0, 1, 1, 1])
        # Size 3, (i, j, k) is sent to (k, i, j): (1, 0, 2) to (2, 1, 0), so its third is the first that fits.
        f = [3, 0, 2, 1, 1, 2, 0, 3, 2, 0, 1, 1, 0, 2, 1, 0, 0, 1, 0, 0]
        self.assertEqual(f, by_words.as_list(3, by_words.turn_left))
        self.assertEqual(map_colours(3, f), [10, 2, 2, 0, 0, 1, 0, 0, 1, 0, 1])

    def test_all_sent_to_one_corner(self):
        # To (2, 0): the first number is greater there, but at (2, 0) itself and where it would be 0 anyway.
        self.assertEqual(map_colours(2, [2, 0] * 6), [6, 2, 2, 0, 1, 1, 1])
        self.assertEqual(map_colours(2, [0, 2] * 6), [6, 2, 0, 0, 2, 0, 1])
        self.assertEqual(map_colours(2, [0, 0] * 6), [6, 2, 0, 0, 1, 0, 1])

    def test_a_number_that_is_0_gives_no_colour(self):
        # (0, 1) is sent to (0, 2): its first number is 0 in both places, its second is greater there.
        f = [0, 0, 1, 0, 2, 0, 0, 2, 1, 1, 0, 2]
        self.assertEqual(map_colours(2, f), [6, 2, 0, 0, 2, 0, 1])

    def test_a_number_as_great_as_here_gives_its_colour(self):
        # (1, 1) of size 3 is sent to (1, 0), (1, 2), (2, 1), (2, 0), (0, 2), (0, 1).
        for target, colour in (((1, 0), 0), ((1, 2), 0), ((2, 1), 1), ((2, 0), 1), ((0, 2), 0), ((0, 1), 0)):
            f = by_words.as_list(3, lambda m, i, j: target if (i, j) == (1, 1) else (i, j))
            self.assertEqual(map_colours(3, f)[6], colour)

    def test_third_colour_inside(self):
        # (1, 1) of size 4 is sent to (2, 2): first and second are greater there.
        f = by_words.as_list(4, lambda m, i, j: (2, 2) if (i, j) == (1, 1) else (i, j))
        self.assertEqual(map_colours(4, f), [15, 2, 0, 0, 0, 0, 1, 2, 0, 0, 1, 0, 0, 1, 0, 1])

    def test_as_the_words_say(self):
        for m, f in by_words.tried():
            with self.subTest(m=m, f=f):
                self.assertEqual(map_colours(m, list(f)), by_words.map_colours(m, list(f)))

    def test_colours_are_fair(self):
        for m, f in by_words.tried():
            with self.subTest(m=m, f=f):
                answer = map_colours(m, list(f))
                by_words.check_form(self, answer)
                self.assertEqual(answer[0], (m + 1) * (m + 2) // 2)
                for place, colour in zip(by_words.places(m), answer[1:], strict=True):
                    self.assertIn(colour, (0, 1, 2))
                    self.assertNotEqual(by_words.numbers(m, place)[colour], 0)

    def test_refusals(self):
        for m, f in by_words.wrong_maps():
            with self.subTest(m=m, f=f):
                answer = map_colours(m, f)
                by_words.check_form(self, answer)
                self.assertEqual(answer, [-22])

    def test_nothing_changed_nothing_kept(self):
        for m, f in by_words.tried()[::7] + tuple(by_words.wrong_maps()):
            by_words.check_kept_apart(self, map_colours, (m,), f)


if __name__ == "__main__":
    unittest.main()
