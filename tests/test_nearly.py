import unittest

import by_words
from fixedcakes.triangles import map_colours, nearly


def comb(m, i, j):
    """Teeth of 0 from below between teeth of 1 from the outer sides, 2 on the left: one line runs round them all."""
    if i == 0:
        return 1 if j == m else 2
    if j == 0:
        return 0
    return 0 if i % 2 == 1 and i + j < m else 1


def bays(m, i, j):
    """Bays of 0 that open to the outer sides alone: every line but the last comes out of its bay again."""
    if i == 0:
        return 2 if j == 0 else 1
    if j == 0:
        return 0
    return 0 if i % 2 == 1 and j > 1 else 1


class NearlyTest(unittest.TestCase):

    def test_size_one(self):
        for f in by_words.all_maps(1):
            self.assertEqual(nearly(1, f), [0, 0, 0, 2, 1, 0, 0, 0, 1, 1])

    def test_holds_all(self):
        # The line runs down between the 1s on the left and the 0s beside them, to the one 2.
        for m in by_words.SIZES:
            f = by_words.as_list(m, by_words.hold_all)
            self.assertEqual(nearly(m, f), [0, 0, 0, 2, 1, 0, 0, 0, 1, 1])

    def test_turns_the_triangle(self):
        # By j the colours are 2 0 0 0, 2 0 0, 1 1, 1: the line begins at side 1, goes through the rooms 7 and 6,
        # and ends in room 5.
        f = [0, 3, 0, 2, 0, 1, 0, 0, 1, 2, 1, 1, 1, 0, 2, 1, 2, 0, 3, 0]
        self.assertEqual(nearly(3, f), [5, 0, 1, 2, 1, 1, 0, 0, 2, 1])

    def test_line_that_comes_out_again(self):
        # By j the colours are 2 0 0 0, 1 1 1, 1 0, 1: the line from side 0 goes through the rooms 8, 6 and 7
        # and out at side 1; that from side 2 through 4, 3, 2 and 1 to room 0.
        f = [0, 0, 1, 0, 2, 0, 3, 0, 0, 1, 2, 0, 3, 0, 0, 2, 1, 2, 0, 3]
        self.assertEqual(map_colours(3, f), [10, 2, 0, 0, 0, 1, 1, 1, 1, 0, 1])
        self.assertEqual(by_words.lines(3, by_words.colours(3, f)), [[9, 8, 6, 7, 10], [11, 4, 3, 2, 1, 0]])
        self.assertEqual(nearly(3, f), [0, 0, 0, 2, 1, 0, 0, 0, 1, 1])

    def test_first_of_two_lines_counts(self):
        # Like the one before, but (0, 2) has colour 2: so the line from side 0 ends in room 8 at once.
        f = [0, 0, 1, 0, 2, 0, 3, 0, 0, 1, 2, 0, 3, 0, 0, 3, 1, 2, 0, 3]
        self.assertEqual(map_colours(3, f), [10, 2, 0, 0, 0, 1, 1, 1, 2, 0, 1])
        self.assertEqual(by_words.lines(3, by_words.colours(3, f)), [[9, 8], [11, 4, 3, 2, 1, 0]])
        self.assertEqual(nearly(3, f), [8, 0, 2, 2, 1, 2, 0, 0, 3, 1])

    def test_long_line(self):
        for m in range(3, 10):
            f = by_words.map_with_colours(m, comb)
            corners = [1, m - 1, 1, 0, m - 1, 2, 1, m - 2, 0]
            self.assertEqual(nearly(m, f), [m * m - 3] + corners)
        only = by_words.lines(9, by_words.colours(9, f))
        self.assertEqual(len(only), 1)
        self.assertGreater(len(only[0]), 50)

    def test_last_of_five_lines_counts(self):
        f = by_words.map_with_colours(9, bays)
        begun = by_words.lines(9, by_words.colours(9, f))
        self.assertEqual([line[0] - 81 for line in begun], [0, 2, 4, 6, 8])
        self.assertEqual([line[-1] for line in begun], [82, 84, 86, 88, 0])
        self.assertEqual(nearly(9, f), [0, 0, 0, 2, 1, 0, 0, 0, 1, 1])

    def test_every_map_of_size_two(self):
        told = {}
        for f in by_words.all_maps(2):
            # Maps of the same colours have the same lines: the words are followed once for each.
            colours = tuple(map_colours(2, f))
            if colours not in told:
                told[colours] = by_words.nearly(2, f)
            self.assertEqual(nearly(2, f), told[colours])

    def test_as_the_words_say(self):
        for m, f in by_words.tried():
            with self.subTest(m=m, f=f):
                self.assertEqual(nearly(m, list(f)), by_words.nearly(m, list(f)))

    def test_tried_maps_have_lines_of_all_sorts(self):
        later = 0
        longest = 0
        for m, f in by_words.tried():
            begun = by_words.lines(m, by_words.colours(m, list(f)))
            longest = max(longest, max(len(line) for line in begun))
            if begun[0][-1] >= m * m:
                later += 1
        self.assertGreater(later, 20)
        self.assertGreater(longest, 20)

    def test_all_three_meet(self):
        for m, f in by_words.tried():
            with self.subTest(m=m, f=f):
                answer = nearly(m, list(f))
                by_words.check_form(self, answer)
                self.assertEqual(len(answer), 10)
                corners = list(zip(answer[1::3], answer[2::3], strict=True))
                self.assertEqual(corners, list(by_words.rooms(m)[answer[0]]))
                told = by_words.colours(m, list(f))
                self.assertEqual(answer[3::3], [told[corner] for corner in corners])
                # One comes in by a door and finds none out, so they stand round on the left.
                self.assertIn(answer[3::3], ([0, 1, 2], [1, 2, 0], [2, 0, 1]))

    def test_refusals(self):
        for m, f in by_words.wrong_maps():
            with self.subTest(m=m, f=f):
                answer = nearly(m, f)
                by_words.check_form(self, answer)
                self.assertEqual(answer, [-22])

    def test_nothing_changed_nothing_kept(self):
        for m, f in by_words.tried()[::7] + tuple(by_words.wrong_maps()):
            by_words.check_kept_apart(self, nearly, (m,), f)


if __name__ == "__main__":
    unittest.main()
