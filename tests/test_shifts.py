import unittest

import by_words
from fixedcakes.triangles import shifts


class ShiftsTest(unittest.TestCase):

    def test_size_one(self):
        f = [1, 0, 0, 1, 0, 1]
        self.assertEqual(shifts(1, 0, 0, f), [3, 1, 0, -1])
        self.assertEqual(shifts(1, 1, 0, f), [3, -1, 1, 0])
        self.assertEqual(shifts(1, 0, 1, f), [3, 0, 0, 0])

    def test_holds_all(self):
        for m in by_words.SIZES:
            f = by_words.as_list(m, by_words.hold_all)
            for i, j in by_words.places(m):
                self.assertEqual(shifts(m, i, j, f), [3, 0, 0, 0])

    def test_turns_the_triangle(self):
        # (1, 0, 2) is sent to (2, 1, 0), (2, 1, 0) to (0, 2, 1), the middle to itself.
        f = by_words.as_list(3, by_words.turn_left)
        self.assertEqual(shifts(3, 1, 0, f), [3, 1, 1, -2])
        self.assertEqual(shifts(3, 2, 1, f), [3, -2, 1, 1])
        self.assertEqual(shifts(3, 1, 1, f), [3, 0, 0, 0])
        # (0, 2, 1) is sent to (2, 1, 0).
        self.assertEqual(shifts(3, 0, 2, by_words.as_list(3, by_words.turn_right)), [3, 2, -1, -1])

    def test_each_place_its_own(self):
        # Size 2, in order: (0, 0), (1, 0), (2, 0), (0, 1), (1, 1), (0, 2).
        f = [2, 0, 0, 2, 0, 0, 1, 0, 1, 1, 1, 1]
        self.assertEqual(shifts(2, 0, 0, f), [3, 2, 0, -2])
        self.assertEqual(shifts(2, 1, 0, f), [3, -1, 2, -1])
        self.assertEqual(shifts(2, 2, 0, f), [3, -2, 0, 2])
        self.assertEqual(shifts(2, 0, 1, f), [3, 1, -1, 0])
        self.assertEqual(shifts(2, 1, 1, f), [3, 0, 0, 0])
        self.assertEqual(shifts(2, 0, 2, f), [3, 1, -1, 0])

    def test_far(self):
        f = by_words.as_list(9, by_words.to_second_corner)
        self.assertEqual(shifts(9, 0, 0, f), [3, 0, 9, -9])
        self.assertEqual(shifts(9, 9, 0, f), [3, -9, 9, 0])
        self.assertEqual(shifts(9, 4, 2, f), [3, -4, 7, -3])

    def test_as_the_words_say(self):
        for m, f in by_words.tried():
            with self.subTest(m=m, f=f):
                for i, j in by_words.places(m):
                    answer = shifts(m, i, j, list(f))
                    by_words.check_form(self, answer)
                    self.assertEqual(answer, by_words.shifts(m, i, j, list(f)))

    def test_no_such_place(self):
        for m in by_words.SIZES:
            f = by_words.as_list(m, by_words.turn_left)
            for i, j in by_words.too_much(m):
                with self.subTest(m=m, i=i, j=j):
                    answer = shifts(m, i, j, f)
                    by_words.check_form(self, answer)
                    self.assertEqual(answer, [-2])

    def test_just_the_places_that_there_are(self):
        for m in by_words.SIZES:
            f = by_words.as_list(m, by_words.mirror)
            for i in range(m + 3):
                for j in range(m + 3):
                    self.assertEqual(shifts(m, i, j, f) == [-2], i + j > m)

    def test_refusals(self):
        for m, f in by_words.wrong_maps():
            with self.subTest(m=m, f=f):
                self.assertEqual(shifts(m, 0, 0, f), [-22])
                self.assertEqual(shifts(m, 0, 1, f), [-22])

    def test_wrong_map_is_told_before_wrong_place(self):
        for m, f in by_words.wrong_maps():
            for i, j in ((10, 0), (0, 10), (by_words.LARGEST, 0), (by_words.LARGEST, by_words.LARGEST)):
                with self.subTest(m=m, i=i, j=j, f=f):
                    answer = shifts(m, i, j, f)
                    by_words.check_form(self, answer)
                    self.assertEqual(answer, [-22])

    def test_nothing_changed_nothing_kept(self):
        for m, f in by_words.tried()[::7] + tuple(by_words.wrong_maps()):
            by_words.check_kept_apart(self, shifts, (m, 0, 1), f)
            by_words.check_kept_apart(self, shifts, (m, 1, m), f)


if __name__ == "__main__":
    unittest.main()
