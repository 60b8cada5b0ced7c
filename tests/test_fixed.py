import unittest

import by_words
from fixedcakes.triangles import fixed


class FixedTest(unittest.TestCase):

    def test_size_one(self):
        self.assertEqual(fixed(1, [0, 0, 1, 0, 0, 1]), [3, 0, 0, 1, 0, 0, 1])
        self.assertEqual(fixed(1, [1, 0, 0, 1, 0, 0]), [0])
        self.assertEqual(fixed(1, [0, 0, 0, 0, 0, 0]), [1, 0, 0])
        self.assertEqual(fixed(1, [1, 0, 1, 0, 1, 0]), [1, 1, 0])
        self.assertEqual(fixed(1, [0, 1, 0, 1, 0, 1]), [1, 0, 1])

    def test_holds_all(self):
        f = [0, 0, 1, 0, 2, 0, 0, 1, 1, 1, 0, 2]
        self.assertEqual(fixed(2, f), [6, 0, 0, 1, 0, 2, 0, 0, 1, 1, 1, 0, 2])
        for m in by_words.SIZES:
            f = by_words.as_list(m, by_words.hold_all)
            self.assertEqual(fixed(m, f), [len(f) // 2] + f)

    def test_turns_the_triangle(self):
        # Only the very middle holds still, and there's one only where m is three times a number.
        for m in by_words.SIZES:
            for turn in (by_words.turn_left, by_words.turn_right):
                expected = [1, m // 3, m // 3] if m in (3, 6, 9) else [0]
                self.assertEqual(fixed(m, by_words.as_list(m, turn)), expected)

    def test_places_stand_by_j_then_by_i(self):
        # Size 3: (2, 0), (1, 1) and (0, 2) are held, all others are sent to (0, 0), which so is held too.
        f = [0, 0, 0, 0, 2, 0, 0, 0, 0, 0, 1, 1, 0, 0, 0, 2, 0, 0, 0, 0]
        self.assertEqual(fixed(3, f), [4, 0, 0, 2, 0, 1, 1, 0, 2])

    def test_mirror_holds_its_middle_line(self):
        self.assertEqual(fixed(5, by_words.as_list(5, by_words.mirror)), [3, 0, 0, 1, 1, 2, 2])

    def test_one_number_alike_is_not_held(self):
        # (1, 1) of size 3 is sent where its first, second or third number stays.
        for target in ((1, 0), (1, 2), (0, 1), (2, 1), (0, 2), (2, 0)):
            f = by_words.as_list(3, lambda m, i, j: target if (i, j) == (1, 1) else (i, j))
            self.assertEqual(fixed(3, f), [9] + f[:10] + f[12:])

    def test_as_the_words_say(self):
        for m, f in by_words.tried():
            with self.subTest(m=m, f=f):
                answer = fixed(m, list(f))
                by_words.check_form(self, answer)
                self.assertEqual(answer, by_words.fixed(m, list(f)))

    def test_refusals(self):
        for m, f in by_words.wrong_maps():
            with self.subTest(m=m, f=f):
                answer = fixed(m, f)
                by_words.check_form(self, answer)
                self.assertEqual(answer, [-22])

    def test_nothing_changed_nothing_kept(self):
        for m, f in by_words.tried()[::7] + tuple(by_words.wrong_maps()):
            by_words.check_kept_apart(self, fixed, (m,), f)


if __name__ == "__main__":
    unittest.main()
