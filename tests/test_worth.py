import unittest

import by_words
from fixedcakes.triangles import worth

# Four slices: every piece of them that isn't empty is worth something else.
FOUR = [1, 2, 4, 8, 10, 20, 40, 80, 100, 200, 400, 800]


class WorthTest(unittest.TestCase):

    def three(self, m, c, i, j, v):
        answers = [worth(m, c, i, j, k, v) for k in (0, 1, 2)]
        for answer in answers:
            self.assertEqual(len(answer), 1)
        return [answer[0] for answer in answers]

    def test_size_one(self):
        for v in by_words.all_cakes(1, (0, 1, 1000)):
            for c in (0, 1, 2):
                self.assertEqual(self.three(1, c, 0, 0, v), [0, 0, v[c]])
                self.assertEqual(self.three(1, c, 1, 0, v), [v[c], 0, 0])
                self.assertEqual(self.three(1, c, 0, 1, v), [0, v[c], 0])

    def test_written_out(self):
        for c, times in ((0, 1), (1, 10), (2, 100)):
            for place, told in (
                ((0, 0), (0, 0, 15)), ((1, 0), (1, 0, 14)), ((2, 0), (3, 0, 12)), ((3, 0), (7, 0, 8)),
                ((4, 0), (15, 0, 0)), ((0, 1), (0, 1, 14)), ((1, 1), (1, 2, 12)), ((2, 1), (3, 4, 8)),
                ((3, 1), (7, 8, 0)), ((0, 2), (0, 3, 12)), ((1, 2), (1, 6, 8)), ((2, 2), (3, 12, 0)),
                ((0, 3), (0, 7, 8)), ((1, 3), (1, 14, 0)), ((0, 4), (0, 15, 0)),
            ):
                self.assertEqual(self.three(4, c, *place, FOUR), [times * number for number in told])

    def test_everybody_finds_each_slice_alike(self):
        for alike in (1, 1000):
            for m in by_words.SIZES:
                for i, j in by_words.places(m):
                    told = [alike * number for number in by_words.numbers(m, (i, j))]
                    for c in (0, 1, 2):
                        self.assertEqual(self.three(m, c, i, j, [alike] * (3 * m)), told)

    def test_nothing_is_worth_anything_to_somebody(self):
        for m in by_words.SIZES:
            for c in (0, 1, 2):
                v = [1000] * (m * c) + [0] * m + [1000] * (m * (2 - c))
                for i, j in by_words.places(m):
                    self.assertEqual(self.three(m, c, i, j, v), [0, 0, 0])
                    self.assertEqual(sum(self.three(m, (c + 1) % 3, i, j, v)), 1000 * m)

    def test_a_slice_worth_nothing(self):
        self.assertEqual(self.three(3, 0, 1, 1, [0, 5, 7] + [9] * 6), [0, 5, 7])
        self.assertEqual(self.three(3, 1, 1, 1, [9] * 3 + [5, 0, 7] + [9] * 3), [5, 0, 7])
        self.assertEqual(self.three(3, 2, 1, 1, [9] * 6 + [5, 7, 0]), [5, 7, 0])
        self.assertEqual(self.three(3, 2, 2, 0, [9] * 6 + [0, 7, 5]), [7, 0, 5])

    def test_two_pieces_worth_as_much(self):
        self.assertEqual(self.three(3, 0, 1, 2, [3, 1, 2] + [0] * 6), [3, 3, 0])
        self.assertEqual(self.three(3, 0, 0, 1, [3, 1, 2] + [0] * 6), [0, 3, 3])

    def test_each_slice_is_in_one_piece(self):
        for m in by_words.SIZES:
            for i, j in by_words.places(m):
                pieces = [0] * i + [1] * j + [2] * (m - i - j)
                for number in range(3 * m):
                    v = [0] * (3 * m)
                    v[number] = 1000
                    for c in (0, 1, 2):
                        told = [0, 0, 0]
                        if number // m == c:
                            told[pieces[number % m]] = 1000
                        self.assertEqual(self.three(m, c, i, j, v), told)

    def test_three_pieces_are_worth_all_slices(self):
        for m, v in by_words.tried_cakes():
            with self.subTest(m=m, v=v):
                for i, j in by_words.places(m):
                    for c in (0, 1, 2):
                        self.assertEqual(sum(self.three(m, c, i, j, list(v))), sum(v[m * c:m * c + m]))

    def test_as_the_words_say(self):
        for m, v in by_words.tried_cakes():
            with self.subTest(m=m, v=v):
                for i, j in by_words.places(m):
                    for c in (0, 1, 2):
                        for k in (0, 1, 2):
                            answer = worth(m, c, i, j, k, list(v))
                            by_words.check_form(self, answer)
                            self.assertEqual(answer, by_words.worth(m, c, i, j, k, list(v)))

    def test_no_such_place(self):
        for m in by_words.SIZES:
            v = by_words.mixed_cakes(m, 1, 1000)[0]
            for i, j in by_words.too_much(m):
                with self.subTest(m=m, i=i, j=j):
                    for k in (0, 1, 2, 3):
                        answer = worth(m, 0, i, j, k, v)
                        by_words.check_form(self, answer)
                        self.assertEqual(answer, [-2])
                        self.assertEqual(worth(m, 3, i, j, k, v), [-2])

    def test_just_the_places_that_there_are(self):
        for m in by_words.SIZES:
            v = by_words.mixed_cakes(m, 1, 1000)[0]
            for i in range(m + 3):
                for j in range(m + 3):
                    self.assertEqual(worth(m, 1, i, j, 1, v) == [-2], i + j > m)

    def test_no_such_person_or_piece(self):
        for m in by_words.SIZES:
            v = by_words.mixed_cakes(m, 1, 1000)[0]
            for i, j in by_words.places(m):
                for wrong in (3, 4, 5, 65536, 2 ** 31, by_words.LARGEST):
                    for right in (0, 1, 2):
                        self.assertEqual(worth(m, wrong, i, j, right, v), [-2])
                        self.assertEqual(worth(m, right, i, j, wrong, v), [-2])
                    self.assertEqual(worth(m, wrong, i, j, wrong, v), [-2])

    def test_refusals(self):
        for m, v in by_words.wrong_cakes():
            with self.subTest(m=m, v=v):
                answer = worth(m, 0, 0, 0, 0, v)
                by_words.check_form(self, answer)
                self.assertEqual(answer, [-22])
                self.assertEqual(worth(m, 2, 0, 1, 2, v), [-22])

    def test_wrong_cake_is_told_before_what_isnt_there(self):
        largest = by_words.LARGEST
        for m, v in by_words.wrong_cakes():
            with self.subTest(m=m, v=v):
                for c, i, j, k in (
                    (3, 0, 0, 0), (0, 10, 0, 0), (0, 0, 10, 0), (0, 0, 0, 3), (largest, 0, 0, 0), (0, 0, 0, largest),
                    (0, largest, largest, 0), (largest, largest, largest, largest),
                ):
                    self.assertEqual(worth(m, c, i, j, k, v), [-22])

    def test_nothing_changed_nothing_kept(self):
        for m, v in by_words.tried_cakes()[::3] + tuple(by_words.wrong_cakes()):
            by_words.check_kept_apart(self, worth, (m, 1, 1, 0, 2), v)
            by_words.check_kept_apart(self, worth, (m, 0, 1, 0, 3), v)


if __name__ == "__main__":
    unittest.main()
