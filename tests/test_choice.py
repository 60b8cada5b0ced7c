import unittest

import by_words
from fixedcakes.triangles import cake_colours, choice, worth

# Four slices: to person 0 they fall, to person 1 slice 0 is worth nothing, to person 2 all are alike.
FOUR = [9, 4, 3, 1, 0, 2, 6, 5, 7, 7, 7, 7]


class ChoiceTest(unittest.TestCase):

    def test_size_one(self):
        for v in by_words.all_cakes(1, (0, 1, 1000)):
            for c in (0, 1, 2):
                self.assertEqual(choice(1, c, 0, 0, v), [2])
                self.assertEqual(choice(1, c, 1, 0, v), [0])
                self.assertEqual(choice(1, c, 0, 1, v), [1])

    def test_written_out(self):
        # Cut in 1, 1 and 2 slices: 9, 4, 4 to person 0; 0, 2, 11 to person 1; 7, 7, 14 to person 2.
        self.assertEqual([choice(4, c, 1, 1, FOUR) for c in (0, 1, 2)], [[0], [2], [2]])
        # In 1, 2 and 1: 9, 7, 1; 0, 8, 5; 7, 14, 7.
        self.assertEqual([choice(4, c, 1, 2, FOUR) for c in (0, 1, 2)], [[0], [1], [1]])
        # In 2, 1 and 1: 13, 3, 1; 2, 6, 5; 14, 7, 7.
        self.assertEqual([choice(4, c, 2, 1, FOUR) for c in (0, 1, 2)], [[0], [1], [0]])
        # In 3, none and 1: 16 and 1; 8 and 5; 21 and 7.
        self.assertEqual([choice(4, c, 3, 0, FOUR) for c in (0, 1, 2)], [[0], [0], [0]])

    def test_only_the_person_asked_counts(self):
        # Size 3, each likes another slice, and there are as many pieces.
        for rows in ((0, 1, 2), (0, 2, 1), (1, 0, 2), (1, 2, 0), (2, 0, 1), (2, 1, 0)):
            v = []
            for liked in rows:
                v += [8 if number == liked else 5 for number in range(3)]
            self.assertEqual([choice(3, c, 1, 1, v) for c in (0, 1, 2)], [[liked] for liked in rows])

    def test_everybody_finds_each_slice_alike(self):
        for alike in (1, 1000):
            for m in by_words.SIZES:
                for i, j in by_words.places(m):
                    lengths = by_words.numbers(m, (i, j))
                    for c in (0, 1, 2):
                        self.assertEqual(choice(m, c, i, j, [alike] * (3 * m)), [lengths.index(max(lengths))])

    def test_nothing_is_worth_anything_to_somebody(self):
        for m in by_words.SIZES:
            for c in (0, 1, 2):
                v = [1000] * (m * c) + [0] * m + [1000] * (m * (2 - c))
                for i, j in by_words.places(m):
                    first = 0 if i > 0 else 1 if j > 0 else 2
                    self.assertEqual(choice(m, c, i, j, v), [first])

    def test_a_slice_worth_nothing(self):
        # A piece that isn't empty, but worth nothing, is liked best only where no later one is worth anything.
        self.assertEqual(choice(3, 0, 1, 1, [0, 0, 1] + [9] * 6), [2])
        self.assertEqual(choice(3, 0, 1, 1, [0, 1, 0] + [9] * 6), [1])
        self.assertEqual(choice(3, 0, 1, 1, [1, 0, 0] + [9] * 6), [0])
        self.assertEqual(choice(3, 1, 1, 0, [9] * 3 + [0, 0, 1] + [9] * 3), [2])
        self.assertEqual(choice(3, 2, 2, 1, [9] * 6 + [0, 0, 1]), [1])

    def test_two_pieces_worth_as_much(self):
        for worths, best in (((5, 5, 1), 0), ((5, 1, 5), 0), ((1, 5, 5), 1), ((5, 5, 5), 0)):
            v = list(worths) * 3
            for c in (0, 1, 2):
                self.assertEqual(choice(3, c, 1, 1, v), [best])
        # 3 and 3, with one slice and with two.
        self.assertEqual(choice(3, 0, 1, 2, [3, 1, 2] + [0] * 6), [0])
        self.assertEqual(choice(3, 0, 1, 0, [3, 1, 2] + [0] * 6), [0])
        self.assertEqual(choice(3, 0, 0, 1, [3, 1, 2] + [0] * 6), [1])

    def test_first_piece_empty(self):
        # 0 and 13; 8 and 5.
        self.assertEqual(choice(4, 1, 0, 1, FOUR), [2])
        self.assertEqual(choice(4, 1, 0, 3, FOUR), [1])
        # An empty piece isn't liked best, though those that are filled are worth no more than it.
        self.assertEqual(choice(4, 1, 0, 1, [0] * 12), [1])
        self.assertEqual(choice(4, 1, 0, 0, [0] * 12), [2])

    def test_as_the_words_say(self):
        for m, v in by_words.tried_cakes():
            with self.subTest(m=m, v=v):
                for i, j in by_words.places(m):
                    for c in (0, 1, 2):
                        answer = choice(m, c, i, j, list(v))
                        by_words.check_form(self, answer)
                        self.assertEqual(answer, by_words.choice(m, c, i, j, list(v)))

    def test_first_of_the_filled_that_are_worth_most(self):
        for m, v in by_words.tried_cakes()[::3]:
            for i, j in by_words.places(m):
                lengths = by_words.numbers(m, (i, j))
                for c in (0, 1, 2):
                    best = choice(m, c, i, j, list(v))[0]
                    told = [worth(m, c, i, j, k, list(v))[0] for k in (0, 1, 2)]
                    self.assertGreater(lengths[best], 0)
                    self.assertEqual(told[best], max(told))
                    for k in range(best):
                        self.assertTrue(lengths[k] == 0 or told[k] < told[best])

    def test_colours_are_the_choices_of_those_whose_places_they_are(self):
        for m, v in by_words.tried_cakes()[::3]:
            chosen = [choice(m, (i + 2 * j) % 3, i, j, list(v))[0] for i, j in by_words.places(m)]
            self.assertEqual(cake_colours(m, list(v))[1:], chosen)

    def test_no_such_place(self):
        for m in by_words.SIZES:
            v = by_words.mixed_cakes(m, 1, 1000)[0]
            for i, j in by_words.too_much(m):
                with self.subTest(m=m, i=i, j=j):
                    answer = choice(m, 0, i, j, v)
                    by_words.check_form(self, answer)
                    self.assertEqual(answer, [-2])
                    self.assertEqual(choice(m, 2, i, j, v), [-2])
                    self.assertEqual(choice(m, 3, i, j, v), [-2])

    def test_just_the_places_that_there_are(self):
        for m in by_words.SIZES:
            v = by_words.mixed_cakes(m, 1, 1000)[0]
            for i in range(m + 3):
                for j in range(m + 3):
                    self.assertEqual(choice(m, 1, i, j, v) == [-2], i + j > m)

    def test_no_such_person(self):
        for m in by_words.SIZES:
            v = by_words.mixed_cakes(m, 1, 1000)[0]
            for i, j in by_words.places(m):
                for c in (3, 4, 5, 65536, 2 ** 31, by_words.LARGEST):
                    self.assertEqual(choice(m, c, i, j, v), [-2])

    def test_refusals(self):
        for m, v in by_words.wrong_cakes():
            with self.subTest(m=m, v=v):
                answer = choice(m, 0, 0, 0, v)
                by_words.check_form(self, answer)
                self.assertEqual(answer, [-22])
                self.assertEqual(choice(m, 2, 0, 1, v), [-22])

    def test_wrong_cake_is_told_before_what_isnt_there(self):
        largest = by_words.LARGEST
        for m, v in by_words.wrong_cakes():
            with self.subTest(m=m, v=v):
                for c, i, j in ((3, 0, 0), (0, 10, 0), (0, 0, 10), (largest, 0, 0), (largest, largest, largest)):
                    self.assertEqual(choice(m, c, i, j, v), [-22])

    def test_nothing_changed_nothing_kept(self):
        for m, v in by_words.tried_cakes()[::3] + tuple(by_words.wrong_cakes()):
            by_words.check_kept_apart(self, choice, (m, 1, 1, 0), v)
            by_words.check_kept_apart(self, choice, (m, 3, 1, m), v)


if __name__ == "__main__":
    unittest.main()
