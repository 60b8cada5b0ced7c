import unittest

import by_words
from fixedcakes.triangles import choice, envies, shared, wishes, worth

# Four slices: every piece of them that isn't empty is worth something else.
FOUR = [1, 2, 4, 8, 10, 20, 40, 80, 100, 200, 400, 800]


def greatest_slices(m, v):
    return [max(v[m * c:m * (c + 1)]) for c in (0, 1, 2)]


def corners_and_pieces(answer):
    """Of an answer of shared or wishes: the corner of each person, and the piece that they like there."""
    return list(zip(answer[1::3], answer[2::3], strict=True)), answer[3::3]


class EnviesTest(unittest.TestCase):

    def test_size_one(self):
        # There's one piece that isn't empty: who has another one envies by all that it's worth to them.
        for v in by_words.all_cakes(1, (0, 5, 1000)):
            for (i, j), filled in (((0, 0), 2), ((1, 0), 0), ((0, 1), 1)):
                for w in by_words.all_sharings():
                    told = [0 if w[c] == filled else v[c] for c in (0, 1, 2)]
                    self.assertEqual(envies(1, i, j, v, w), [3] + told)

    def test_written_out(self):
        # Cut in 1, 1 and 2 slices: 1, 2, 12 to person 0, ten times that to person 1, a hundred times to person 2.
        self.assertEqual(envies(4, 1, 1, FOUR, [0, 1, 2]), [3, 11, 100, 0])
        self.assertEqual(envies(4, 1, 1, FOUR, [2, 0, 1]), [3, 0, 110, 1000])
        self.assertEqual(envies(4, 1, 1, FOUR, [1, 2, 0]), [3, 10, 0, 1100])
        # In 3, 1 and none: 7, 8, 0.
        self.assertEqual(envies(4, 3, 1, FOUR, [0, 1, 2]), [3, 1, 0, 800])
        # In 2, 2 and none: 3, 12, 0.
        self.assertEqual(envies(4, 2, 2, FOUR, [2, 0, 1]), [3, 12, 90, 0])
        # In none, none and 4: 0, 0, 15.
        self.assertEqual(envies(4, 0, 0, FOUR, [0, 1, 2]), [3, 15, 150, 0])

    def test_each_ones_own_slices_count(self):
        # Cut in three slices: 4, 1, 3 to person 0; 0, 5, 5 to person 1; 2, 2, 9 to person 2.
        v = [4, 1, 3, 0, 5, 5, 2, 2, 9]
        self.assertEqual(envies(3, 1, 1, v, [0, 1, 2]), [3, 0, 0, 0])
        self.assertEqual(envies(3, 1, 1, v, [1, 2, 0]), [3, 3, 0, 7])
        self.assertEqual(envies(3, 1, 1, v, [2, 0, 1]), [3, 1, 5, 7])

    def test_a_piece_told_twice_or_three_times(self):
        # Each one's envy is told by their own piece alone, whoever else has it, and though nobody has the best.
        v = [4, 1, 3, 0, 5, 5, 2, 2, 9]
        self.assertEqual(envies(3, 1, 1, v, [0, 0, 0]), [3, 0, 5, 7])
        self.assertEqual(envies(3, 1, 1, v, [1, 1, 1]), [3, 3, 0, 7])
        self.assertEqual(envies(3, 1, 1, v, [2, 2, 2]), [3, 1, 0, 0])
        self.assertEqual(envies(3, 1, 1, v, [1, 0, 0]), [3, 3, 5, 7])
        self.assertEqual(envies(3, 1, 1, v, [2, 0, 2]), [3, 1, 5, 0])
        self.assertEqual(envies(4, 1, 1, FOUR, [1, 1, 0]), [3, 10, 100, 1100])

    def test_one_ones_piece_is_nothing_to_the_others(self):
        for m in by_words.SIZES:
            v = by_words.mixed_cakes(m, 1, 1000)[0]
            for i, j in by_words.places(m):
                alone = [[envies(m, i, j, v, [k, k, k])[c + 1] for k in (0, 1, 2)] for c in (0, 1, 2)]
                for w in by_words.all_sharings():
                    told = [alone[c][w[c]] for c in (0, 1, 2)]
                    self.assertEqual(envies(m, i, j, v, w), [3] + told)

    def test_everybody_finds_each_slice_alike(self):
        for alike in (1, 1000):
            for m in by_words.SIZES:
                for i, j in by_words.places(m):
                    lengths = by_words.numbers(m, (i, j))
                    short = [alike * (max(lengths) - length) for length in lengths]
                    for w in ([0, 1, 2], [2, 0, 1], [1, 1, 2], [0, 0, 0]):
                        self.assertEqual(envies(m, i, j, [alike] * (3 * m), w), [3] + [short[k] for k in w])

    def test_nothing_is_worth_anything_to_somebody(self):
        for m in by_words.SIZES:
            for c in (0, 1, 2):
                v = [1000] * (m * c) + [0] * m + [1000] * (m * (2 - c))
                for i, j in by_words.places(m):
                    for w in by_words.all_sharings():
                        self.assertEqual(envies(m, i, j, v, w)[c + 1], 0)
            # The others may.
            self.assertEqual(envies(m, m, 0, [0] * m + [7] * (2 * m), [1, 1, 0]), [3, 0, 7 * m, 0])
            self.assertEqual(envies(m, 0, m, [0] * (3 * m), [2, 0, 2]), [3, 0, 0, 0])

    def test_a_slice_worth_nothing(self):
        # Who has that slice alone envies like somebody whose piece is empty.
        v = [0, 5, 7, 5, 0, 7, 5, 7, 0]
        self.assertEqual(envies(3, 1, 1, v, [0, 1, 2]), [3, 7, 7, 7])
        self.assertEqual(envies(3, 1, 1, v, [1, 0, 0]), [3, 2, 2, 2])
        self.assertEqual(envies(3, 1, 1, v, [2, 2, 1]), [3, 0, 0, 0])

    def test_two_pieces_worth_as_much(self):
        # 3, 3 and none; then none, 3 and 3: who has either of these envies nobody.
        v = [3, 1, 2] * 3
        self.assertEqual(envies(3, 1, 2, v, [0, 1, 2]), [3, 0, 0, 3])
        self.assertEqual(envies(3, 0, 1, v, [0, 1, 2]), [3, 3, 0, 0])
        # 5, 5, 4; 5, 4, 5; 4, 5, 5.
        self.assertEqual(envies(3, 1, 1, [5, 5, 4, 5, 4, 5, 4, 5, 5], [1, 2, 2]), [3, 0, 0, 0])
        self.assertEqual(envies(3, 1, 1, [5, 5, 4, 5, 4, 5, 4, 5, 5], [2, 1, 0]), [3, 1, 1, 1])

    def test_first_piece_empty(self):
        # None, 4 and 4 to person 0; none, 0 and 10 to person 1; none, 2 and 11 to person 2.
        v = [4, 1, 3, 0, 5, 5, 2, 2, 9]
        self.assertEqual(envies(3, 0, 1, v, [0, 0, 0]), [3, 4, 10, 11])
        self.assertEqual(envies(3, 0, 1, v, [1, 1, 1]), [3, 0, 10, 9])
        self.assertEqual(envies(3, 0, 1, v, [2, 2, 2]), [3, 0, 0, 0])
        self.assertEqual(envies(3, 0, 0, v, [0, 1, 2]), [3, 8, 10, 0])

    def test_greatest_envy(self):
        self.assertEqual(envies(9, 0, 9, [1000] * 27, [0, 2, 1]), [3, 9000, 9000, 0])

    def test_every_place_and_sharing_as_the_words_say(self):
        for m, v in by_words.tried_cakes()[::9]:
            with self.subTest(m=m, v=v):
                for i, j in by_words.places(m):
                    for w in by_words.all_sharings():
                        answer = envies(m, i, j, list(v), w)
                        self.assertEqual(answer, by_words.envies(m, i, j, list(v), w))

    def test_every_cake_as_the_words_say(self):
        sharings = by_words.all_sharings()
        for number, (m, v) in enumerate(by_words.tried_cakes()):
            with self.subTest(m=m, v=v):
                for step, (i, j) in enumerate(by_words.places(m)):
                    w = sharings[(number + 5 * step) % 27]
                    answer = envies(m, i, j, list(v), w)
                    by_words.check_form(self, answer)
                    self.assertEqual(len(answer), 4)
                    self.assertGreaterEqual(min(answer), 0)
                    self.assertEqual(answer, by_words.envies(m, i, j, list(v), w))

    def test_by_worth(self):
        for m, v in by_words.tried_cakes()[::5]:
            for i, j in by_words.places(m):
                told = [[worth(m, c, i, j, k, list(v))[0] for k in (0, 1, 2)] for c in (0, 1, 2)]
                for w in ([0, 1, 2], [2, 1, 0], [1, 1, 0]):
                    expected = [max(told[c]) - told[c][w[c]] for c in (0, 1, 2)]
                    self.assertEqual(envies(m, i, j, list(v), w), [3] + expected)

    def test_who_has_the_piece_that_they_like_best_envies_nobody(self):
        for m, v in by_words.tried_cakes()[::3]:
            for i, j in by_words.places(m):
                w = [choice(m, c, i, j, list(v))[0] for c in (0, 1, 2)]
                self.assertEqual(envies(m, i, j, list(v), w), [3, 0, 0, 0])

    def test_no_such_place(self):
        for m in by_words.SIZES:
            v = by_words.mixed_cakes(m, 1, 1000)[0]
            for i, j in by_words.too_much(m):
                with self.subTest(m=m, i=i, j=j):
                    for w in ([0, 1, 2], [2, 2, 2]):
                        answer = envies(m, i, j, v, w)
                        by_words.check_form(self, answer)
                        self.assertEqual(answer, [-2])

    def test_just_the_places_that_there_are(self):
        for m in by_words.SIZES:
            v = by_words.mixed_cakes(m, 1, 1000)[0]
            for i in range(m + 3):
                for j in range(m + 3):
                    self.assertEqual(envies(m, i, j, v, [0, 1, 2]) == [-2], i + j > m)

    def test_wrong_cakes(self):
        for m, v in by_words.wrong_cakes():
            with self.subTest(m=m, v=v):
                answer = envies(m, 0, 0, v, [0, 1, 2])
                by_words.check_form(self, answer)
                self.assertEqual(answer, [-22])

    def test_wrong_sharings(self):
        for m in by_words.SIZES:
            v = by_words.mixed_cakes(m, 1, 1000)[0]
            for w in by_words.wrong_sharings():
                with self.subTest(m=m, w=w):
                    for i, j in ((0, 0), (m, 0), (0, m), (m - 1, 1)):
                        answer = envies(m, i, j, v, w)
                        by_words.check_form(self, answer)
                        self.assertEqual(answer, [-22])

    def test_what_isnt_as_told_is_told_before_a_place_that_isnt_there(self):
        largest = by_words.LARGEST
        for m, v in by_words.wrong_cakes():
            with self.subTest(m=m, v=v):
                for w in ([0, 1, 2], [], [0, 1, 3], [largest] * 200):
                    for i, j in ((10, 0), (0, 10), (largest, 0), (0, largest), (largest, largest)):
                        self.assertEqual(envies(m, i, j, v, w), [-22])
        for m in by_words.SIZES:
            v = by_words.mixed_cakes(m, 1, 1000)[0]
            for w in by_words.wrong_sharings():
                with self.subTest(m=m, w=w):
                    for i, j in by_words.too_much(m):
                        self.assertEqual(envies(m, i, j, v, w), [-22])

    def test_nothing_changed_nothing_kept(self):
        for m, v in by_words.tried_cakes()[::3] + tuple(by_words.wrong_cakes()):
            by_words.check_kept_apart(self, envies, (m, 1, 0), v, [2, 0, 1])
            by_words.check_kept_apart(self, envies, (m, 1, m), v, [0, 0, 2])
        for m in by_words.SIZES:
            v = by_words.mixed_cakes(m, 1, 1000)[0]
            for w in by_words.all_sharings() + by_words.wrong_sharings():
                by_words.check_kept_apart(self, envies, (m, 0, 1), v, w)


class WhatHoldsOfCakesTest(unittest.TestCase):

    def check_room(self, m, v, corners, pieces):
        """All three meet in the room: what the document promises of such a one."""
        self.assertEqual(sorted(pieces), [0, 1, 2])
        most = [3 * greatest for greatest in greatest_slices(m, v)]
        for c in (0, 1, 2):
            i, j = corners[c]
            self.assertEqual((i + 2 * j) % 3, c)
            self.assertEqual(choice(m, c, i, j, v), [pieces[c]])
            told = envies(m, i, j, v, pieces)[1:]
            self.assertEqual(told[c], 0)
            for person in (0, 1, 2):
                self.assertLessEqual(told[person], most[person])

    def test_the_room_that_shared_answers(self):
        envied = 0
        for m, v in by_words.tried_cakes():
            with self.subTest(m=m, v=v):
                corners, pieces = corners_and_pieces(shared(m, list(v)))
                self.check_room(m, list(v), corners, pieces)
                told = [envies(m, i, j, list(v), pieces) for i, j in corners]
                envied += len([answer for answer in told if answer != [3, 0, 0, 0]])
        # At another one's corner somebody may envy: else there would be nothing to bound.
        self.assertGreater(envied, 500)

    def test_every_room_where_all_three_meet(self):
        for m, v in by_words.tried_cakes():
            with self.subTest(m=m, v=v):
                meeting = 0
                for room in range(m * m):
                    corners, pieces = corners_and_pieces(wishes(m, room, list(v)))
                    if len(set(pieces)) == 3:
                        meeting += 1
                        self.check_room(m, list(v), corners, pieces)
                # One more line ends in a room than begins in one.
                self.assertEqual(meeting % 2, 1)

    def test_of_the_corners_of_a_room_each_is_another_ones(self):
        for m in by_words.SIZES:
            for room, corners in enumerate(by_words.rooms(m)):
                told = corners_and_pieces(wishes(m, room, [1] * (3 * m)))[0]
                self.assertEqual(sorted(told), sorted(corners))

    def test_three_pieces_are_worth_all_slices(self):
        # What all three pieces lack of the best, and what they're worth, is three times the best.
        for m, v in by_words.tried_cakes()[::5]:
            for i, j in by_words.places(m):
                lacking = [envies(m, i, j, list(v), [k, k, k])[1:] for k in (0, 1, 2)]
                for c in (0, 1, 2):
                    best = worth(m, c, i, j, choice(m, c, i, j, list(v))[0], list(v))[0]
                    together = 3 * best - sum(told[c] for told in lacking)
                    self.assertEqual(together, sum(v[m * c:m * (c + 1)]))


if __name__ == "__main__":
    unittest.main()
