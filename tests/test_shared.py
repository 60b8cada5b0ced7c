import unittest

import by_words
from fixedcakes.triangles import cake_colours, choice, shared, wishes, worth


class SharedTest(unittest.TestCase):

    def test_size_one(self):
        for v in by_words.all_cakes(1, (0, 1, 500, 1000)):
            self.assertEqual(shared(1, v), [0, 0, 0, 2, 1, 0, 0, 0, 1, 1])

    def test_each_room_of_size_two(self):
        # By j the colours are 2 0 0, 1 1, 1: from side 1 through the rooms 2 and 1 to room 0.
        self.assertEqual(shared(2, [1, 2, 3, 1, 1, 1]), [0, 0, 0, 2, 1, 0, 0, 0, 1, 1])
        # 2 0 0, 2 1, 1: from side 1 through room 2 to room 1, which points down.
        self.assertEqual(shared(2, [0, 3, 1, 1, 0, 3]), [1, 1, 1, 1, 1, 0, 0, 0, 1, 2])
        # 2 2 0, 1 0, 1: from side 0 through room 3 to room 1.
        self.assertEqual(shared(2, [5, 1, 1, 5, 5, 1]), [1, 1, 1, 0, 1, 0, 2, 0, 1, 1])
        # 2 2 0, 2 1, 1: from side 1 to room 2 at once.
        self.assertEqual(shared(2, [1, 5, 1, 5, 1, 5]), [2, 1, 1, 1, 1, 0, 2, 2, 0, 0])
        # 2 0 0, 2 0, 1: from side 0 to room 3, the last one, at once.
        self.assertEqual(shared(2, [5, 1, 5, 1, 1, 5]), [3, 1, 1, 0, 0, 2, 1, 0, 1, 2])

    def test_size_three(self):
        # By j the colours are 2 2 2 0, 2 0 0, 1 1, 1: from side 1 through the rooms 7 and 6 to room 5.
        self.assertEqual(shared(3, [4, 1, 3, 0, 5, 5, 2, 2, 9]), [5, 1, 1, 0, 0, 2, 1, 0, 1, 2])

    def test_line_that_comes_out_again(self):
        # By j the colours are 2 0 2 0 0, 2 2 0 0, 1 1 1, 1 0, 1: the line from side 0 goes through the rooms 15, 13
        # and 14 and out at side 1; that from side 2 through 11 and 10 to room 9.
        v = [0, 1, 2, 3, 3, 2, 1, 0, 0, 1, 2, 3]
        self.assertEqual(cake_colours(4, v), [15, 2, 0, 2, 0, 0, 2, 2, 0, 0, 1, 1, 1, 1, 0, 1])
        self.assertEqual(by_words.lines(4, by_words.colours_of_cake(4, v)), [[16, 15, 13, 14, 17], [18, 11, 10, 9]])
        self.assertEqual(shared(4, v), [9, 1, 1, 2, 2, 1, 0, 1, 2, 1])

    def test_not_the_first_in_order_where_all_three_meet(self):
        # By j the colours are 2 2 0 0, 1 0 1, 2 0, 1: all three meet in the rooms 1, 5 and 8, the last at side 0.
        v = [0, 0, 0, 0, 0, 1, 0, 0, 0]
        self.assertEqual(cake_colours(3, v), [10, 2, 2, 0, 0, 1, 0, 1, 2, 0, 1])
        self.assertEqual(shared(3, v), [8, 0, 3, 1, 0, 2, 2, 1, 2, 0])

    def test_everybody_finds_each_slice_alike(self):
        # Size 3, by j the colours are 2 2 0 0, 2 0 0, 1 1, 1: from side 1 through the rooms 7 and 6 to room 5.
        for alike in (1, 2, 999, 1000):
            self.assertEqual(shared(3, [alike] * 9), [5, 1, 1, 0, 0, 2, 1, 0, 1, 2])
        self.assertEqual(shared(3, [1] * 3 + [1000] * 3 + [7] * 3), [5, 1, 1, 0, 0, 2, 1, 0, 1, 2])
        # Size 2, the colours are 2 0 0, 1 0, 1: from side 0 through the rooms 3 and 1 to room 0.
        self.assertEqual(shared(2, [1] * 6), [0, 0, 0, 2, 1, 0, 0, 0, 1, 1])

    def test_nothing_is_worth_anything_to_anybody(self):
        # The first piece that isn't empty: the line runs down beside the places with no i, to the one 2.
        for m in by_words.SIZES:
            self.assertEqual(shared(m, [0] * (3 * m)), [0, 0, 0, 2, 1, 0, 0, 0, 1, 1])

    def test_nothing_is_worth_anything_to_somebody(self):
        # Size 2, by j: 2 2 0, 2 0, 1, so to room 3; 2 0 0, 2 1, 1, so to room 1; 2 2 0, 1 1, 1, so to room 2.
        self.assertEqual(shared(2, [0, 0, 0, 1, 0, 1]), [3, 1, 1, 0, 0, 2, 1, 0, 1, 2])
        self.assertEqual(shared(2, [0, 1, 0, 0, 0, 1]), [1, 1, 1, 1, 1, 0, 0, 0, 1, 2])
        self.assertEqual(shared(2, [0, 1, 0, 1, 0, 0]), [2, 1, 1, 1, 1, 0, 2, 2, 0, 0])

    def test_a_slice_worth_nothing(self):
        # Size 2, slice 0 is worth nothing to anybody: the colours are 2 2 0, 2 1, 1. Then slice 1: 2 0 0, 1 0, 1.
        self.assertEqual(shared(2, [0, 1, 0, 1, 0, 1]), [2, 1, 1, 1, 1, 0, 2, 2, 0, 0])
        self.assertEqual(shared(2, [1, 0, 1, 0, 1, 0]), [0, 0, 0, 2, 1, 0, 0, 0, 1, 1])

    def test_two_pieces_worth_as_much_and_first_piece_empty(self):
        # Size 2, person 2's place (0, 1) has no first piece. Both others are worth 4: the colours are 2 0 0, 1 1, 1.
        self.assertEqual(shared(2, [1, 2, 4, 4, 4, 4]), [0, 0, 0, 2, 1, 0, 0, 0, 1, 1])
        # With one more for the last slice they are 2 0 0, 2 1, 1.
        self.assertEqual(shared(2, [1, 2, 4, 4, 4, 5]), [1, 1, 1, 1, 1, 0, 0, 0, 1, 2])

    def test_as_the_words_say(self):
        for m, v in by_words.tried_cakes():
            with self.subTest(m=m, v=v):
                self.assertEqual(shared(m, list(v)), by_words.shared(m, list(v)))

    def test_every_small_cake_of_size_two(self):
        for v in by_words.all_cakes(2, (0, 1, 2)):
            self.assertEqual(shared(2, v), by_words.shared(2, v))

    def test_tried_cakes_have_lines_and_rooms_of_all_sorts(self):
        later = 0
        pointing_down = 0
        several = 0
        for m, v in by_words.tried_cakes():
            told = by_words.colours_of_cake(m, list(v))
            if by_words.lines(m, told)[0][-1] >= m * m:
                later += 1
            corners = by_words.rooms(m)[shared(m, list(v))[0]]
            if sum(corners[0]) > sum(corners[1]):
                pointing_down += 1
            if len([room for room in by_words.rooms(m) if {told[place] for place in room} == {0, 1, 2}]) > 1:
                several += 1
        self.assertGreater(later, 20)
        self.assertGreater(pointing_down, 100)
        self.assertGreater(several, 100)

    def test_all_three_meet(self):
        for m, v in by_words.tried_cakes():
            with self.subTest(m=m, v=v):
                answer = shared(m, list(v))
                by_words.check_form(self, answer)
                self.assertEqual(len(answer), 10)
                self.assertEqual(sorted(answer[3::3]), [0, 1, 2])
                told = dict(zip(by_words.places(m), cake_colours(m, list(v))[1:], strict=True))
                corners = list(zip(answer[1::3], answer[2::3], strict=True))
                self.assertEqual(sorted(corners), sorted(by_words.rooms(m)[answer[0]]))
                self.assertEqual(answer[3::3], [told[corner] for corner in corners])

    def test_each_likes_another_piece_at_their_own_corner_and_envies_nobody_there(self):
        for m, v in by_words.tried_cakes():
            with self.subTest(m=m, v=v):
                answer = shared(m, list(v))
                for c in (0, 1, 2):
                    i, j, own = answer[3 * c + 1:3 * c + 4]
                    self.assertEqual((i + 2 * j) % 3, c)
                    self.assertEqual(choice(m, c, i, j, list(v)), [own])
                    told = [worth(m, c, i, j, k, list(v))[0] for k in (0, 1, 2)]
                    self.assertEqual(told[own], max(told))

    def test_same_as_wishes_of_that_room(self):
        for m, v in by_words.tried_cakes():
            answer = shared(m, list(v))
            self.assertEqual(wishes(m, answer[0], list(v)), [9] + answer[1:])

    def test_refusals(self):
        for m, v in by_words.wrong_cakes():
            with self.subTest(m=m, v=v):
                answer = shared(m, v)
                by_words.check_form(self, answer)
                self.assertEqual(answer, [-22])

    def test_nothing_changed_nothing_kept(self):
        for m, v in by_words.tried_cakes()[::3] + tuple(by_words.wrong_cakes()):
            by_words.check_kept_apart(self, shared, (m,), v)


if __name__ == "__main__":
    unittest.main()
