package rank

// arrange puts a list in order, by halves; room is as long as the list at least. It tells how many pairs it turned round.
// Whatever ahead answers, each step of a join moves one thing on, so that it ends and loses nothing, even where ahead is no order.
func arrange[T any](l, room []T, ahead func(a, b T) bool) int {
	half := len(l) / 2
	if half == 0 {
		return 0
	}
	front, back := l[:half], l[half:]
	turned := arrange(front, room, ahead) + arrange(back, room, ahead)
	joined, passed := join(room[:0], front, back, ahead)
	copy(l, joined)
	return turned + passed
}

// join appends two lists, each in order, to room as one in order; where none is ahead those of front stand first. It tells how many pairs there are of which the one of back passed that of front.
func join[T any](room, front, back []T, ahead func(a, b T) bool) ([]T, int) {
	passed := 0
	for len(front) > 0 && len(back) > 0 {
		if ahead(back[0], front[0]) {
			room, back = append(room, back[0]), back[1:]
			passed += len(front)
		} else {
			room, front = append(room, front[0]), front[1:]
		}
	}
	return append(append(room, front...), back...), passed
}
