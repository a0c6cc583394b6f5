package vocab

// heap is places of which the least is taken first: none is less than the one at half its own place, reckoned from 1 on.
type heap []int

// put adds a place.
func (h *heap) put(place int) {
	*h = append(*h, place)
	l := *h
	for i := len(l) - 1; i > 0; {
		parent := (i - 1) / 2
		if l[parent] <= l[i] {
			return
		}
		l[parent], l[i] = l[i], l[parent]
		i = parent
	}
}

// take takes the least place out of a heap that has one.
func (h *heap) take() int {
	l := *h
	least := l[0]
	last := len(l) - 1
	l[0] = l[last]
	*h = l[:last]
	h.sink()
	return least
}

// sink brings what stands at the top to where it belongs.
func (h heap) sink() {
	for i := 0; ; {
		child := 2*i + 1
		if child+1 < len(h) && h[child+1] < h[child] {
			child++
		}
		if child >= len(h) || h[i] <= h[child] {
			return
		}
		h[i], h[child] = h[child], h[i]
		i = child
	}
}
