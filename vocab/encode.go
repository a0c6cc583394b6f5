package vocab

import "herald/api"

// Encode is a text as tokens.
func Encode(v api.Vocab, text string) ([]int, int, api.Errno) {
	if place, e := Check(v); e != api.OK {
		return nil, place, e
	}
	return newCoder(v).encode(text)
}

// Uses is how often each token stands in texts.
func Uses(v api.Vocab, texts []string) ([]int, int, api.Errno) {
	if place, e := Check(v); e != api.OK {
		return nil, place, e
	}
	c := newCoder(v)
	uses := make([]int, len(v.Texts))
	for i, text := range texts {
		tokens, _, e := c.encode(text)
		if e != api.OK {
			return nil, i, e
		}
		for _, token := range tokens {
			uses[token]++
		}
	}
	return uses, 0, api.OK
}

// coder is what it takes to make texts tokens, one text behind the other.
type coder struct {
	alone   [256]int // of each byte the token whose text is that byte alone; the end, if there is none
	merges  []api.Merge
	ranks   map[pair]int
	waiting []heap // of each rank the places at which its merge may be applied; of no rank any, between two texts
}

// newCoder is the coder of a right vocabulary.
func newCoder(v api.Vocab) *coder {
	c := &coder{
		merges:  v.Merges,
		ranks:   make(map[pair]int, len(v.Merges)),
		waiting: make([]heap, len(v.Merges)),
	}
	for token, s := range v.Texts {
		if len(s) == 1 {
			c.alone[s[0]] = token
		}
	}
	for rank, m := range v.Merges {
		c.ranks[pair{m.Left, m.Right}] = rank
	}
	return c
}

// encode is a text as tokens, or the place of the first byte that no token says alone.
func (c *coder) encode(text string) ([]int, int, api.Errno) {
	for i := range len(text) {
		if c.alone[text[i]] == 0 {
			return nil, i, api.ErrByte
		}
	}
	r := newRow(c, text)
	r.mergeAll()
	return r.tokens(), 0, api.OK
}

// row is a text on its way from bytes to tokens. A merge leaves the places of all others as they are, so it costs no more in a long text than in a short one.
type row struct {
	*coder
	token       []int // at each place, from 1 on; the end at a place that a merge took away, and beyond both ends: no merge takes it
	ahead, next []int // of each place that is left the one ahead of it, and the one behind it
}

// newRow is a text, each byte of which a token says alone, as these tokens.
func newRow(c *coder, text string) *row {
	size := len(text) + 2
	r := &row{c, make([]int, size), make([]int, size), make([]int, size)}
	for i := range len(text) {
		r.token[i+1] = c.alone[text[i]]
	}
	for place := range size {
		r.ahead[place], r.next[place] = place-1, place+1
	}
	for i := range len(text) {
		r.note(i + 1)
	}
	return r
}

// note makes a merge that takes what stands at a place and behind it wait for its turn.
func (r *row) note(place int) {
	if rank, ok := r.ranks[pair{r.token[place], r.token[r.next[place]]}]; ok {
		r.waiting[rank].put(place)
	}
}

// mergeAll applies the merge of the least rank that can be applied, till there is none. Behind each one the search begins anew, as what it made may be taken by a merge of a lesser rank.
func (r *row) mergeAll() {
search:
	for rank := range r.merges {
		if place, ok := r.first(rank); ok {
			r.apply(rank, place)
			goto search
		}
	}
}

// first is the first place at which the merge of a rank can be applied; it does not wait any more. Places where other merges took its tokens away are let go.
func (r *row) first(rank int) (int, bool) {
	m := r.merges[rank]
	for len(r.waiting[rank]) > 0 {
		place := r.waiting[rank].take()
		if r.token[place] == m.Left && r.token[r.next[place]] == m.Right {
			return place, true
		}
	}
	return 0, false
}

// apply puts a merge's Out in the place of both its tokens.
func (r *row) apply(rank, place int) {
	gone := r.next[place]
	r.token[place], r.token[gone] = r.merges[rank].Out, 0
	r.next[place] = r.next[gone]
	r.ahead[r.next[place]] = place
	r.note(r.ahead[place])
	r.note(place)
}

// tokens is what stands in the row.
func (r *row) tokens() []int {
	var l []int
	for place := r.next[0]; place < len(r.token)-1; place = r.next[place] {
		l = append(l, r.token[place])
	}
	return l
}
