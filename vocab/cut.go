package vocab

import (
	"iter"

	"herald/api"
)

// Longest is a text as tokens, the longest one ahead at each place.
func Longest(v api.Vocab, text string) ([]int, int, api.Errno) {
	if place, e := Check(v); e != api.OK {
		return nil, place, e
	}
	t := newTree(v.Texts)
	var tokens []int
	for place := 0; place < len(text); {
		longest := 0
		for token := range t.standing(text[place:]) {
			longest = token
		}
		if longest == 0 {
			return nil, place, api.ErrByte
		}
		tokens = append(tokens, longest)
		place += len(v.Texts[longest])
	}
	return tokens, 0, api.OK
}

// Fewest is a text as the fewest tokens.
func Fewest(v api.Vocab, text string) ([]int, int, api.Errno) {
	if place, e := Check(v); e != api.OK {
		return nil, place, e
	}
	t := newTree(v.Texts)
	ways := t.waysOn(text)
	if !ways[0].exists {
		return nil, t.farthest(text), api.ErrByte
	}
	tokens := make([]int, 0, ways[0].count)
	for place := 0; place < len(text); place += len(v.Texts[ways[place].token]) {
		tokens = append(tokens, ways[place].token)
	}
	return tokens, 0, api.OK
}

// way is how the rest of a text is best said: the first token, and how many there are in all.
type way struct {
	exists       bool
	count, token int
}

// better tells whether a way is to be taken rather than another one of the same rest.
func (w way) better(other way) bool {
	return !other.exists || w.count < other.count || w.count == other.count && w.token < other.token
}

// waysOn is the best way on from each place of a text. The best row of a rest begins with the least first token of all shortest rows, and goes on with the best row of what is left, so it is found from the back.
func (t *tree) waysOn(text string) []way {
	ways := make([]way, len(text)+1)
	ways[len(text)].exists = true
	for place := len(text) - 1; place >= 0; place-- {
		for token := range t.standing(text[place:]) {
			rest := ways[place+len(t.texts[token])]
			w := way{true, rest.count + 1, token}
			if rest.exists && w.better(ways[place]) {
				ways[place] = w
			}
		}
	}
	return ways
}

// farthest is the end of the longest beginning of a text that tokens say.
func (t *tree) farthest(text string) int {
	reached := make([]bool, len(text)+1)
	reached[0] = true
	far := 0
	for place := range len(text) {
		if !reached[place] {
			continue
		}
		for token := range t.standing(text[place:]) {
			end := place + len(t.texts[token])
			reached[end] = true
			far = max(far, end)
		}
	}
	return far
}

// tree is texts read byte by byte from one root, so that all that stand at a place are found in one walk.
type tree struct {
	texts  []string
	next   map[edge]int // the node to which a byte leads
	tokens []int        // of each node the token whose text leads there; the end, if there is none
}

// edge is a way on from a node.
type edge struct {
	node int
	by   byte
}

// newTree is the tree of a right vocabulary's texts.
func newTree(texts []string) *tree {
	t := &tree{texts: texts, next: make(map[edge]int), tokens: make([]int, 1)}
	for token, s := range texts {
		t.tokens[t.grow(s)] = token
	}
	return t
}

// grow is the node to which a text leads, with all nodes on the way that are not there yet.
func (t *tree) grow(s string) int {
	node := 0
	for i := range len(s) {
		e := edge{node, s[i]}
		if _, ok := t.next[e]; !ok {
			t.next[e] = len(t.tokens)
			t.tokens = append(t.tokens, 0)
		}
		node = t.next[e]
	}
	return node
}

// standing is the tokens, the end apart, with whose texts a text begins, the shortest first.
func (t *tree) standing(text string) iter.Seq[int] {
	return func(yield func(token int) bool) {
		node := 0
		for i := range len(text) {
			next, ok := t.next[edge{node, text[i]}]
			if !ok {
				return
			}
			node = next
			if token := t.tokens[node]; token != 0 && !yield(token) {
				return
			}
		}
	}
}
