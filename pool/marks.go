package pool

import "math/bits"

// marks is a set of places. It has a bit for each, 64 to a word, so that the least place is found by going over words: 1024 of them at most.
type marks struct {
	words []uint64
	count int // how many places it has
	first int // no word ahead of this one has a place
}

// has tells whether a place is in the set.
func (m *marks) has(place int) bool {
	word := place / 64
	return word < len(m.words) && m.words[word]>>(place%64)&1 == 1
}

// put adds a place that the set does not have.
func (m *marks) put(place int) {
	word := place / 64
	for len(m.words) <= word {
		m.words = append(m.words, 0)
	}
	m.words[word] |= 1 << (place % 64)
	m.first = min(m.first, word)
	m.count++
}

// takeLeast takes the least place out of a set that has one.
func (m *marks) takeLeast() int {
	for m.words[m.first] == 0 {
		m.first++
	}
	word := m.words[m.first]
	m.words[m.first] = word & (word - 1)
	m.count--
	return m.first*64 + bits.TrailingZeros64(word)
}
