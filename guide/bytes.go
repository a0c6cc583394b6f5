package guide

// byteSet is some bytes.
type byteSet [256]bool

// between is the bytes from low to high.
func between(low, high byte) byteSet {
	var s byteSet
	for b := int(low); b <= int(high); b++ {
		s[b] = true
	}
	return s
}

// alone is one byte.
func alone(b byte) byteSet { return between(b, b) }

// listed is the bytes of a text.
func listed(text string) byteSet {
	var s byteSet
	for i := range len(text) {
		s[text[i]] = true
	}
	return s
}

// or is the bytes of both.
func (s byteSet) or(other byteSet) byteSet {
	for b, has := range other {
		s[b] = s[b] || has
	}
	return s
}

// not is all other bytes.
func (s byteSet) not() byteSet {
	for b, has := range s {
		s[b] = !has
	}
	return s
}

// only is the byte of a set that has one alone.
func (s byteSet) only() (byte, bool) {
	var only byte
	count := 0
	for b, has := range s {
		if has {
			only = byte(b)
			count++
		}
	}
	return only, count == 1
}
