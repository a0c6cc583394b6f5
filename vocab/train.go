package vocab

import "herald/api"

// Train learns a vocabulary.
func Train(texts []string, size int) (api.Vocab, api.Errno) {
	if isTooMuch(texts) {
		return api.Vocab{}, api.ErrArg
	}
	alphabet := bytesOf(texts)
	if size < 2 || size > api.MaxVocab || size < 1+len(alphabet) || len(alphabet) == 0 {
		return api.Vocab{}, api.ErrTrain
	}
	l := newLearner(texts, alphabet, size)
	// Each merge makes a token, so there are never as many as MaxMerges.
	for len(l.v.Texts) < size {
		both, ok := l.commonest()
		if !ok {
			break
		}
		l.learn(both)
	}
	return l.v, api.OK
}

// isTooMuch tells whether texts have more bytes than may be learned from.
func isTooMuch(texts []string) bool {
	left := api.MaxTraining
	for _, s := range texts {
		if len(s) > left {
			return true
		}
		left -= len(s)
	}
	return false
}

// bytesOf is the bytes that stand in texts, each one once, the lesser ahead.
func bytesOf(texts []string) []byte {
	var stands [256]bool
	for _, s := range texts {
		for i := range len(s) {
			stands[s[i]] = true
		}
	}
	var l []byte
	for b, ok := range stands {
		if ok {
			l = append(l, byte(b))
		}
	}
	return l
}

// learner is a vocabulary that grows.
type learner struct {
	v      api.Vocab
	tokens map[string]int // by their texts
	row    []int16        // the tokens of all texts, with the end ahead, behind and between, so that no pair lies across two texts
	size   int            // how many tokens there may be
	counts []int32        // of each pair, the left token times size and the right one, at how many places of row it stands
}

// newLearner is a learner that knows the bytes of an alphabet alone.
func newLearner(texts []string, alphabet []byte, size int) *learner {
	l := &learner{tokens: make(map[string]int), size: size, counts: make([]int32, size*size)}
	l.add("")
	for _, b := range alphabet {
		l.add(string([]byte{b}))
	}
	l.row = append(l.row, 0)
	for _, s := range texts {
		if s != "" {
			l.lay(s)
		}
	}
	for i, token := range l.row[1:] {
		*l.count(l.row[i], token)++
	}
	return l
}

// add is the number of a new token.
func (l *learner) add(text string) int {
	token := len(l.v.Texts)
	l.v.Texts = append(l.v.Texts, text)
	l.tokens[text] = token
	return token
}

// lay puts the tokens of a text's bytes behind the row, and the end behind them.
func (l *learner) lay(text string) {
	for i := range len(text) {
		l.row = append(l.row, int16(l.tokens[text[i:i+1]]))
	}
	l.row = append(l.row, 0)
}

// count is the count of a pair.
func (l *learner) count(left, right int16) *int32 {
	return &l.counts[int(left)*l.size+int(right)]
}

// commonest is the pair that is learned next, if there is one.
func (l *learner) commonest() (pair, bool) {
	var best pair
	most := int32(1)
	for left := 1; left < len(l.v.Texts); left++ {
		counts := l.counts[left*l.size:][:len(l.v.Texts)]
		for right := 1; right < len(counts); right++ {
			if counts[right] > most && l.mayLearn(left, right) {
				best, most = pair{left, right}, counts[right]
			}
		}
	}
	return best, most > 1
}

// mayLearn tells whether a pair's text may be a new token's.
func (l *learner) mayLearn(left, right int) bool {
	a, b := l.v.Texts[left], l.v.Texts[right]
	if len(a)+len(b) > api.MaxTokenText {
		return false
	}
	_, known := l.tokens[a+b]
	return !known
}

// learn makes a pair a token.
func (l *learner) learn(both pair) {
	out := l.add(l.v.Texts[both.left] + l.v.Texts[both.right])
	l.v.Merges = append(l.v.Merges, api.Merge{Left: both.left, Right: both.right, Out: out})
	l.apply(int16(both.left), int16(both.right), int16(out))
}

// apply puts out in the place of left and right wherever they stand side by side. As out is neither of them, one walk from the left is enough.
func (l *learner) apply(left, right, out int16) {
	done := l.row[:0] // in the same memory, as it never gets ahead of what is left
	for rest := l.row; len(rest) > 0; {
		if rest[0] != left || rest[1] != right {
			done, rest = append(done, rest[0]), rest[1:]
			continue
		}
		l.recount(done[len(done)-1], left, right, rest[2], out)
		done, rest = append(done, out), rest[2:]
	}
	l.row = done
}

// recount changes the counts by one merge, of what stands around it alone, so that the row need not be counted anew.
func (l *learner) recount(ahead, left, right, behind, out int16) {
	*l.count(ahead, left)--
	*l.count(left, right)--
	*l.count(right, behind)--
	*l.count(ahead, out)++
	*l.count(out, behind)++
}
