package guide

import (
	"math"

	"herald/api"
)

const (
	mostBytes = 1024 // of the texts that Count counts
	tooMany   = -1   // a count that no int64 can be
)

// Shortest is the shortest text that is accepted.
func Shortest(g api.Guide) (string, api.Errno) {
	m, _, e := machineOf(g)
	if e != api.OK {
		return "", e
	}
	return m.shortest(), api.OK
}

// shortest is found in rounds: the texts by which states are met first come in the order of their lengths, and of one length in their own.
func (m *machine) shortest() string {
	type arrival struct {
		state int
		text  string
	}
	met := make([]bool, len(m.steps))
	met[0] = true
	queue := []arrival{{0, ""}}
	for !m.accepts(queue[0].state) {
		now := queue[0]
		queue = queue[1:]
		for b, to := range m.steps[now.state] {
			if to != nowhere && !met[to] {
				met[to] = true
				queue = append(queue, arrival{int(to), now.text + string([]byte{byte(b)})})
			}
		}
	}
	return queue[0].text
}

// Count is how many texts of a length are accepted.
func Count(g api.Guide, n int) (int64, bool, api.Errno) {
	m, _, e := machineOf(g)
	if e != api.OK {
		return 0, false, e
	}
	if n < 0 || n > mostBytes {
		return 0, false, api.ErrArg
	}
	if count := m.count(n); count != tooMany {
		return count, true, api.OK
	}
	return 0, false, api.OK
}

// count is how many texts of n bytes are accepted. It goes from the last byte back, as then each count on the way is no greater than those that hang on it: where one is too many, so are these.
func (m *machine) count(n int) int64 {
	counts := make([]int64, len(m.steps))
	for state, accepts := range m.accept {
		if accepts {
			counts[state] = 1
		}
	}
	bytes := m.bytes()
	for range n {
		longer := make([]int64, len(counts))
		for state := range longer {
			longer[state] = weigh(bytes[state], counts)
		}
		counts = longer
	}
	return counts[0]
}

// bytes is from each state to each other one how many bytes lead there.
func (m *machine) bytes() [][]int64 {
	bytes := make([][]int64, len(m.steps))
	for from := range bytes {
		bytes[from] = make([]int64, len(m.steps))
		for _, to := range m.steps[from] {
			if to != nowhere {
				bytes[from][to]++
			}
		}
	}
	return bytes
}

// weigh is the sum of counts, each as often as its weight says.
func weigh(weights, counts []int64) int64 {
	var sum int64
	for i, w := range weights {
		if w == 0 {
			continue
		}
		if counts[i] == tooMany || counts[i] > (math.MaxInt64-sum)/w {
			return tooMany
		}
		sum += w * counts[i]
	}
	return sum
}
