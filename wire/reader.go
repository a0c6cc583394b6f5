package wire

import (
	"math"
	"strings"

	"herald/api"
)

// Reader reads bytes.
type Reader struct {
	text string
	at   int
}

// NewReader is a reader at a text's beginning; of the text it keeps a copy, for what is handed in is not kept.
func NewReader(s string) *Reader { return &Reader{text: strings.Clone(s)} }

// Number reads a number of so many bytes.
func (r *Reader) Number(bytes int) (int, api.Errno) {
	if r == nil || !isSize(bytes) {
		return 0, api.ErrArg
	}
	if bytes > r.Left() {
		return 0, api.ErrShort
	}
	n := fixed(r.text[r.at:], bytes)
	if n > math.MaxInt64 {
		return 0, api.ErrWide
	}
	r.at += bytes
	return int(n), api.OK
}

// Row reads numbers of 8 bits.
func (r *Reader) Row(n int) ([]int8, api.Errno) {
	if r == nil || n < 0 {
		return nil, api.ErrArg
	}
	if n > r.Left() {
		return nil, api.ErrShort
	}
	l := make([]int8, n)
	for i := range n {
		l[i] = int8(r.text[r.at+i])
	}
	r.at += n
	return l, api.OK
}

// Raw reads bytes.
func (r *Reader) Raw(n int) (string, api.Errno) {
	if r == nil || n < 0 {
		return "", api.ErrArg
	}
	if n > r.Left() {
		return "", api.ErrShort
	}
	return r.take(0, n, 0), api.OK
}

// Text reads a text with its length ahead.
func (r *Reader) Text(most int) (string, api.Errno) {
	if r == nil || most < 0 {
		return "", api.ErrArg
	}
	room := r.Left() - lengthBytes
	if room < 0 {
		return "", api.ErrShort
	}
	n := int(fixed(r.text[r.at:], lengthBytes))
	if n > most {
		return "", api.ErrLong
	}
	if n > room {
		return "", api.ErrShort
	}
	return r.take(lengthBytes, n, 0), api.OK
}

// Short reads a short number.
func (r *Reader) Short() (int, api.Errno) {
	if r == nil {
		return 0, api.ErrArg
	}
	n, bytes, e := groups(r.text[r.at:], shortGroups)
	r.at += bytes
	return int(n), e
}

// Signed reads a signed number.
func (r *Reader) Signed() (int, api.Errno) {
	if r == nil {
		return 0, api.ErrArg
	}
	n, bytes, e := groups(r.text[r.at:], signedGroups)
	r.at += bytes
	return unfold(n), e
}

// Frame reads a frame.
func (r *Reader) Frame(most int) (string, api.Errno) {
	if r == nil || most < 0 {
		return "", api.ErrArg
	}
	length, head, e := groups(r.text[r.at:], shortGroups)
	if e != api.OK {
		return "", e
	}
	n := int(length)
	if n > most {
		return "", api.ErrLong
	}
	// The room is made less, not the length more: that may be as great as an int gets.
	if n > r.Left()-head-sumBytes {
		return "", api.ErrShort
	}
	from := r.at + head
	if fixed(r.text[from+n:], sumBytes) != uint64(Crc(r.text[from:from+n])) {
		return "", api.ErrSum
	}
	return r.take(head, n, sumBytes), api.OK
}

// At is where it stands.
func (r *Reader) At() int {
	if r == nil {
		return 0
	}
	return r.at
}

// Left is how many bytes are left.
func (r *Reader) Left() int {
	if r == nil {
		return 0
	}
	return len(r.text) - r.at
}

// End tells whether all was read.
func (r *Reader) End() api.Errno {
	if r.Left() > 0 {
		return api.ErrLeft
	}
	return api.OK
}

// Frames is the texts of the frames that stand at the beginning, and how many bytes they take.
func Frames(s string) ([]string, int) {
	r := NewReader(s)
	var l []string
	for {
		text, e := r.Frame(math.MaxInt)
		if e != api.OK {
			return l, r.At()
		}
		l = append(l, text)
	}
}

// take goes on behind head, n and tail bytes, which are all there, and answers the n of the middle: a copy, for what is handed out shares nothing with what is kept.
func (r *Reader) take(head, n, tail int) string {
	from := r.at + head
	r.at = from + n + tail
	return strings.Clone(r.text[from : from+n])
}

func fixed(s string, bytes int) uint64 {
	n := uint64(0)
	for i := range bytes {
		n |= uint64(s[i]) << (8 * i)
	}
	return n
}

// groups is the number of at most so many groups at the beginning of s, and how many bytes it takes; with an error both are 0.
func groups(s string, most int) (uint64, int, api.Errno) {
	n := uint64(0)
	for i := range most {
		if i == len(s) {
			return 0, 0, api.ErrShort
		}
		// Nine groups are 63 bits: of a tenth only one more has room.
		if i == signedGroups-1 && s[i] > 1 {
			return 0, 0, api.ErrWide
		}
		n |= uint64(s[i]&127) << (7 * i)
		if s[i] < 128 {
			if s[i] == 0 && i > 0 {
				return 0, 0, api.ErrForm
			}
			return n, i + 1, api.OK
		}
	}
	return 0, 0, api.ErrWide
}

// unfold is the int of which fold is n.
func unfold(n uint64) int {
	if n&1 == 1 {
		return ^int(n >> 1)
	}
	return int(n >> 1)
}
