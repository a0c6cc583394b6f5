package wire

import "herald/api"

// Writer writes bytes.
type Writer struct {
	written []byte
}

// NewWriter is a writer that has written nothing.
func NewWriter() *Writer { return &Writer{} }

// Number writes a number of so many bytes.
func (w *Writer) Number(n, bytes int) api.Errno {
	if w == nil || !isSize(bytes) {
		return api.ErrArg
	}
	// Of 8 bytes the shift leaves nothing: every int from 0 on has room there.
	if n < 0 || n>>(8*bytes) != 0 {
		return api.ErrWide
	}
	w.fixed(uint64(n), bytes)
	return api.OK
}

// Row writes numbers of 8 bits.
func (w *Writer) Row(l []int8) {
	if w == nil {
		return
	}
	for _, x := range l {
		w.written = append(w.written, byte(x))
	}
}

// Raw writes bytes.
func (w *Writer) Raw(s string) {
	if w == nil {
		return
	}
	w.written = append(w.written, s...)
}

// Text writes a text with its length ahead.
func (w *Writer) Text(s string) api.Errno {
	if w == nil {
		return api.ErrArg
	}
	if len(s) > mostText {
		return api.ErrLong
	}
	w.fixed(uint64(len(s)), lengthBytes)
	w.Raw(s)
	return api.OK
}

// Short writes a short number.
func (w *Writer) Short(n int) api.Errno {
	if w == nil {
		return api.ErrArg
	}
	if n < 0 {
		return api.ErrWide
	}
	w.groups(uint64(n))
	return api.OK
}

// Signed writes a signed number.
func (w *Writer) Signed(n int) {
	if w == nil {
		return
	}
	w.groups(fold(n))
}

// Frame writes a frame.
func (w *Writer) Frame(s string) api.Errno {
	if w == nil {
		return api.ErrArg
	}
	if len(s) > mostFrame {
		return api.ErrLong
	}
	w.groups(uint64(len(s)))
	w.Raw(s)
	w.fixed(uint64(Crc(s)), sumBytes)
	return api.OK
}

// Len is how many bytes were written.
func (w *Writer) Len() int {
	if w == nil {
		return 0
	}
	return len(w.written)
}

// Bytes is what was written.
func (w *Writer) Bytes() string {
	if w == nil {
		return ""
	}
	return string(w.written)
}

func (w *Writer) fixed(n uint64, bytes int) {
	for i := range bytes {
		w.written = append(w.written, byte(n>>(8*i)))
	}
}

func (w *Writer) groups(n uint64) {
	for n > 127 {
		w.written = append(w.written, byte(n)|128)
		n >>= 7
	}
	w.written = append(w.written, byte(n))
}

// fold is 2 n, or -2 n - 1 below 0: reckoned from -n - 1, which no int takes out of its room, as -2 n would be.
func fold(n int) uint64 {
	if n < 0 {
		return uint64(^n)<<1 | 1
	}
	return uint64(n) << 1
}
