package wire_test

import (
	"hash/crc32"
	"hash/fnv"
	"math/rand"
	"testing"

	"herald/wire"
)

// someTexts is texts of many lengths and all bytes, the same ones each time.
func someTexts() []string {
	source := rand.New(rand.NewSource(1))
	l := []string{"", "\x00", "\x00\x00", "\xff", "\xff\xff\xff\xff", "a", "hi", "123456789", "é€\U0001f600", "\xed\xa0\x80"}
	for b := range 256 {
		l = append(l, string([]byte{byte(b)}))
	}
	for n := range 300 {
		b := make([]byte, n)
		source.Read(b)
		l = append(l, string(b))
	}
	return l
}

// 1.1
func TestFnv(t *testing.T) {
	for s, want := range map[string]uint64{
		"":       14695981039346656037,
		"a":      12638187200555641996,
		"foobar": 0x85944171f73967e8,
	} {
		if got := wire.Fnv(s); got != want {
			t.Errorf("Fnv(%q): %d, not %d", s, got, want)
		}
	}
	for _, s := range someTexts() {
		h := fnv.New64a()
		h.Write([]byte(s))
		if got := wire.Fnv(s); got != h.Sum64() {
			t.Errorf("Fnv(%q): %d, not %d", s, got, h.Sum64())
		}
	}
}

// 1.9
func TestCrc(t *testing.T) {
	for s, want := range map[string]uint32{
		"":                 0,
		"a":                3904355907,
		"123456789":        3421780262,
		"\x00":             0xd202ef8d,
		"\xff\xff\xff\xff": 0xffffffff,
	} {
		if got := wire.Crc(s); got != want {
			t.Errorf("Crc(%q): %d, not %d", s, got, want)
		}
	}
	for _, s := range someTexts() {
		if got, want := wire.Crc(s), crc32.ChecksumIEEE([]byte(s)); got != want {
			t.Errorf("Crc(%q): %d, not %d", s, got, want)
		}
	}
}
