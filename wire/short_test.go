package wire_test

import (
	"math"
	"math/big"
	"math/rand"
	"strings"
	"testing"

	"herald/api"
	"herald/wire"
)

// someNumbers is ints of all lengths, and those about each power of two.
func someNumbers() []int {
	l := []int{0, 1, 2, 300, math.MaxInt, math.MaxInt - 1}
	for power := range 63 {
		for _, off := range []int{-1, 0, 1} {
			l = append(l, 1<<power+off)
		}
	}
	source := rand.New(rand.NewSource(2))
	for i := range 2000 {
		l = append(l, int(source.Uint64()>>1)>>(i%63))
	}
	return l
}

// groupsOf is the groups of seven bits of a number of any size, as chapter 1 says it.
func groupsOf(n *big.Int) string {
	var l []byte
	rest := new(big.Int).Set(n)
	group := new(big.Int)
	for {
		rest.DivMod(rest, big.NewInt(128), group)
		b := byte(group.Int64())
		if rest.Sign() == 0 {
			return string(append(l, b))
		}
		l = append(l, b+128)
	}
}

// signedOf is the number that stands for a signed one.
func signedOf(n int) *big.Int {
	x := new(big.Int).Mul(big.NewInt(2), big.NewInt(int64(n)))
	if n < 0 {
		x.Neg(x)
		x.Sub(x, big.NewInt(1))
	}
	return x
}

// 1.7
func TestWriteShort(t *testing.T) {
	for n, want := range map[int]string{
		0:             "\x00",
		1:             "\x01",
		127:           "\x7f",
		128:           "\x80\x01",
		300:           "\xac\x02",
		16383:         "\xff\x7f",
		16384:         "\x80\x80\x01",
		1<<56 - 1:     "\xff\xff\xff\xff\xff\xff\xff\x7f",
		1 << 56:       "\x80\x80\x80\x80\x80\x80\x80\x80\x01",
		math.MaxInt64: "\xff\xff\xff\xff\xff\xff\xff\xff\x7f",
	} {
		w := wire.NewWriter()
		w.Raw("ahead")
		if e := w.Short(n); e != api.OK {
			t.Errorf("Short(%d): %d", n, e)
		}
		wrote(t, w, "ahead"+want)
	}
	for _, n := range someNumbers() {
		w := wire.NewWriter()
		if e := w.Short(n); e != api.OK {
			t.Errorf("Short(%d): %d", n, e)
		}
		wrote(t, w, groupsOf(big.NewInt(int64(n))))
	}
	for _, n := range []int{-1, -2, -128, math.MinInt, math.MinInt + 1} {
		w := wire.NewWriter()
		w.Raw("ahead")
		if e := w.Short(n); e != api.ErrWide {
			t.Errorf("Short(%d): %d", n, e)
		}
		wrote(t, w, "ahead")
	}
}

// 1.8
func TestWriteSigned(t *testing.T) {
	for n, want := range map[int]string{
		0:                 "\x00",
		-1:                "\x01",
		1:                 "\x02",
		-2:                "\x03",
		63:                "\x7e",
		-64:               "\x7f",
		64:                "\x80\x01",
		-65:               "\x81\x01",
		1<<62 - 1:         "\xfe\xff\xff\xff\xff\xff\xff\xff\x7f",
		-1 << 62:          "\xff\xff\xff\xff\xff\xff\xff\xff\x7f",
		1 << 62:           "\x80\x80\x80\x80\x80\x80\x80\x80\x80\x01",
		-1<<62 - 1:        "\x81\x80\x80\x80\x80\x80\x80\x80\x80\x01",
		math.MaxInt64:     "\xfe\xff\xff\xff\xff\xff\xff\xff\xff\x01",
		math.MinInt64 + 1: "\xfd\xff\xff\xff\xff\xff\xff\xff\xff\x01",
		math.MinInt64:     "\xff\xff\xff\xff\xff\xff\xff\xff\xff\x01",
	} {
		w := wire.NewWriter()
		w.Raw("ahead")
		w.Signed(n)
		wrote(t, w, "ahead"+want)
	}
	for _, n := range someNumbers() {
		for _, n := range []int{n, -n, -n - 1} {
			w := wire.NewWriter()
			w.Signed(n)
			wrote(t, w, groupsOf(signedOf(n)))
		}
	}
}

// 1.7, 1.8: all lengths up to twelve, with and without a last byte, against numbers without a bound.
func TestReadShortAndSigned(t *testing.T) {
	for length := range 13 {
		for _, ahead := range []string{"\x80", "\x81", "\xc0", "\xff"} {
			for _, last := range []string{"", "\x00", "\x01", "\x02", "\x03", "\x40", "\x7e", "\x7f"} {
				checkGroups(t, strings.Repeat(ahead, length)+last, last != "")
			}
		}
	}
	source := rand.New(rand.NewSource(3))
	for i := range 20000 {
		b := make([]byte, i%13)
		source.Read(b)
		for j := range b {
			b[j] |= 128
		}
		checkGroups(t, string(b), false)
		checkGroups(t, string(b)+string([]byte{byte(source.Intn(128))}), true)
	}
}

// checkGroups reads text, in which no byte is a last one, but the last one if ends, by Short and by Signed, with nothing and with something behind.
func checkGroups(t *testing.T, text string, ends bool) {
	t.Helper()
	value := new(big.Int)
	for i := range len(text) {
		group := big.NewInt(int64(text[i] % 128))
		value.Add(value, group.Lsh(group, uint(7*i)))
	}
	long := ends && len(text) > 1 && text[len(text)-1] == 0
	judge := func(most int, greatest *big.Int) api.Errno {
		switch {
		case !ends && len(text) < most:
			return api.ErrShort
		case !ends || len(text) > most || value.Cmp(greatest) > 0:
			return api.ErrWide
		case long:
			return api.ErrForm
		}
		return api.OK
	}
	short := judge(9, big.NewInt(math.MaxInt64))
	signed := judge(10, new(big.Int).SetUint64(math.MaxUint64))
	wantSigned := 0
	if signed == api.OK {
		half := new(big.Int).Rsh(value, 1)
		wantSigned = int(half.Int64())
		if value.Bit(0) == 1 {
			wantSigned = -wantSigned - 1
		}
	}
	wantShort := 0
	if short == api.OK {
		wantShort = int(value.Int64())
	}
	rests := []string{""}
	if ends {
		rests = []string{"", "\x00", "\x80", "\xff\x01"}
	}
	for _, rest := range rests {
		whole := "\x80" + text + rest
		r := behind(t, whole, 1)
		n, e := r.Short()
		if n != wantShort || e != short {
			t.Errorf("%q: Short: %d, %d, not %d, %d", text+rest, n, e, wantShort, short)
		}
		stands(t, r, 1+read(text, e), len(whole))
		r = behind(t, whole, 1)
		n, e = r.Signed()
		if n != wantSigned || e != signed {
			t.Errorf("%q: Signed: %d, %d, not %d, %d", text+rest, n, e, wantSigned, signed)
		}
		stands(t, r, 1+read(text, e), len(whole))
	}
}

// read is how many bytes of text were read, if e is what came of it.
func read(text string, e api.Errno) int {
	if e == api.OK {
		return len(text)
	}
	return 0
}

// 1.7, 1.8: the edges that the chapter names, each with its error.
func TestReadShortAndSignedRefused(t *testing.T) {
	nine := strings.Repeat("\x80", 9)
	for _, x := range []struct {
		text          string
		short, signed api.Errno
	}{
		{"", api.ErrShort, api.ErrShort},
		{"\x80", api.ErrShort, api.ErrShort},
		{"\x80\x00", api.ErrForm, api.ErrForm},
		{"\xff\xff\x00", api.ErrForm, api.ErrForm},
		{nine[:8], api.ErrShort, api.ErrShort},
		{nine[:8] + "\x00", api.ErrForm, api.ErrForm},
		{nine, api.ErrWide, api.ErrShort},
		{nine + "\x00", api.ErrWide, api.ErrForm},
		{nine + "\x02", api.ErrWide, api.ErrWide},
		{nine + "\x7f", api.ErrWide, api.ErrWide},
		{nine + "\x80", api.ErrWide, api.ErrWide},
		{nine + "\x81", api.ErrWide, api.ErrWide},
		{nine + "\x80\x00", api.ErrWide, api.ErrWide},
		{nine + "\x80\x01", api.ErrWide, api.ErrWide},
		{nine + nine, api.ErrWide, api.ErrWide},
	} {
		r := wire.NewReader(x.text)
		if n, e := r.Short(); n != 0 || e != x.short {
			t.Errorf("%q: Short: %d, %d, not %d", x.text, n, e, x.short)
		}
		if n, e := r.Signed(); n != 0 || e != x.signed {
			t.Errorf("%q: Signed: %d, %d, not %d", x.text, n, e, x.signed)
		}
		stands(t, r, 0, len(x.text))
	}
}

// 1.11: what is read as a number, written again, is the bytes that were read: there is one way to write each.
func TestOneWayToWriteNumbers(t *testing.T) {
	var walk func(text string, more int)
	walk = func(text string, more int) {
		r := wire.NewReader(text)
		if n, e := r.Short(); e == api.OK {
			w := wire.NewWriter()
			w.Short(n)
			wrote(t, w, text[:r.At()])
		}
		r = wire.NewReader(text)
		if n, e := r.Signed(); e == api.OK {
			w := wire.NewWriter()
			w.Signed(n)
			wrote(t, w, text[:r.At()])
		}
		if more == 0 {
			return
		}
		for _, b := range []string{"\x00", "\x01", "\x02", "\x7f", "\x80", "\x81", "\xff"} {
			walk(text+b, more-1)
		}
	}
	for _, ahead := range []string{"", strings.Repeat("\x80", 6), strings.Repeat("\xff", 7)} {
		walk(ahead, 4)
	}
}
