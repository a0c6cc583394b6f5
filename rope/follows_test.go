package rope_test

import (
	"slices"
	"testing"

	"herald/api"
	"herald/rope"
)

// 10.3
func TestTurnedByNone(t *testing.T) {
	someHeads(5, func(x []int8, size int, _, _ []int8) {
		cos, sin := filled[int8](size/2, 64), make([]int8, size/2)
		want := slices.Clone(x)
		for i, n := range want {
			want[i] = max(n, -127)
		}
		is(t, "Turn", want)(rope.Turn(x, size, cos, sin))
		is(t, "Back", want)(rope.Back(x, size, cos, sin))
	})
}

// 10.3: of all pairs without -128.
func TestTurnedByAQuarter(t *testing.T) {
	cos, sin := narrow(0), narrow(64)
	for a := -127; a <= 127; a++ {
		for b := -127; b <= 127; b++ {
			x := narrow(int8(a), int8(b))
			turned := okay(t, "Turn")(rope.Turn(x, 2, cos, sin))
			is(t, "a quarter", narrow(int8(-b), int8(a)))(turned, api.OK)
			is(t, "and back", x)(rope.Back(turned, 2, cos, sin))
			for range 3 {
				turned = okay(t, "Turn")(rope.Turn(turned, 2, cos, sin))
			}
			is(t, "four quarters", x)(turned, api.OK)
		}
	}
}

// 10.3
func TestHeadsAreTurnedForThemselves(t *testing.T) {
	s := spread(6)
	someHeads(7, func(x []int8, size int, cos, sin []int8) {
		y := s.row(size * s.below(4))
		one := okay(t, "Turn")(rope.Turn(x, size, cos, sin))
		other := okay(t, "Turn")(rope.Turn(y, size, cos, sin))
		is(t, "both", slices.Concat(one, other))(rope.Turn(slices.Concat(x, y), size, cos, sin))
	})
}

// 10.3: at the place 0, however stretched, too.
func TestThePlace0(t *testing.T) {
	for half := 1; half <= api.MaxHalf; half++ {
		ones, none := filled[int8](half, 64), make([]int8, half)
		are(t, "Table", ones, none)(rope.Table(1, half))
		cos, sin, _ := rope.Table(9, half)
		are(t, "At", ones, none)(rope.At(cos, sin, half, 0))
		are(t, "Stretched", ones, none)(rope.Stretched(1, half, 65536, 1))
	}
}

// 10.3
func TestSquaresSumTo4096(t *testing.T) {
	cos, sin, e := rope.Table(api.MaxTable, api.MaxHalf)
	if len(cos) != api.MaxTable*api.MaxHalf || len(sin) != len(cos) || e != api.OK {
		t.Fatal("Table", len(cos), len(sin), e)
	}
	for i, c := range cos {
		sum := int(c)*int(c) + int(sin[i])*int(sin[i])
		if sum < 4096-75 || sum > 4096+75 {
			t.Error("squares", i, c, sin[i], sum)
		}
	}
}

// 10.5
func TestStretchedByOne(t *testing.T) {
	for _, places := range []int{1, 2, 77, api.MaxTable} {
		for _, half := range []int{1, 3, api.MaxHalf} {
			cos, sin, _ := rope.Table(places, half)
			for _, n := range []int{1, 2, 3, 255, 65535, 65536} {
				are(t, "Stretched", cos, sin)(rope.Stretched(places, half, n, n))
			}
		}
	}
}

// 10.5
func TestStretchedByAHalf(t *testing.T) {
	for half := 1; half <= api.MaxHalf; half++ {
		cos, sin, _ := rope.Table(api.MaxTable/2, half)
		longer, further, _ := rope.Stretched(api.MaxTable, half, 1, 2)
		for place := range api.MaxTable / 2 {
			c, s, e := rope.At(cos, sin, half, place)
			if e != api.OK {
				t.Fatal("At", place, e)
			}
			are(t, "twice as far", c, s)(rope.At(longer, further, half, 2*place))
		}
	}
}
