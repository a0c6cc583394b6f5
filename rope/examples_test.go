package rope_test

import (
	"testing"

	"herald/api"
	"herald/rope"
)

// The chapter's first example.
func TestExampleOfTurn(t *testing.T) {
	is(t, "a quarter", narrow(0, 100, -100, 0))(rope.Turn(narrow(100, 0, 0, 100), 2, narrow(0), narrow(64)))
	is(t, "none", narrow(100, 0))(rope.Turn(narrow(100, 0), 2, narrow(64), narrow(0)))
	fails(t, "heads", api.ErrHead)(rope.Turn(narrow(3, 4, 5), 2, narrow(64), narrow(0)))
	fails(t, "angles", api.ErrAngles)(rope.Turn(narrow(1, 2), 2, narrow(1, 2), narrow(1)))
	is(t, "an eighth", narrow(0, 127))(rope.Turn(narrow(127, 127), 2, narrow(45), narrow(45)))
}

// The second one.
func TestExampleOfSine(t *testing.T) {
	for angle, want := range map[int]int8{0: 0, 64: 64, 65: 64, 192: -64, -1: -2, 32: 45} {
		if s := rope.Sine(angle); s != want {
			t.Error("Sine", angle, s, want)
		}
	}
}

// The third one.
func TestExampleOfTable(t *testing.T) {
	are(t, "Table", narrow(64, 64, 0, 45), narrow(0, 0, 64, 45))(rope.Table(2, 2))
	refused(t, "Table", api.ErrPlaces)(rope.Table(0, 1))
}

// The fourth one.
func TestExampleOfMore(t *testing.T) {
	are(t, "Stretched", narrow(64, 45, 0), narrow(0, 45, 64))(rope.Stretched(3, 1, 1, 2))
	are(t, "At", narrow(0, 45), narrow(64, 45))(rope.At(narrow(64, 64, 0, 45), narrow(0, 0, 64, 45), 2, 1))
	xs := [][]int8{{100, 0}, {100, 0}}
	cos, sin, _ := rope.Table(2, 1)
	turns(t, "from 0 on", [][]int8{{100, 0}, {0, 100}})(rope.Rows(xs, 2, cos, sin, 0))
	stops(t, "from 1 on", 1, api.ErrArg)(rope.Rows(xs, 2, cos, sin, 1))
}

// The limits and the errors' numbers, as the chapter tells them.
func TestNumbersOfTheChapter(t *testing.T) {
	if api.MaxTable != 512 || api.MaxHalf != 32 {
		t.Error(api.MaxTable, api.MaxHalf)
	}
	if api.ErrHead != 100 || api.ErrAngles != 101 || api.ErrPlaces != 102 {
		t.Error(api.ErrHead, api.ErrAngles, api.ErrPlaces)
	}
}
