package norm_test

import (
	"testing"

	"herald/api"
	"herald/norm"
)

// The chapter's first example.
func TestExampleOfRoot(t *testing.T) {
	for _, c := range []struct {
		l    []int64
		want int64
		e    api.Errno
	}{
		{wide(3, 4), 3, api.OK},
		{wide(0), 1, api.OK},
		{wide(), 0, api.ErrArg},
		{wide(268435457), 0, api.ErrReach},
	} {
		if r, e := norm.Root(c.l); r != c.want || e != c.e {
			t.Error("Root", c, r, e)
		}
	}
}

// The second one.
func TestExampleOfRow(t *testing.T) {
	is(t, "Row", narrow(64, 85))(norm.Row(wide(3, 4), narrow(64, 64)))
	is(t, "Row", narrow(64, -127))(norm.Row(wide(3, -4), narrow(64, 127)))
	fails(t, "Row", api.ErrArg)(norm.Row(wide(1), narrow(1, 2)))
}

// The third one.
func TestExampleOfMore(t *testing.T) {
	centers(t, wide(1, 2, 4), wide(-1, 0, 2), 2)
	is(t, "Layer", narrow(-64, 1, 127))(norm.Layer(wide(1, 2, 4), narrow(64, 64, 64), narrow(0, 1, 0)))
	if n, at, e := norm.Largest(wide(3, -4, 4)); n != 4 || at != 1 || e != api.OK {
		t.Error("Largest", n, at, e)
	}
}

// The limits and the error's number, as the chapter tells them.
func TestNumbersOfTheChapter(t *testing.T) {
	if api.MaxDim != 64 || api.MaxReach != 268435456 || api.ErrReach != 90 {
		t.Error(api.MaxDim, api.MaxReach, api.ErrReach)
	}
}
