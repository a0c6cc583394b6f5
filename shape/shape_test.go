package shape_test

import (
	"testing"

	"herald/api"
	"herald/shape"
)

// checks asks what Check says of a shape, and whether all calls that ask for a right one say the same.
func checks(t *testing.T, s api.Shape, want api.Errno) {
	t.Helper()
	if e := shape.Check(s); e != want {
		t.Errorf("Check of %v: %d and not %d", s, e, want)
	}
	half, numbers := shape.Half(s), numbersOf(s)
	if want != api.OK && half != 0 || want == api.OK && s.Heads*half*2 != s.Dim {
		t.Errorf("Half of %v: %d", s, half)
	}
	if want != api.OK {
		numbers = 0
	}
	if n, e := shape.Numbers(s); n != numbers || e != want {
		t.Errorf("Numbers of %v: %d, %d and not %d, %d", s, n, e, numbers, want)
	}
	if want == api.OK {
		return
	}
	noModel(t, "Sample", want)(shape.Sample(s, 1))
	for _, places := range []int{-1, 0, 1, 513} {
		if c, e := shape.Costs(s, places); c != (api.Cost{}) || e != want {
			t.Errorf("Costs of %v: %v, %d", s, c, e)
		}
	}
	m := sampled(t, tiny(), 0)
	m.Shape = s
	valid(t, "a shape", m, where(api.PartShape, 0), want)
}

// numbersOf is how many numbers the parts of a model have, one behind the other.
func numbersOf(s api.Shape) int {
	if !isRight(s) {
		return 0
	}
	half := s.Dim / s.Heads / 2
	n := s.Vocab*s.Dim + s.Context*half + s.Context*half
	for range s.Layers {
		n += s.Dim + s.Dim                                         // the gains
		n += s.Dim*s.Dim + s.Dim*s.Dim + s.Dim*s.Dim + s.Dim*s.Dim // Q, K, V, O
		n += s.Hidden*s.Dim + s.Hidden*s.Dim + s.Dim*s.Hidden      // the middle
	}
	return n + 256 + s.Dim + s.Vocab*s.Dim
}

// asked is what the chapter's words answer to Check.
func asked(s api.Shape) api.Errno {
	if isRight(s) {
		return api.OK
	}
	return api.ErrShape
}

// 16.1: each limit, and one past it.
func TestShapesAtTheLimits(t *testing.T) {
	for _, s := range []api.Shape{least(), of(512, 512, 64, 1, 8, 256), of(512, 512, 64, 32, 8, 256), of(2, 1, 2, 1, 8, 1), of(2, 1, 64, 16, 1, 1)} {
		checks(t, s, api.OK)
	}
	for _, s := range []api.Shape{
		of(1, 1, 2, 1, 1, 1), of(513, 1, 2, 1, 1, 1), of(2, 0, 2, 1, 1, 1), of(2, 513, 2, 1, 1, 1),
		of(2, 1, 1, 1, 1, 1), of(2, 1, 0, 1, 1, 1), of(2, 1, 65, 1, 1, 1), of(2, 1, 66, 1, 1, 1), of(2, 1, 66, 33, 1, 1),
		of(2, 1, 2, 0, 1, 1), of(2, 1, 2, -1, 1, 1), of(2, 1, 2, 2, 1, 1), of(2, 1, 64, 64, 1, 1), of(2, 1, 64, 128, 1, 1), of(2, 1, 6, 2, 1, 1), of(2, 1, 8, 3, 1, 1),
		of(2, 1, 2, 1, 0, 1), of(2, 1, 2, 1, 9, 1), of(2, 1, 2, 1, 1, 0), of(2, 1, 2, 1, 1, 257), {},
	} {
		checks(t, s, api.ErrShape)
	}
}

// 16.1: each number of a shape in turn is each of many, and Dim and Heads are each pair.
func TestShapesByTheWords(t *testing.T) {
	for _, x := range edges() {
		for _, s := range []api.Shape{of(x, 9, 8, 2, 3, 7), of(9, x, 8, 2, 3, 7), of(9, 9, x, 2, 3, 7), of(9, 9, 8, x, 3, 7), of(9, 9, 8, 2, x, 7), of(9, 9, 8, 2, 3, x), of(9, 9, x, x, 3, 7), of(x, x, x, x, x, x)} {
			checks(t, s, asked(s))
		}
	}
	for dim := -3; dim <= 70; dim++ {
		for heads := -3; heads <= 70; heads++ {
			s := of(3, 2, dim, heads, 2, 1)
			checks(t, s, asked(s))
		}
	}
}

// 16.1: Numbers is what the parts of a model have.
func TestNumbersAreThoseOfTheParts(t *testing.T) {
	for _, s := range shapes() {
		checks(t, s, api.OK)
		m, n := sampled(t, s, 1), 0
		for _, l := range rows(&m) {
			n += len(*l)
		}
		if got, e := shape.Numbers(s); got != n || e != api.OK {
			t.Errorf("Numbers of %v: %d, %d and not %d", s, got, e, n)
		}
	}
}
