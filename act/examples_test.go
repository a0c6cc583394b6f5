package act_test

import (
	"slices"
	"testing"

	"herald/act"
	"herald/api"
)

// at asks for one number of a bend.
func at(t *testing.T, bend []int8, place int, want int8) {
	t.Helper()
	if len(bend) != 256 || bend[place] != want {
		t.Errorf("at %d: %v and not %d", place, bend, want)
	}
}

// The chapter's first example.
func TestExampleOfTables(t *testing.T) {
	is(t, "Table", append(slices.Clone(every()[128:]), make([]int8, 128)...))(act.Table(1))
	for place, want := range map[int]int8{0: 0, 8: 5, 248: -3, 127: 125} {
		at(t, okay[[]int8](t, "Table")(act.Table(2)), place, want)
	}
	at(t, okay[[]int8](t, "Table")(act.Table(3)), 127, 126)
	fails[int8](t, "Table", api.ErrKind)(act.Table(0))
}

// The second one.
func TestExampleOfGate(t *testing.T) {
	is(t, "Gate", narrow(100, 0, -3))(act.Gate(cut(t), narrow(64, -5, 2), narrow(100, 100, -100)))
	fails[int8](t, "Gate", api.ErrLengths)(act.Gate(cut(t), narrow(1), narrow(1, 2)))
	fails[int8](t, "Gate", api.ErrBend)(act.Gate(narrow(1, 2), narrow(1), narrow(1)))
}

// exampleMiddle is the middle of the third example.
func exampleMiddle() api.Middle {
	return api.Middle{Gate: narrow(64, 0), Up: narrow(64, 0), Down: narrow(1, 2), GateS: 6, UpS: 6, DownS: 0}
}

// The third one.
func TestExampleOfMiddle(t *testing.T) {
	is(t, "Middle", wide(64, 128))(act.Middle(exampleMiddle(), cut(t), narrow(64, 7)))
}

// The fourth one.
func TestExampleOfChoose(t *testing.T) {
	router := narrow(1, 0, 0, 1, 0, 0)
	chooses(t, "equal ones", []int{0, 1}, wide(32768, 32768), api.OK)(act.Choose(router, narrow(0, 0), 0, 2))
	chooses(t, "one", []int{0}, wide(65536), api.OK)(act.Choose(router, narrow(127, -127), 0, 1))
	chooses(t, "too many", nil, nil, api.ErrKind)(act.Choose(router, narrow(0, 0), 0, 4))
}

// The numbers that the chapter gives to its errors, kinds and limits.
func TestNumbers(t *testing.T) {
	if api.ErrBend != 120 || api.ErrKind != 121 || api.ErrLengths != 80 || api.ErrCells != 81 || api.ErrShift != 20 {
		t.Error("errors")
	}
	if api.BendCut != 1 || api.BendSoft != 2 || api.BendSquare != 3 || api.MaxCells != 1048576 {
		t.Error("kinds and limits")
	}
}
