package tabs

import (
	"fmt"
	"math"
	"math/rand"
	"slices"
	"testing"

	"baton/api"
)

// slow is stops as the chapter's sentences have them: a set of columns, in which a move looks at one column after the other.
type slow struct {
	cols  int
	stops map[int]bool
}

func slowSize(cols int) bool {
	return !(cols < 1) && !(cols > 132)
}

func slowNew(cols int) slow {
	s := slow{cols, map[int]bool{}}
	for times := 1; 8*times < cols; times++ {
		s.stops[8*times] = true
	}
	return s
}

// slowOf returns the stops at these columns, and none else.
func slowOf(cols int, stops ...int) slow {
	s := slow{cols, map[int]bool{}}
	for _, col := range stops {
		s.stops[col] = true
	}
	return s
}

func (s slow) exists(col int) bool {
	return !(col < 0) && col <= s.cols-1
}

// right returns where one move to the right goes.
func (s slow) right(col int) int {
	for col++; s.exists(col); col++ {
		if s.stops[col] {
			return col
		}
	}
	return s.cols - 1
}

// left returns where one move to the left goes.
func (s slow) left(col int) int {
	for col--; s.exists(col); col-- {
		if s.stops[col] {
			return col
		}
	}
	return 0
}

// clamp returns the existing column to which col is clamped.
func (s slow) clamp(col int) int {
	switch {
	case col < 0:
		return 0
	case col > s.cols-1:
		return s.cols - 1
	}
	return col
}

// moves makes n moves, or fewer if all others stay where they are.
func (s slow) moves(col, n int, move func(int) int) int {
	col = s.clamp(col)
	for ; n >= 1 && move(col) != col; n-- {
		col = move(col)
	}
	return col
}

func (s slow) next(col, n int) int { return s.moves(col, n, s.right) }
func (s slow) back(col, n int) int { return s.moves(col, n, s.left) }

// list returns all stops, found column by column.
func (s slow) list() []int {
	var l []int
	for col := range s.cols {
		if s.stops[col] {
			l = append(l, col)
		}
	}
	return l
}

// call is a call that changes stops: its name and its number.
type call struct {
	name string
	n    int
}

func (x call) onStops(s *Stops) api.Errno {
	switch x.name {
	case "Set":
		s.Set(x.n)
	case "Clear":
		s.Clear(x.n)
	case "None":
		s.None()
	case "Resize":
		return s.Resize(x.n)
	default:
		panic(x.name)
	}
	return api.OK
}

// onSlow returns what the call makes of s, which it leaves as it is.
func (x call) onSlow(s slow) (slow, api.Errno) {
	after := slowOf(s.cols, s.list()...)
	switch x.name {
	case "Set":
		if s.exists(x.n) {
			after.stops[x.n] = true
		}
	case "Clear":
		delete(after.stops, x.n)
	case "None":
		clear(after.stops)
	case "Resize":
		if !slowSize(x.n) {
			return after, api.ErrSize
		}
		return s.resized(x.n), api.OK
	default:
		panic(x.name)
	}
	return after, api.OK
}

func (s slow) resized(cols int) slow {
	after := slow{cols, map[int]bool{}}
	for col := range cols {
		if s.stops[col] || col >= s.cols && col%8 == 0 && col != 0 {
			after.stops[col] = true
		}
	}
	return after
}

// agree checks that stops are what s has: the stops, and where the row ends.
func agree(t *testing.T, what any, got *Stops, s slow) {
	t.Helper()
	if l := got.List(); !slices.Equal(l, s.list()) {
		t.Fatalf("%v: the stops are %v, want %v", what, l, s.list())
	}
	if last := got.Next(math.MaxInt, 0); last != s.cols-1 {
		t.Fatalf("%v: the last column is %d, want %d", what, last, s.cols-1)
	}
}

// agreeOnMoves checks besides where all moves go from these columns.
func agreeOnMoves(t *testing.T, what any, got *Stops, s slow, cols, ns []int) {
	t.Helper()
	agree(t, what, got, s)
	for _, col := range cols {
		for _, n := range ns {
			if x, want := got.Next(col, n), s.next(col, n); x != want {
				t.Fatalf("%v: Next(%d, %d) with stops %v of %d columns is %d, want %d", what, col, n, s.list(), s.cols, x, want)
			}
			if x, want := got.Back(col, n), s.back(col, n); x != want {
				t.Fatalf("%v: Back(%d, %d) with stops %v of %d columns is %d, want %d", what, col, n, s.list(), s.cols, x, want)
			}
		}
	}
	agree(t, what, got, s)
}

// step makes a call on both and checks that they agree.
func step(t *testing.T, got *Stops, s slow, x call) slow {
	t.Helper()
	after, want := x.onSlow(s)
	if e := x.onStops(got); e != want {
		t.Fatalf("%v on stops %v of %d columns: error %d, want %d", x, s.list(), s.cols, e, want)
	}
	agree(t, fmt.Sprint(x, " on stops ", s.list(), " of ", s.cols, " columns"), got, after)
	return after
}

// made returns the stops of New, which must not fail.
func made(t *testing.T, cols int) *Stops {
	t.Helper()
	s, e := New(cols)
	if e != api.OK || s == nil {
		t.Fatalf("New(%d): error %d", cols, e)
	}
	return s
}

// with returns stops at these columns, and none else.
func with(t *testing.T, cols int, stops ...int) *Stops {
	t.Helper()
	s := made(t, cols)
	s.None()
	for _, col := range stops {
		s.Set(col)
	}
	agree(t, "None and Set", s, slowOf(cols, stops...))
	return s
}

// hasStops checks the stops by hand.
func hasStops(t *testing.T, what any, s *Stops, want ...int) {
	t.Helper()
	if l := s.List(); !slices.Equal(l, want) {
		t.Errorf("%v: the stops are %v, want %v", what, l, want)
	}
}

// far are numbers beyond every row, on both sides.
func far() []int {
	return []int{
		math.MinInt, math.MinInt + 1, -1 << 32, math.MinInt32, -api.MaxCols - 1, -api.MaxCols, -Every,
		256, 1 << 16, math.MaxInt32, 1 << 32, 1<<32 + 1, 1<<32 + 8, math.MaxInt - 1, math.MaxInt,
	}
}

// around are all numbers from two ahead of 0 to two behind most, and far ones.
func around(most int) []int {
	l := far()
	for n := -2; n <= most+2; n++ {
		l = append(l, n)
	}
	slices.Sort(l)
	return slices.Compact(l)
}

// subset returns the columns whose bits are set in bits.
func subset(cols, bits int) []int {
	var l []int
	for col := range cols {
		if bits>>col&1 == 1 {
			l = append(l, col)
		}
	}
	return l
}

// P11.1

func TestTheExample(t *testing.T) {
	s := made(t, 20)
	hasStops(t, "20 columns", s, 8, 16)
	if x := s.Next(16, 1); x != 19 {
		t.Errorf("Next of 16 is %d", x)
	}
}

func TestEvery(t *testing.T) {
	if Every != 8 {
		t.Errorf("Every is %d", Every)
	}
}

func TestNewByHand(t *testing.T) {
	for _, x := range []struct {
		cols  int
		stops []int
	}{
		{1, nil}, {2, nil}, {7, nil}, {8, nil}, {9, []int{8}}, {10, []int{8}}, {16, []int{8}}, {17, []int{8, 16}}, {24, []int{8, 16}}, {25, []int{8, 16, 24}},
		{80, []int{8, 16, 24, 32, 40, 48, 56, 64, 72}}, {81, []int{8, 16, 24, 32, 40, 48, 56, 64, 72, 80}},
		{128, []int{8, 16, 24, 32, 40, 48, 56, 64, 72, 80, 88, 96, 104, 112, 120}},
		{129, []int{8, 16, 24, 32, 40, 48, 56, 64, 72, 80, 88, 96, 104, 112, 120, 128}},
		{api.MaxCols, []int{8, 16, 24, 32, 40, 48, 56, 64, 72, 80, 88, 96, 104, 112, 120, 128}},
	} {
		s := made(t, x.cols)
		hasStops(t, x.cols, s, x.stops...)
		if last := s.Next(x.cols, 0); last != x.cols-1 {
			t.Errorf("New(%d): the last column is %d", x.cols, last)
		}
	}
}

func TestNewReturnsErrSize(t *testing.T) {
	for _, cols := range append(far(), -2, -1, 0, api.MaxCols+1, api.MaxCols+2, 2*api.MaxCols) {
		if s, e := New(cols); s != nil || e != api.ErrSize {
			t.Errorf("New(%d) = %v, %d", cols, s, e)
		}
	}
}

func TestNewOfAllSizes(t *testing.T) {
	for _, cols := range around(2 * api.MaxCols) {
		s, e := New(cols)
		if !slowSize(cols) {
			if s != nil || e != api.ErrSize {
				t.Errorf("New(%d) = %v, %d", cols, s, e)
			}
			continue
		}
		if s == nil || e != api.OK {
			t.Fatalf("New(%d) = %v, %d", cols, s, e)
		}
		agree(t, fmt.Sprintf("New(%d)", cols), s, slowNew(cols))
	}
}

func TestSetByHand(t *testing.T) {
	s := made(t, 20)
	for _, x := range []struct {
		col  int
		want []int
	}{
		{-1, []int{8, 16}}, {20, []int{8, 16}}, {21, []int{8, 16}}, {math.MinInt, []int{8, 16}}, {math.MaxInt, []int{8, 16}},
		{8, []int{8, 16}}, {16, []int{8, 16}}, // they are stops already
		{0, []int{0, 8, 16}}, {19, []int{0, 8, 16, 19}}, {12, []int{0, 8, 12, 16, 19}}, {9, []int{0, 8, 9, 12, 16, 19}},
		{0, []int{0, 8, 9, 12, 16, 19}}, {19, []int{0, 8, 9, 12, 16, 19}}, {12, []int{0, 8, 9, 12, 16, 19}},
	} {
		s.Set(x.col)
		hasStops(t, fmt.Sprintf("Set(%d)", x.col), s, x.want...)
	}
}

func TestClearByHand(t *testing.T) {
	s := with(t, 20, 0, 3, 8, 16, 19)
	for _, x := range []struct {
		col  int
		want []int
	}{
		{-1, []int{0, 3, 8, 16, 19}}, {20, []int{0, 3, 8, 16, 19}}, {math.MinInt, []int{0, 3, 8, 16, 19}}, {math.MaxInt, []int{0, 3, 8, 16, 19}},
		{1, []int{0, 3, 8, 16, 19}}, {9, []int{0, 3, 8, 16, 19}}, {18, []int{0, 3, 8, 16, 19}}, // they are no stops
		{8, []int{0, 3, 16, 19}}, {8, []int{0, 3, 16, 19}}, {0, []int{3, 16, 19}}, {0, []int{3, 16, 19}}, {19, []int{3, 16}}, {19, []int{3, 16}},
		{16, []int{3}}, {3, nil}, {3, nil}, {0, nil},
	} {
		s.Clear(x.col)
		hasStops(t, fmt.Sprintf("Clear(%d)", x.col), s, x.want...)
	}
}

func TestSetAndClearOfTheOnlyColumn(t *testing.T) {
	s := made(t, 1)
	for _, col := range []int{-1, 1, 8} {
		s.Set(col)
		hasStops(t, fmt.Sprintf("Set(%d)", col), s)
	}
	s.Set(0)
	hasStops(t, "Set(0)", s, 0)
	s.Clear(1)
	s.Clear(-1)
	hasStops(t, "Clear(1), Clear(-1)", s, 0)
	s.Clear(0)
	hasStops(t, "Clear(0)", s)
}

func TestSetAndClearEverywhere(t *testing.T) {
	for cols := 1; cols <= 8; cols++ {
		for bits := range 1 << cols {
			stops := subset(cols, bits)
			for _, col := range around(cols) {
				step(t, with(t, cols, stops...), slowOf(cols, stops...), call{"Set", col})
				step(t, with(t, cols, stops...), slowOf(cols, stops...), call{"Clear", col})
			}
		}
	}
	for cols := 9; cols <= api.MaxCols; cols++ {
		for _, col := range around(cols) {
			step(t, made(t, cols), slowNew(cols), call{"Set", col})
			step(t, made(t, cols), slowNew(cols), call{"Clear", col})
		}
	}
}

func TestNone(t *testing.T) {
	for cols := 1; cols <= api.MaxCols; cols++ {
		s := step(t, made(t, cols), slowNew(cols), call{"None", 0})
		if len(s.list()) != 0 {
			t.Fatalf("None leaves %v", s.list())
		}
	}
	s := made(t, 20)
	s.None()
	hasStops(t, "None", s)
	s.None()
	hasStops(t, "None of none", s)
	s.Clear(8)
	hasStops(t, "Clear behind None", s)
	s.Set(20)
	s.Set(-1)
	hasStops(t, "Set of what does not exist behind None", s)
	s.Set(12)
	s.Set(3)
	s.Set(19)
	hasStops(t, "Set behind None", s, 3, 12, 19)
	if s.Next(0, 1) != 3 || s.Next(3, 1) != 12 || s.Back(8, 1) != 3 || s.Back(8, 2) != 0 {
		t.Error("Next and Back behind None and Set")
	}
	s.None()
	hasStops(t, "None once more", s)
	if s.Next(0, 1) != 19 || s.Next(5, 0) != 5 || s.Back(19, 1) != 0 || s.Back(5, 0) != 5 {
		t.Error("Next and Back behind None")
	}
	if e := s.Resize(30); e != api.OK {
		t.Errorf("Resize behind None: %d", e)
	}
	hasStops(t, "Resize behind None", s, 24)
}

func TestAllColumnsAreStops(t *testing.T) {
	// In two orders: a stop is added at the end, ahead of all, and between others.
	up, down := made(t, api.MaxCols), made(t, api.MaxCols)
	s := slowNew(api.MaxCols)
	other := slowNew(api.MaxCols)
	for col := range api.MaxCols {
		s = step(t, up, s, call{"Set", col})
		other = step(t, down, other, call{"Set", api.MaxCols - 1 - col})
	}
	if l := up.List(); len(l) != api.MaxCols || !slices.Equal(l, down.List()) {
		t.Fatalf("all columns: %v, %v", l, down.List())
	}
	agreeOnMoves(t, "all columns", up, s, around(api.MaxCols), []int{0, 1, 2, 130, 131, 132, 133, math.MaxInt})
	for col := range api.MaxCols {
		s = step(t, up, s, call{"Clear", col})
		other = step(t, down, other, call{"Clear", api.MaxCols - 1 - col})
	}
}

// P11.2

// move is where Next and Back go.
type move struct{ col, n, next, back int }

func checkMoves(t *testing.T, s *Stops, l ...move) {
	t.Helper()
	for _, x := range l {
		if got := s.Next(x.col, x.n); got != x.next {
			t.Errorf("stops %v: Next(%d, %d) is %d, want %d", s.List(), x.col, x.n, got, x.next)
		}
		if got := s.Back(x.col, x.n); got != x.back {
			t.Errorf("stops %v: Back(%d, %d) is %d, want %d", s.List(), x.col, x.n, got, x.back)
		}
	}
}

func TestMovesBetweenStops(t *testing.T) {
	checkMoves(t, made(t, 30), []move{
		{0, 1, 8, 0}, {0, 2, 16, 0}, {0, 3, 24, 0}, {0, 4, 29, 0}, {0, 5, 29, 0}, {0, math.MaxInt, 29, 0},
		{7, 1, 8, 0}, {8, 1, 16, 0}, {8, 2, 24, 0}, {8, 3, 29, 0}, {9, 1, 16, 8}, {9, 2, 24, 0}, {9, 3, 29, 0},
		{15, 1, 16, 8}, {16, 1, 24, 8}, {16, 2, 29, 0}, {17, 1, 24, 16}, {17, 2, 29, 8}, {17, 3, 29, 0}, {17, math.MaxInt, 29, 0},
		{24, 1, 29, 16}, {24, 2, 29, 8}, {24, 3, 29, 0}, {25, 1, 29, 24}, {25, 3, 29, 8}, {25, 4, 29, 0},
		{29, 1, 29, 24}, {29, 2, 29, 16}, {29, 3, 29, 8}, {29, 4, 29, 0}, {29, math.MaxInt, 29, 0},
	}...)
}

func TestMovesFromWhatDoesNotExist(t *testing.T) {
	checkMoves(t, made(t, 20), []move{
		{-1, 0, 0, 0}, {-1, 1, 8, 0}, {-1, 2, 16, 0}, {-1, 3, 19, 0}, {math.MinInt, 0, 0, 0}, {math.MinInt, 1, 8, 0}, {math.MinInt, math.MaxInt, 19, 0}, {-20, 1, 8, 0},
		{20, 0, 19, 19}, {20, 1, 19, 16}, {20, 2, 19, 8}, {20, 3, 19, 0}, {math.MaxInt, 0, 19, 19}, {math.MaxInt, 1, 19, 16}, {math.MaxInt, math.MaxInt, 19, 0}, {40, 1, 19, 16},
	}...)
	// What is clamped to a stop starts at the stop, and moves on from it.
	checkMoves(t, with(t, 20, 0, 5, 19), []move{
		{-1, 0, 0, 0}, {-1, 1, 5, 0}, {math.MinInt, 1, 5, 0}, {-1, 2, 19, 0}, {-1, math.MinInt, 0, 0},
		{20, 0, 19, 19}, {20, 1, 19, 5}, {math.MaxInt, 1, 19, 5}, {20, 2, 19, 0}, {20, math.MinInt, 19, 19},
	}...)
}

func TestNoMoves(t *testing.T) {
	for _, s := range []*Stops{made(t, 20), with(t, 20), with(t, 20, 0, 5, 19)} {
		for _, n := range []int{0, -1, -2, -20, math.MinInt + 1, math.MinInt} {
			checkMoves(t, s, move{0, n, 0, 0}, move{5, n, 5, 5}, move{8, n, 8, 8}, move{19, n, 19, 19}, move{-1, n, 0, 0}, move{20, n, 19, 19}, move{math.MinInt, n, 0, 0}, move{math.MaxInt, n, 19, 19})
		}
	}
}

func TestMovesWithStopsAtTheEnds(t *testing.T) {
	checkMoves(t, with(t, 10, 0, 9), []move{
		{0, 1, 9, 0}, {0, 2, 9, 0}, {1, 1, 9, 0}, {5, 1, 9, 0}, {5, 2, 9, 0}, {8, 1, 9, 0}, {9, 1, 9, 0}, {9, 2, 9, 0}, {5, math.MaxInt, 9, 0},
	}...)
	checkMoves(t, with(t, 10, 0), []move{{0, 1, 9, 0}, {1, 1, 9, 0}, {9, 1, 9, 0}, {9, 2, 9, 0}}...)
	checkMoves(t, with(t, 10, 9), []move{{0, 1, 9, 0}, {1, 1, 9, 0}, {9, 1, 9, 0}, {8, 1, 9, 0}, {0, 2, 9, 0}}...)
	checkMoves(t, with(t, 10, 0, 1, 8, 9), []move{
		{0, 1, 1, 0}, {0, 2, 8, 0}, {0, 3, 9, 0}, {0, 4, 9, 0}, {5, 1, 8, 1}, {5, 2, 9, 0}, {5, 3, 9, 0}, {9, 1, 9, 8}, {9, 2, 9, 1}, {9, 3, 9, 0}, {9, 4, 9, 0},
	}...)
}

func TestMovesWithoutStops(t *testing.T) {
	checkMoves(t, with(t, 10), []move{{0, 1, 9, 0}, {5, 1, 9, 0}, {5, 2, 9, 0}, {9, 1, 9, 0}, {-1, 1, 9, 0}, {10, 1, 9, 0}, {5, math.MaxInt, 9, 0}}...)
	checkMoves(t, made(t, 1), []move{{0, 0, 0, 0}, {0, 1, 0, 0}, {-1, 1, 0, 0}, {1, 1, 0, 0}, {0, math.MaxInt, 0, 0}}...)
	checkMoves(t, with(t, 1, 0), []move{{0, 0, 0, 0}, {0, 1, 0, 0}, {-1, 1, 0, 0}, {1, 1, 0, 0}, {0, math.MaxInt, 0, 0}}...)
}

func TestMovesWithEachSetOfStops(t *testing.T) {
	for cols := 1; cols <= 9; cols++ {
		for bits := range 1 << cols {
			stops := subset(cols, bits)
			agreeOnMoves(t, "a set of stops", with(t, cols, stops...), slowOf(cols, stops...), around(cols), around(cols))
		}
	}
}

func TestMovesOfAllSizes(t *testing.T) {
	for cols := 1; cols <= api.MaxCols; cols++ {
		agreeOnMoves(t, "a new row", made(t, cols), slowNew(cols), around(cols), around(cols/Every+1))
	}
}

func TestMovesCountAsManyStepsAsOneByOne(t *testing.T) {
	s := with(t, api.MaxCols, 0, 1, 2, 40, 77, 78, 130, 131)
	for col := range api.MaxCols {
		next, back := col, col
		for n := range 12 {
			if s.Next(col, n) != next || s.Back(col, n) != back {
				t.Errorf("from %d by %d: Next %d, Back %d, want %d, %d", col, n, s.Next(col, n), s.Back(col, n), next, back)
			}
			next, back = s.Next(next, 1), s.Back(back, 1)
		}
	}
}

// P11.3

func TestResizeByHand(t *testing.T) {
	for _, x := range []struct {
		before []int
		cols   int
		want   []int
	}{
		// 20 columns become fewer, as many, and more.
		{[]int{8, 16}, 20, []int{8, 16}}, {[]int{8, 16}, 17, []int{8, 16}}, {[]int{8, 16}, 16, []int{8}}, {[]int{8, 16}, 9, []int{8}}, {[]int{8, 16}, 8, nil}, {[]int{8, 16}, 1, nil},
		{[]int{8, 16}, 21, []int{8, 16}}, {[]int{8, 16}, 24, []int{8, 16}}, {[]int{8, 16}, 25, []int{8, 16, 24}}, {[]int{8, 16}, 32, []int{8, 16, 24}}, {[]int{8, 16}, 33, []int{8, 16, 24, 32}},
		// Stops that are no multiples remain, and multiples that were cleared do not become stops.
		{[]int{0, 3, 19}, 20, []int{0, 3, 19}}, {[]int{0, 3, 19}, 19, []int{0, 3}}, {[]int{0, 3, 19}, 4, []int{0, 3}}, {[]int{0, 3, 19}, 3, []int{0}}, {[]int{0, 3, 19}, 1, []int{0}},
		{[]int{0, 3, 19}, 25, []int{0, 3, 19, 24}}, {[]int{0, 3, 19}, 24, []int{0, 3, 19}}, {nil, 20, nil}, {nil, 24, nil}, {nil, 25, []int{24}}, {nil, 41, []int{24, 32, 40}}, {nil, 1, nil},
	} {
		s := with(t, 20, x.before...)
		if e := s.Resize(x.cols); e != api.OK {
			t.Errorf("Resize(%d): error %d", x.cols, e)
		}
		hasStops(t, fmt.Sprintf("Resize(%d) of %v", x.cols, x.before), s, x.want...)
		if last := s.Next(math.MaxInt, 1); last != x.cols-1 {
			t.Errorf("after Resize(%d) the last column is %d", x.cols, last)
		}
	}
}

func TestResizeFromAMultiple(t *testing.T) {
	// The previous number of columns is the first new column.
	s := with(t, 8)
	s.Resize(9)
	hasStops(t, "from 8 to 9 columns", s, 8)
	s = with(t, 9)
	s.Resize(16)
	hasStops(t, "from 9 to 16 columns", s)
	s.Resize(17)
	hasStops(t, "from 16 to 17 columns", s, 16)
	s = with(t, 1)
	s.Resize(8)
	hasStops(t, "from 1 to 8 columns", s)
	s = with(t, 1)
	s.Resize(api.MaxCols)
	agree(t, "from 1 column to the most", s, slowNew(api.MaxCols))
	s = with(t, 1, 0)
	s.Resize(9)
	hasStops(t, "from 1 to 9 columns with a stop at 0", s, 0, 8)
}

func TestWhatWasCutOffIsNew(t *testing.T) {
	// A stop that is no multiple does not come back; a multiple is a stop again, whether it was cleared or not.
	s := with(t, 20, 3, 8, 18, 19)
	s.Resize(10)
	hasStops(t, "fewer", s, 3, 8)
	s.Resize(20)
	hasStops(t, "more again", s, 3, 8, 16)
	s.Resize(8)
	s.Clear(3)
	s.Resize(19)
	hasStops(t, "fewer and more again", s, 8, 16)
	s.Clear(8)
	s.Resize(9)
	s.Resize(19)
	hasStops(t, "8 was cleared and not cut off", s, 16)
	s.Resize(8)
	s.Resize(17)
	hasStops(t, "8 and 16 were cut off", s, 8, 16)
	s.None()
	s.Resize(16)
	s.Resize(40)
	hasStops(t, "only 16 was cut off", s, 16, 24, 32)
}

func TestResizeToTheSameSizeChangesNothing(t *testing.T) {
	for cols := 1; cols <= api.MaxCols; cols++ {
		step(t, made(t, cols), slowNew(cols), call{"Resize", cols})
		step(t, with(t, cols), slowOf(cols), call{"Resize", cols})
		step(t, with(t, cols, 0, cols/2, cols-1), slowOf(cols, 0, cols/2, cols-1), call{"Resize", cols})
	}
}

func TestResizeBetweenAllSizes(t *testing.T) {
	for from := 1; from <= api.MaxCols; from++ {
		all := everyColumn(from)
		for to := 1; to <= api.MaxCols; to++ {
			for _, stops := range [][]int{nil, all, {0, from / 3, from - 1}, slowNew(from).list()} {
				got, s := with(t, from, stops...), slowOf(from, stops...)
				s = step(t, got, s, call{"Resize", to})
				step(t, got, s, call{"Resize", from})
			}
		}
	}
}

// everyColumn returns all columns of a row.
func everyColumn(cols int) []int {
	var l []int
	for col := range cols {
		l = append(l, col)
	}
	return l
}

func TestResizeMakesTheColumnsThatExist(t *testing.T) {
	for _, x := range []struct{ from, to int }{{20, 10}, {10, 20}, {1, 132}, {132, 1}, {8, 9}, {9, 8}} {
		got, s := made(t, x.from), slowNew(x.from)
		s = step(t, got, s, call{"Resize", x.to})
		for _, col := range around(api.MaxCols) {
			s = step(t, got, s, call{"Set", col})
		}
		agreeOnMoves(t, x, got, s, around(api.MaxCols), []int{-1, 0, 1, 2, 131, 132, math.MaxInt})
	}
}

func TestErrorsOfResizeHaveNoEffect(t *testing.T) {
	for _, cols := range []int{1, 8, 9, 20, api.MaxCols} {
		for _, stops := range [][]int{nil, {0}, {cols - 1}, slowNew(cols).list(), {0, cols / 2, cols - 1}} {
			got, s := with(t, cols, stops...), slowOf(cols, stops...)
			for _, wrong := range append(far(), -2, -1, 0, api.MaxCols+1, api.MaxCols+2, 2*api.MaxCols) {
				if e := got.Resize(wrong); e != api.ErrSize {
					t.Errorf("Resize(%d) of %d columns: error %d", wrong, cols, e)
				}
				agreeOnMoves(t, fmt.Sprintf("Resize(%d)", wrong), got, s, []int{-1, 0, cols / 2, cols - 1, cols, math.MaxInt}, []int{0, 1, 2, math.MaxInt})
			}
			// The row is as long as it was, for what comes behind the errors too.
			step(t, got, s, call{"Resize", min(cols+9, api.MaxCols)})
		}
	}
}

// P11.4

// randomCall returns any call, mostly with a number near the row.
func randomCall(source *rand.Rand, cols int) call {
	names := []string{"Set", "Set", "Set", "Set", "Clear", "Clear", "Resize", "Set", "Clear", "Set"}
	x := call{name: names[source.Intn(len(names))], n: source.Intn(cols+4) - 2}
	switch {
	case source.Intn(40) == 0:
		x = call{name: "None"}
	case source.Intn(12) == 0:
		x.n = far()[source.Intn(len(far()))]
	case x.name == "Resize":
		x.n = source.Intn(api.MaxCols+6) - 2
	}
	return x
}

// orderly returns whether stops are increasing and existing columns.
func orderly(l []int, cols int) bool {
	for i, col := range l {
		if col < 0 || col > cols-1 || i > 0 && col <= l[i-1] {
			return false
		}
	}
	return true
}

func TestStopsAreIncreasingExistingColumns(t *testing.T) {
	source := rand.New(rand.NewSource(114))
	for range 400 {
		cols := 1 + source.Intn(api.MaxCols)
		got, s := made(t, cols), slowNew(cols)
		var calls []call
		for range 200 {
			x := randomCall(source, s.cols)
			calls = append(calls, x)
			s = step(t, got, s, x)
			if l := got.List(); !orderly(l, s.cols) {
				t.Fatalf("after New(%d) and %v the stops are %v of %d columns", cols, calls, l, s.cols)
			}
			if source.Intn(20) == 0 {
				agreeOnMoves(t, "any calls", got, s, []int{-1, 0, source.Intn(s.cols), source.Intn(s.cols), s.cols - 1, s.cols}, []int{0, 1, 2, source.Intn(20), math.MaxInt})
			}
		}
	}
}

// P1 and P2

func TestAnyNumbersAreTaken(t *testing.T) {
	all := append(far(), -1, 0, 1, 7, 8, 9, 131, 132, 133)
	for _, cols := range []int{1, 9, api.MaxCols} {
		for _, stops := range [][]int{nil, {0}, {cols - 1}, {0, cols / 2, cols - 1}} {
			for _, n := range all {
				for _, name := range []string{"Set", "Clear", "None", "Resize"} {
					step(t, with(t, cols, stops...), slowOf(cols, stops...), call{name, n})
				}
			}
			agreeOnMoves(t, "any numbers", with(t, cols, stops...), slowOf(cols, stops...), all, all)
		}
	}
}

// spoil overwrites a list with its spare capacity.
func spoil(l []int) {
	l = l[:cap(l)]
	for i := range l {
		l[i] = -7
	}
}

// histories are stops that came about in different ways, so that their memory has room behind it or not.
func histories(t *testing.T) map[string]*Stops {
	all := map[string]*Stops{
		"new": made(t, 20), "one column": made(t, 1), "none": with(t, 20), "set": with(t, 20, 3, 5, 19), "cleared": with(t, 20, 1, 2, 3), "cut off": made(t, api.MaxCols), "grown": made(t, 10),
	}
	all["cleared"].Clear(2)
	all["cut off"].Resize(20)
	all["grown"].Resize(api.MaxCols)
	return all
}

func TestListIsNewMemory(t *testing.T) {
	for name, s := range histories(t) {
		want := slices.Clone(s.List())
		first, second := s.List(), s.List()
		spoil(first)
		if !slices.Equal(second, want) {
			t.Errorf("%s: a change of a list changed another one: %v", name, second)
		}
		if l := s.List(); !slices.Equal(l, want) {
			t.Errorf("%s: a change of a list changed the stops: %v", name, l)
		}
		_ = append(first[:0], -9, -8, -7)
		spoil(second)
		s.Set(0)
		s.Clear(0)
		if l := s.List(); !slices.Equal(l, want) {
			t.Errorf("%s: a change of a list changed the stops: %v", name, l)
		}
	}
}

func TestCallsDoNotChangeWhatListReturned(t *testing.T) {
	for _, x := range []call{{"Set", 0}, {"Set", 9}, {"Set", 18}, {"Clear", 8}, {"Clear", 3}, {"Clear", 16}, {"None", 0}, {"Resize", 1}, {"Resize", 9}, {"Resize", 60}, {"Resize", api.MaxCols}} {
		for name, s := range histories(t) {
			l := s.List()
			want := slices.Clone(l)
			x.onStops(s)
			call{"Set", 0}.onStops(s)
			call{"Set", 1}.onStops(s)
			if !slices.Equal(l, want) {
				t.Errorf("%s: %v changed what was returned ahead of it: %v, want %v", name, x, l, want)
			}
		}
	}
}

func TestStopsShareNothing(t *testing.T) {
	for _, x := range []call{{"Set", 0}, {"Set", 9}, {"Clear", 8}, {"Clear", 16}, {"None", 0}, {"Resize", 1}, {"Resize", 40}} {
		a, b := made(t, 20), made(t, 20)
		x.onStops(a)
		agree(t, fmt.Sprint(x, " of another row"), b, slowNew(20))
		agree(t, fmt.Sprint("a row made behind ", x), made(t, 20), slowNew(20))
		spoil(a.List())
		agree(t, fmt.Sprint(x, " and a change of a list of another row"), b, slowNew(20))
	}
}

func TestReadingChangesNothing(t *testing.T) {
	stops := []int{0, 3, 8, 16, 19}
	got, s := with(t, 20, stops...), slowOf(20, stops...)
	for range 2 {
		agreeOnMoves(t, "reading", got, s, around(20), around(7))
	}
}
