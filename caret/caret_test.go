package caret

import (
	"math"
	"math/rand"
	"testing"

	"baton/api"
)

// The slow functions are the chapter's sentences, read one by one. They enumerate what there is and go step by step, so that they share no arithmetic with the program.

// slowRight looks the area up among all that are valid with its number of rows.
func slowRight(a Area) bool {
	rows, cols := false, false
	for n := 1; n <= 60; n++ {
		rows = rows || a.Rows == n
	}
	for n := 1; n <= 132; n++ {
		cols = cols || a.Cols == n
	}
	if !rows || !cols {
		return false
	}
	if a.Rows == 1 && a.Top == 0 && a.Bottom == 0 {
		return true
	}
	for top := range a.Rows {
		for bottom := top + 1; bottom < a.Rows; bottom++ {
			if a.Top == top && a.Bottom == bottom {
				return true
			}
		}
	}
	return false
}

// slowFits looks the caret up among all that fit.
func slowFits(a Area, c Caret) bool {
	for row := range a.Rows {
		for col := range a.Cols {
			if c == (Caret{Row: row, Col: col}) {
				return true
			}
		}
		if a.Cols > 0 && c == (Caret{Row: row, Col: a.Cols - 1, Wait: true}) {
			return true
		}
	}
	return false
}

// number returns the row that n stands for in Margins.
func number(a Area, n, otherwise int) int {
	if n <= 0 {
		return otherwise
	}
	if n > a.Rows {
		return a.Rows
	}
	return n
}

func slowMargins(a Area, top, bottom int) (Area, bool) {
	top, bottom = number(a, top, 1), number(a, bottom, a.Rows)
	if top < bottom {
		return Area{a.Rows, a.Cols, top - 1, bottom - 1, a.Origin}, true
	}
	return a, false
}

// move goes n steps, and ends where a step is not allowed.
func move(c Caret, n, down, right int, allowed func(Caret) bool) Caret {
	c.Wait = false
	if n < 1 {
		n = 1
	}
	for ; n > 0; n-- {
		next := Caret{Row: c.Row + down, Col: c.Col + right}
		if !allowed(next) {
			break
		}
		c = next
	}
	return c
}

func slowUp(a Area, c Caret, n int) Caret {
	above := c.Row < a.Top
	return move(c, n, -1, 0, func(c Caret) bool {
		if above {
			return c.Row != -1
		}
		return c.Row != a.Top-1
	})
}

func slowDown(a Area, c Caret, n int) Caret {
	below := c.Row > a.Bottom
	return move(c, n, 1, 0, func(c Caret) bool {
		if below {
			return c.Row != a.Rows
		}
		return c.Row != a.Bottom+1
	})
}

func slowLeft(a Area, c Caret, n int) Caret {
	return move(c, n, 0, -1, func(c Caret) bool { return c.Col != -1 })
}

func slowAhead(a Area, c Caret, n int) Caret {
	return move(c, n, 0, 1, func(c Caret) bool { return c.Col != a.Cols })
}

// count goes from the first number to the nth, counted from 1, and ends at the last.
func count(first, last, n int) int {
	for at := first; ; at++ {
		if n <= 1 || at == last {
			return at
		}
		n--
	}
}

func slowGoto(a Area, row, col int) Caret {
	c := Caret{Row: count(0, a.Rows-1, row), Col: count(0, a.Cols-1, col)}
	if a.Origin {
		c.Row = count(a.Top, a.Bottom, row)
	}
	return c
}

func slowFeed(a Area, c Caret) (Caret, int) {
	switch {
	case c.Row == a.Bottom:
		return c, 1
	case c.Row == a.Rows-1:
		return c, 0
	}
	return Caret{c.Row + 1, c.Col, c.Wait}, 0
}

func slowBack(a Area, c Caret) (Caret, int) {
	switch {
	case c.Row == a.Top:
		return c, 1
	case c.Row == 0:
		return c, 0
	}
	return Caret{c.Row - 1, c.Col, c.Wait}, 0
}

func slowWrote(a Area, c Caret, wrap bool) Caret {
	if !slowFits(a, Caret{Row: c.Row, Col: c.Col + 1}) {
		return Caret{c.Row, c.Col, wrap}
	}
	return Caret{c.Row, c.Col + 1, false}
}

// nearest returns the one of the numbers from 0 that is nearest to n. It compares numbers of the same sign only, so that no difference overflows.
func nearest(n, numbers int) int {
	if n < 0 {
		return 0
	}
	best := 0
	for k := range numbers {
		if far(n, k) < far(n, best) {
			best = k
		}
	}
	return best
}

func far(n, k int) int {
	if n < k {
		return k - n
	}
	return n - k
}

func slowHold(a Area, c Caret) Caret {
	h := Caret{Row: nearest(c.Row, a.Rows), Col: nearest(c.Col, a.Cols)}
	h.Wait = c.Wait && c.Col == a.Cols-1
	return h
}

// area returns an area without Origin.
func area(rows, cols, top, bottom int) Area {
	return Area{Rows: rows, Cols: cols, Top: top, Bottom: bottom}
}

// origin returns the same area with Origin.
func origin(a Area) Area {
	a.Origin = true
	return a
}

func at(row, col int) Caret { return Caret{Row: row, Col: col} }

func wait(row, col int) Caret { return Caret{Row: row, Col: col, Wait: true} }

// areas returns every valid area of this size.
func areas(rows, cols int) []Area {
	if rows == 1 {
		return []Area{area(1, cols, 0, 0), origin(area(1, cols, 0, 0))}
	}
	var l []Area
	for top := range rows {
		for bottom := top + 1; bottom < rows; bottom++ {
			a := area(rows, cols, top, bottom)
			l = append(l, a, origin(a))
		}
	}
	return l
}

// small returns every valid area of few rows and columns.
func small() []Area {
	var l []Area
	for rows := 1; rows <= 6; rows++ {
		for cols := 1; cols <= 4; cols++ {
			l = append(l, areas(rows, cols)...)
		}
	}
	return l
}

// large returns areas of the greatest sizes.
func large() []Area {
	l := []Area{area(1, 132, 0, 0)}
	for _, a := range []Area{area(60, 132, 0, 59), area(60, 132, 10, 40), area(60, 1, 58, 59), area(59, 131, 0, 1), area(2, 132, 0, 1)} {
		l = append(l, a, origin(a))
	}
	return l
}

// carets returns every caret that fits in a.
func carets(a Area) []Caret {
	var l []Caret
	for row := range a.Rows {
		for col := range a.Cols {
			l = append(l, at(row, col))
		}
		l = append(l, wait(row, a.Cols-1))
	}
	return l
}

// borders returns the carets that fit in a at its borders and those of its region, and beside them.
func borders(a Area) []Caret {
	var l []Caret
	for _, row := range []int{0, a.Top - 1, a.Top, a.Top + 1, a.Bottom - 1, a.Bottom, a.Bottom + 1, a.Rows - 1} {
		for _, col := range []int{0, a.Cols / 2, a.Cols - 2, a.Cols - 1} {
			if slowFits(a, at(row, col)) {
				l = append(l, at(row, col))
			}
		}
		if slowFits(a, wait(row, a.Cols-1)) {
			l = append(l, wait(row, a.Cols-1))
		}
	}
	return l
}

// numbers returns those around 0, around each of the given, and at the ends of int.
func numbers(around ...int) []int {
	l := []int{math.MinInt, math.MinInt + 1, math.MinInt32, -100, math.MaxInt32, math.MaxInt - 1, math.MaxInt}
	for _, n := range append(around, 0) {
		for more := -2; more <= 2; more++ {
			l = append(l, n+more)
		}
	}
	return l
}

// every calls f with every small area and caret, and with the large areas and the carets at their borders.
func every(f func(Area, Caret)) {
	for _, a := range small() {
		for _, c := range carets(a) {
			f(a, c)
		}
	}
	for _, a := range large() {
		for _, c := range borders(a) {
			f(a, c)
		}
	}
}

// P14.1

func TestRight(t *testing.T) {
	for _, x := range []struct {
		a    Area
		want bool
	}{
		{area(24, 80, 0, 23), true},
		{area(24, 80, 3, 9), true},
		{area(0, 80, 0, 0), false},
		{area(0, 80, 0, -1), false},
		{area(1, 80, 0, 0), true},
		{area(2, 80, 0, 1), true},
		{area(60, 80, 0, 59), true},
		{area(61, 80, 0, 60), false},
		{area(61, 80, 0, 59), false},
		{area(-1, 80, 0, 0), false},
		{area(math.MinInt, 80, 0, 0), false},
		{area(math.MaxInt, 80, 0, 23), false},
		{area(24, 0, 0, 23), false},
		{area(24, 1, 0, 23), true},
		{area(24, 132, 0, 23), true},
		{area(24, 133, 0, 23), false},
		{area(24, -1, 0, 23), false},
		{area(24, math.MinInt, 0, 23), false},
		{area(24, math.MaxInt, 0, 23), false},
		{area(1, 0, 0, 0), false},
		{area(1, 133, 0, 0), false},
		{area(24, 80, -1, 23), false},
		{area(24, 80, -1, 0), false},
		{area(24, 80, math.MinInt, 23), false},
		{area(24, 80, 22, 23), true},
		{area(24, 80, 23, 23), false},
		{area(24, 80, 23, 24), false},
		{area(24, 80, 0, 0), false},
		{area(24, 80, 7, 7), false},
		{area(24, 80, 7, 6), false},
		{area(24, 80, 7, 8), true},
		{area(24, 80, 0, 1), true},
		{area(24, 80, 0, 24), false},
		{area(24, 80, 0, 22), true},
		{area(24, 80, 0, -1), false},
		{area(24, 80, 0, math.MaxInt), false},
		{area(24, 80, 0, math.MinInt), false},
		{area(24, 80, math.MaxInt, math.MinInt), false},
		{area(1, 80, 0, 1), false},
		{area(1, 80, 1, 1), false},
		{area(1, 80, -1, 0), false},
		{area(1, 80, -1, -1), false},
		{area(1, 80, 0, -1), false},
		{area(1, 80, 1, 0), false},
		{Area{}, false},
	} {
		for _, a := range []Area{x.a, origin(x.a)} {
			if Right(a) != x.want {
				t.Errorf("Right(%v) is %v", a, !x.want)
			}
		}
	}
}

func TestRightAsTheSentencesSay(t *testing.T) {
	for _, rows := range numbers(5, 60) {
		for _, cols := range []int{-1, 0, 1, 2, 7, 131, 132, 133, 264, math.MaxInt, math.MinInt} {
			for _, top := range numbers(rows) {
				for _, bottom := range numbers(rows) {
					a := area(rows, cols, top, bottom)
					if Right(a) != slowRight(a) || Right(origin(a)) != slowRight(a) {
						t.Fatalf("Right(%v) is %v", a, Right(a))
					}
				}
			}
		}
	}
	for _, a := range append(small(), large()...) {
		if !Right(a) {
			t.Errorf("Right(%v) is false", a)
		}
	}
}

func TestFits(t *testing.T) {
	a := area(24, 80, 3, 9)
	for _, x := range []struct {
		c    Caret
		want bool
	}{
		{at(0, 0), true},
		{at(0, 79), true},
		{at(23, 0), true},
		{at(23, 79), true},
		{at(12, 40), true},
		{at(-1, 0), false},
		{at(0, -1), false},
		{at(-1, 79), false},
		{at(0, 80), false},
		{at(24, 0), false},
		{at(23, -1), false},
		{at(24, 79), false},
		{at(23, 80), false},
		{at(24, 80), false},
		{at(-1, -1), false},
		{at(12, 80), false},
		{at(24, 40), false},
		{at(math.MinInt, 0), false},
		{at(math.MaxInt, 0), false},
		{at(0, math.MinInt), false},
		{at(0, math.MaxInt), false},
		{wait(0, 79), true},
		{wait(12, 79), true},
		{wait(23, 79), true},
		{wait(0, 0), false},
		{wait(0, 78), false},
		{wait(23, 0), false},
		{wait(23, 78), false},
		{wait(0, 80), false},
		{wait(0, -1), false},
		{wait(-1, 79), false},
		{wait(24, 79), false},
	} {
		for _, a := range []Area{a, origin(a)} {
			if Fits(a, x.c) != x.want {
				t.Errorf("Fits(%v, %v) is %v", a, x.c, !x.want)
			}
		}
	}
	one := area(1, 1, 0, 0)
	if !Fits(one, at(0, 0)) || !Fits(one, wait(0, 0)) || Fits(one, at(0, 1)) || Fits(one, at(1, 0)) {
		t.Error("Fits in one cell")
	}
}

func TestFitsAsTheSentencesSay(t *testing.T) {
	// An area that is not valid has positions too, if it has any rows and columns.
	l := append(small(), large()...)
	l = append(l, Area{}, area(-1, 3, 0, 0), area(3, -1, 0, 1), area(3, 0, 0, 1), area(70, 3, -4, 99), area(3, 140, 2, 2))
	for _, a := range l {
		for _, row := range numbers(a.Rows) {
			for _, col := range numbers(a.Cols) {
				for _, c := range []Caret{at(row, col), wait(row, col)} {
					if Fits(a, c) != slowFits(a, c) {
						t.Fatalf("Fits(%v, %v) is %v", a, c, Fits(a, c))
					}
				}
			}
		}
	}
}

func TestWhole(t *testing.T) {
	for _, x := range []struct {
		rows, cols int
		want       Area
		e          api.Errno
	}{
		{24, 80, area(24, 80, 0, 23), api.OK},
		{1, 1, area(1, 1, 0, 0), api.OK},
		{2, 1, area(2, 1, 0, 1), api.OK},
		{1, 132, area(1, 132, 0, 0), api.OK},
		{60, 1, area(60, 1, 0, 59), api.OK},
		{60, 132, area(60, 132, 0, 59), api.OK},
		{0, 80, Area{}, api.ErrSize},
		{61, 80, Area{}, api.ErrSize},
		{24, 0, Area{}, api.ErrSize},
		{24, 133, Area{}, api.ErrSize},
		{0, 0, Area{}, api.ErrSize},
		{61, 133, Area{}, api.ErrSize},
		{-1, 80, Area{}, api.ErrSize},
		{24, -1, Area{}, api.ErrSize},
		{math.MinInt, 80, Area{}, api.ErrSize},
		{math.MaxInt, 80, Area{}, api.ErrSize},
		{24, math.MinInt, Area{}, api.ErrSize},
		{24, math.MaxInt, Area{}, api.ErrSize},
		{math.MinInt, math.MinInt, Area{}, api.ErrSize},
		{math.MaxInt, math.MaxInt, Area{}, api.ErrSize},
	} {
		if a, e := Whole(x.rows, x.cols); a != x.want || e != x.e {
			t.Errorf("Whole(%d, %d) is %v, %d", x.rows, x.cols, a, e)
		}
	}
	for rows := -1; rows <= 62; rows++ {
		for cols := -1; cols <= 134; cols++ {
			a, e := Whole(rows, cols)
			if rows < 1 || rows > 60 || cols < 1 || cols > 132 {
				if a != (Area{}) || e != api.ErrSize {
					t.Fatalf("Whole(%d, %d) is %v, %d", rows, cols, a, e)
				}
			} else if a != area(rows, cols, 0, rows-1) || e != api.OK || !Right(a) {
				t.Fatalf("Whole(%d, %d) is %v, %d", rows, cols, a, e)
			}
		}
	}
}

func TestMargins(t *testing.T) {
	whole := area(24, 80, 0, 23)
	other := area(24, 80, 5, 6)
	for _, x := range []struct {
		a           Area
		top, bottom int
		ok          bool
		first, last int
	}{
		{whole, 3, 9, true, 2, 8},
		{whole, 0, 0, true, 0, 23},
		{whole, -1, -1, true, 0, 23},
		{whole, 1, 24, true, 0, 23},
		{whole, 1, 25, true, 0, 23},
		{whole, 0, 25, true, 0, 23},
		{whole, math.MinInt, math.MinInt, true, 0, 23},
		{whole, math.MinInt, math.MaxInt, true, 0, 23},
		{whole, 1, math.MaxInt, true, 0, 23},
		{whole, 0, 2, true, 0, 1},
		{whole, -1, 2, true, 0, 1},
		{whole, 1, 2, true, 0, 1},
		{whole, 2, 2, false, 0, 0},
		{whole, 3, 2, false, 0, 0},
		{whole, 1, 1, false, 0, 0},
		{whole, 0, 1, false, 0, 0},
		{whole, -1, 1, false, 0, 0},
		{whole, math.MinInt, 1, false, 0, 0},
		{whole, 2, 1, false, 0, 0},
		{whole, 2, 0, true, 1, 23},
		{whole, 2, -1, true, 1, 23},
		{whole, 2, math.MinInt, true, 1, 23},
		{whole, 23, 24, true, 22, 23},
		{whole, 23, 25, true, 22, 23},
		{whole, 23, 0, true, 22, 23},
		{whole, 23, math.MaxInt, true, 22, 23},
		{whole, 24, 24, false, 0, 0},
		{whole, 24, 25, false, 0, 0},
		{whole, 24, 0, false, 0, 0},
		{whole, 24, math.MaxInt, false, 0, 0},
		{whole, 24, 23, false, 0, 0},
		{whole, 25, 0, false, 0, 0},
		{whole, 25, 26, false, 0, 0},
		{whole, 25, math.MaxInt, false, 0, 0},
		{whole, math.MaxInt, 0, false, 0, 0},
		{whole, math.MaxInt, math.MaxInt, false, 0, 0},
		{whole, math.MaxInt, math.MinInt, false, 0, 0},
		{other, 3, 9, true, 2, 8},
		{other, 0, 0, true, 0, 23},
		{other, 9, 3, false, 0, 0},
		{other, 6, 6, false, 0, 0},
		{other, 6, 7, true, 5, 6},
		{area(2, 80, 0, 1), 1, 2, true, 0, 1},
		{area(2, 80, 0, 1), 2, 2, false, 0, 0},
		{area(2, 80, 0, 1), 1, 1, false, 0, 0},
		{area(2, 80, 0, 1), 0, 0, true, 0, 1},
		{area(1, 80, 0, 0), 1, 1, false, 0, 0},
		{area(1, 80, 0, 0), 0, 0, false, 0, 0},
		{area(1, 80, 0, 0), -1, -1, false, 0, 0},
		{area(1, 80, 0, 0), 1, 2, false, 0, 0},
		{area(1, 80, 0, 0), 0, 2, false, 0, 0},
		{area(1, 80, 0, 0), math.MinInt, math.MaxInt, false, 0, 0},
	} {
		for _, a := range []Area{x.a, origin(x.a)} {
			want := a
			if x.ok {
				want.Top, want.Bottom = x.first, x.last
			}
			if m, ok := Margins(a, x.top, x.bottom); m != want || ok != x.ok {
				t.Errorf("Margins(%v, %d, %d) is %v, %v", a, x.top, x.bottom, m, ok)
			}
		}
	}
}

func TestMarginsAsTheSentencesSay(t *testing.T) {
	for _, a := range append(small(), large()...) {
		for _, top := range numbers(a.Rows, a.Top, a.Bottom) {
			for _, bottom := range numbers(a.Rows, a.Top, a.Bottom) {
				m, ok := Margins(a, top, bottom)
				want, wantOK := slowMargins(a, top, bottom)
				if m != want || ok != wantOK {
					t.Fatalf("Margins(%v, %d, %d) is %v, %v", a, top, bottom, m, ok)
				}
				if !Right(m) {
					t.Fatalf("Margins(%v, %d, %d) is %v, which is not valid", a, top, bottom, m)
				}
			}
		}
	}
}

// P14.2

// moved is a move by hand: from where, how far, and to where.
type moved struct {
	from Caret
	n    int
	want Caret
}

// checkMoves checks moves by hand, in an area with and without Origin.
func checkMoves(t *testing.T, name string, a Area, f func(Area, Caret, int) Caret, l []moved) {
	t.Helper()
	for _, a := range []Area{a, origin(a)} {
		for _, x := range l {
			if c := f(a, x.from, x.n); c != x.want {
				t.Errorf("%s(%v, %v, %d) is %v, not %v", name, a, x.from, x.n, c, x.want)
			}
		}
	}
}

func TestUp(t *testing.T) {
	checkMoves(t, "Up", area(24, 80, 5, 15), Up, []moved{
		// Within the region, its top is the border.
		{at(10, 7), 1, at(9, 7)},
		{at(10, 7), 0, at(9, 7)},
		{at(10, 7), -1, at(9, 7)},
		{at(10, 7), math.MinInt, at(9, 7)},
		{at(10, 7), 4, at(6, 7)},
		{at(10, 7), 5, at(5, 7)},
		{at(10, 7), 6, at(5, 7)},
		{at(10, 7), math.MaxInt, at(5, 7)},
		{at(15, 0), 10, at(5, 0)},
		{at(15, 0), 11, at(5, 0)},
		{at(6, 0), 1, at(5, 0)},
		{at(6, 0), 2, at(5, 0)},
		// At its top, no move is left.
		{at(5, 7), 0, at(5, 7)},
		{at(5, 7), -1, at(5, 7)},
		{at(5, 7), 1, at(5, 7)},
		{at(5, 7), math.MinInt, at(5, 7)},
		{at(5, 7), math.MaxInt, at(5, 7)},
		// Above it, row 0 is the border.
		{at(4, 7), 0, at(3, 7)},
		{at(4, 7), -1, at(3, 7)},
		{at(4, 7), 1, at(3, 7)},
		{at(4, 7), math.MinInt, at(3, 7)},
		{at(4, 7), 3, at(1, 7)},
		{at(4, 7), 4, at(0, 7)},
		{at(4, 7), 5, at(0, 7)},
		{at(4, 7), math.MaxInt, at(0, 7)},
		{at(0, 7), 0, at(0, 7)},
		{at(0, 7), 1, at(0, 7)},
		{at(0, 7), math.MinInt, at(0, 7)},
		{at(0, 7), math.MaxInt, at(0, 7)},
		// From below, the way ends at the region's top too.
		{at(16, 7), 0, at(15, 7)},
		{at(16, 7), 1, at(15, 7)},
		{at(16, 7), 10, at(6, 7)},
		{at(16, 7), 11, at(5, 7)},
		{at(16, 7), 12, at(5, 7)},
		{at(23, 7), -1, at(22, 7)},
		{at(23, 7), math.MinInt, at(22, 7)},
		{at(23, 7), 18, at(5, 7)},
		{at(23, 7), 19, at(5, 7)},
		{at(23, 7), math.MaxInt, at(5, 7)},
		// None of them waits.
		{wait(10, 79), 1, at(9, 79)},
		{wait(10, 79), 5, at(5, 79)},
		{wait(5, 79), 1, at(5, 79)},
		{wait(0, 79), 1, at(0, 79)},
		{wait(23, 79), math.MaxInt, at(5, 79)},
	})
	checkMoves(t, "Up", area(1, 1, 0, 0), Up, []moved{{at(0, 0), 1, at(0, 0)}, {wait(0, 0), math.MaxInt, at(0, 0)}})
}

func TestDown(t *testing.T) {
	checkMoves(t, "Down", area(24, 80, 5, 15), Down, []moved{
		// Within the region, its bottom is the border.
		{at(10, 7), 1, at(11, 7)},
		{at(10, 7), 0, at(11, 7)},
		{at(10, 7), -1, at(11, 7)},
		{at(10, 7), math.MinInt, at(11, 7)},
		{at(10, 7), 4, at(14, 7)},
		{at(10, 7), 5, at(15, 7)},
		{at(10, 7), 6, at(15, 7)},
		{at(10, 7), math.MaxInt, at(15, 7)},
		{at(5, 0), 10, at(15, 0)},
		{at(5, 0), 11, at(15, 0)},
		{at(14, 0), 1, at(15, 0)},
		{at(14, 0), 2, at(15, 0)},
		// At its bottom, no move is left.
		{at(15, 7), 0, at(15, 7)},
		{at(15, 7), -1, at(15, 7)},
		{at(15, 7), 1, at(15, 7)},
		{at(15, 7), math.MinInt, at(15, 7)},
		{at(15, 7), math.MaxInt, at(15, 7)},
		// Below it, the last row is the border.
		{at(16, 7), 0, at(17, 7)},
		{at(16, 7), -1, at(17, 7)},
		{at(16, 7), 1, at(17, 7)},
		{at(16, 7), math.MinInt, at(17, 7)},
		{at(16, 7), 6, at(22, 7)},
		{at(16, 7), 7, at(23, 7)},
		{at(16, 7), 8, at(23, 7)},
		{at(16, 7), math.MaxInt, at(23, 7)},
		{at(23, 7), 0, at(23, 7)},
		{at(23, 7), 1, at(23, 7)},
		{at(23, 7), math.MinInt, at(23, 7)},
		{at(23, 7), math.MaxInt, at(23, 7)},
		// From above, the way ends at the region's bottom too.
		{at(4, 7), 0, at(5, 7)},
		{at(4, 7), 1, at(5, 7)},
		{at(4, 7), 10, at(14, 7)},
		{at(4, 7), 11, at(15, 7)},
		{at(4, 7), 12, at(15, 7)},
		{at(0, 7), -1, at(1, 7)},
		{at(0, 7), math.MinInt, at(1, 7)},
		{at(0, 7), 15, at(15, 7)},
		{at(0, 7), 16, at(15, 7)},
		{at(0, 7), math.MaxInt, at(15, 7)},
		// None of them waits.
		{wait(10, 79), 1, at(11, 79)},
		{wait(10, 79), 5, at(15, 79)},
		{wait(15, 79), 1, at(15, 79)},
		{wait(23, 79), 1, at(23, 79)},
		{wait(0, 79), math.MaxInt, at(15, 79)},
	})
	checkMoves(t, "Down", area(1, 1, 0, 0), Down, []moved{{at(0, 0), 1, at(0, 0)}, {wait(0, 0), math.MaxInt, at(0, 0)}})
}

func TestLeft(t *testing.T) {
	checkMoves(t, "Left", area(24, 80, 5, 15), Left, []moved{
		{at(7, 0), 0, at(7, 0)},
		{at(7, 0), -1, at(7, 0)},
		{at(7, 0), 1, at(7, 0)},
		{at(7, 0), math.MinInt, at(7, 0)},
		{at(7, 0), math.MaxInt, at(7, 0)},
		{at(0, 40), 0, at(0, 39)},
		{at(0, 40), -1, at(0, 39)},
		{at(0, 40), 1, at(0, 39)},
		{at(0, 40), math.MinInt, at(0, 39)},
		{at(0, 40), 39, at(0, 1)},
		{at(0, 40), 40, at(0, 0)},
		{at(0, 40), 41, at(0, 0)},
		{at(0, 40), math.MaxInt, at(0, 0)},
		{at(23, 79), 0, at(23, 78)},
		{at(23, 79), -1, at(23, 78)},
		{at(23, 79), 1, at(23, 78)},
		{at(23, 79), math.MinInt, at(23, 78)},
		{at(23, 79), 79, at(23, 0)},
		{at(23, 79), 80, at(23, 0)},
		{at(23, 79), math.MaxInt, at(23, 0)},
		{wait(4, 79), 1, at(4, 78)},
		{wait(16, 79), math.MaxInt, at(16, 0)},
	})
	checkMoves(t, "Left", area(2, 1, 0, 1), Left, []moved{{at(1, 0), 1, at(1, 0)}, {wait(1, 0), 1, at(1, 0)}})
}

func TestAhead(t *testing.T) {
	checkMoves(t, "Ahead", area(24, 80, 5, 15), Ahead, []moved{
		{at(7, 0), 0, at(7, 1)},
		{at(7, 0), -1, at(7, 1)},
		{at(7, 0), 1, at(7, 1)},
		{at(7, 0), math.MinInt, at(7, 1)},
		{at(7, 0), 79, at(7, 79)},
		{at(7, 0), 80, at(7, 79)},
		{at(7, 0), math.MaxInt, at(7, 79)},
		{at(0, 40), 0, at(0, 41)},
		{at(0, 40), -1, at(0, 41)},
		{at(0, 40), 1, at(0, 41)},
		{at(0, 40), math.MinInt, at(0, 41)},
		{at(0, 40), 38, at(0, 78)},
		{at(0, 40), 39, at(0, 79)},
		{at(0, 40), 40, at(0, 79)},
		{at(0, 40), math.MaxInt, at(0, 79)},
		{at(23, 79), 0, at(23, 79)},
		{at(23, 79), -1, at(23, 79)},
		{at(23, 79), 1, at(23, 79)},
		{at(23, 79), math.MinInt, at(23, 79)},
		{at(23, 79), math.MaxInt, at(23, 79)},
		{wait(4, 79), 1, at(4, 79)},
		{wait(16, 79), math.MaxInt, at(16, 79)},
	})
	checkMoves(t, "Ahead", area(2, 1, 0, 1), Ahead, []moved{{at(1, 0), 1, at(1, 0)}, {wait(1, 0), 1, at(1, 0)}})
}

func TestMovesAsTheSentencesSay(t *testing.T) {
	every(func(a Area, c Caret) {
		for _, n := range numbers(c.Row-a.Top, a.Bottom-c.Row, a.Rows, c.Col, a.Cols) {
			for _, x := range []struct {
				name      string
				got, want Caret
			}{
				{"Up", Up(a, c, n), slowUp(a, c, n)},
				{"Down", Down(a, c, n), slowDown(a, c, n)},
				{"Left", Left(a, c, n), slowLeft(a, c, n)},
				{"Ahead", Ahead(a, c, n), slowAhead(a, c, n)},
			} {
				if x.got != x.want || x.got.Wait {
					t.Fatalf("%s(%v, %v, %d) is %v, not %v", x.name, a, c, n, x.got, x.want)
				}
			}
		}
	})
}

func TestGoto(t *testing.T) {
	whole, part := area(24, 80, 0, 23), area(24, 80, 5, 15)
	for _, x := range []struct {
		a        Area
		row, col int
		want     Caret
	}{
		// Without Origin, the region does not count.
		{part, 0, 0, at(0, 0)},
		{part, -1, -1, at(0, 0)},
		{part, 1, 1, at(0, 0)},
		{part, 2, 2, at(1, 1)},
		{part, 5, 7, at(4, 6)},
		{part, 15, 79, at(14, 78)},
		{part, 16, 80, at(15, 79)},
		{part, 17, 81, at(16, 79)},
		{part, 23, 1, at(22, 0)},
		{part, 24, 80, at(23, 79)},
		{part, 25, 81, at(23, 79)},
		{part, 24, 1, at(23, 0)},
		{part, 1, 80, at(0, 79)},
		{part, math.MinInt, math.MinInt, at(0, 0)},
		{part, math.MaxInt, math.MaxInt, at(23, 79)},
		{part, math.MinInt, math.MaxInt, at(0, 79)},
		{part, math.MaxInt, math.MinInt, at(23, 0)},
		{part, 3, 0, at(2, 0)},
		{part, 0, 3, at(0, 2)},
		// With Origin, it does.
		{origin(part), 0, 0, at(5, 0)},
		{origin(part), -1, -1, at(5, 0)},
		{origin(part), 1, 1, at(5, 0)},
		{origin(part), 2, 2, at(6, 1)},
		{origin(part), 10, 79, at(14, 78)},
		{origin(part), 11, 80, at(15, 79)},
		{origin(part), 12, 81, at(15, 79)},
		{origin(part), 15, 80, at(15, 79)},
		{origin(part), 24, 80, at(15, 79)},
		{origin(part), 25, 81, at(15, 79)},
		{origin(part), math.MinInt, math.MinInt, at(5, 0)},
		{origin(part), math.MaxInt, math.MaxInt, at(15, 79)},
		{origin(part), math.MinInt, math.MaxInt, at(5, 79)},
		{origin(part), math.MaxInt, math.MinInt, at(15, 0)},
		// In a region of all rows, both are the same.
		{whole, 24, 80, at(23, 79)},
		{origin(whole), 24, 80, at(23, 79)},
		{whole, 25, 81, at(23, 79)},
		{origin(whole), 25, 81, at(23, 79)},
		{whole, 1, 1, at(0, 0)},
		{origin(whole), 1, 1, at(0, 0)},
		{origin(area(1, 1, 0, 0)), 2, 2, at(0, 0)},
		{area(1, 1, 0, 0), 2, 2, at(0, 0)},
	} {
		if c := Goto(x.a, x.row, x.col); c != x.want {
			t.Errorf("Goto(%v, %d, %d) is %v, not %v", x.a, x.row, x.col, c, x.want)
		}
	}
}

func TestGotoAsTheSentencesSay(t *testing.T) {
	for _, a := range append(small(), large()...) {
		for _, row := range numbers(a.Rows, a.Top, a.Bottom, a.Bottom-a.Top) {
			for _, col := range numbers(a.Cols) {
				c := Goto(a, row, col)
				if c != slowGoto(a, row, col) || c.Wait {
					t.Fatalf("Goto(%v, %d, %d) is %v, not %v", a, row, col, c, slowGoto(a, row, col))
				}
			}
		}
	}
}

// P14.3

// fed is a move by one row by hand: from which row, to which row, and whether the region scrolls.
type fed struct {
	a         Area
	row, want int
	scrolls   int
}

// checkFeeds checks moves by one row by hand, in each column, with and without Wait and Origin.
func checkFeeds(t *testing.T, name string, f func(Area, Caret) (Caret, int), l []fed) {
	t.Helper()
	for _, x := range l {
		last := x.a.Cols - 1
		for _, a := range []Area{x.a, origin(x.a)} {
			for _, c := range []Caret{at(x.row, 0), at(x.row, last/2), at(x.row, last), wait(x.row, last)} {
				want := Caret{Row: x.want, Col: c.Col, Wait: c.Wait}
				if got, n := f(a, c); got != want || n != x.scrolls {
					t.Errorf("%s(%v, %v) is %v, %d, not %v, %d", name, a, c, got, n, want, x.scrolls)
				}
			}
		}
	}
}

func TestFeed(t *testing.T) {
	whole, part := area(24, 80, 0, 23), area(24, 80, 5, 15)
	checkFeeds(t, "Feed", Feed, []fed{
		{whole, 23, 23, 1}, // the chapter's example
		{whole, 22, 23, 0},
		{whole, 0, 1, 0},
		{part, 0, 1, 0},
		{part, 4, 5, 0},
		{part, 5, 6, 0},
		{part, 10, 11, 0},
		{part, 14, 15, 0},
		{part, 15, 15, 1},
		{part, 16, 17, 0},
		{part, 22, 23, 0},
		{part, 23, 23, 0},
		{area(24, 80, 22, 23), 23, 23, 1},
		{area(24, 80, 22, 23), 22, 23, 0},
		{area(24, 80, 21, 22), 22, 22, 1},
		{area(24, 80, 21, 22), 23, 23, 0},
		{area(24, 80, 0, 1), 1, 1, 1},
		{area(24, 80, 0, 1), 0, 1, 0},
		{area(24, 80, 0, 1), 2, 3, 0},
		{area(2, 1, 0, 1), 1, 1, 1},
		{area(1, 80, 0, 0), 0, 0, 1},
	})
}

func TestBack(t *testing.T) {
	whole, part := area(24, 80, 0, 23), area(24, 80, 5, 15)
	checkFeeds(t, "Back", Back, []fed{
		{whole, 0, 0, 1},
		{whole, 1, 0, 0},
		{whole, 23, 22, 0},
		{part, 23, 22, 0},
		{part, 16, 15, 0},
		{part, 15, 14, 0},
		{part, 10, 9, 0},
		{part, 6, 5, 0},
		{part, 5, 5, 1},
		{part, 4, 3, 0},
		{part, 1, 0, 0},
		{part, 0, 0, 0},
		{area(24, 80, 0, 1), 0, 0, 1},
		{area(24, 80, 0, 1), 1, 0, 0},
		{area(24, 80, 1, 2), 1, 1, 1},
		{area(24, 80, 1, 2), 0, 0, 0},
		{area(24, 80, 22, 23), 22, 22, 1},
		{area(24, 80, 22, 23), 23, 22, 0},
		{area(24, 80, 22, 23), 21, 20, 0},
		{area(2, 1, 0, 1), 0, 0, 1},
		{area(1, 80, 0, 0), 0, 0, 1},
	})
}

func TestFeedAndBackAsTheSentencesSay(t *testing.T) {
	every(func(a Area, c Caret) {
		got, n := Feed(a, c)
		want, wantN := slowFeed(a, c)
		if got != want || n != wantN {
			t.Fatalf("Feed(%v, %v) is %v, %d", a, c, got, n)
		}
		got, n = Back(a, c)
		want, wantN = slowBack(a, c)
		if got != want || n != wantN {
			t.Fatalf("Back(%v, %v) is %v, %d", a, c, got, n)
		}
	})
}

// P14.4

func TestWrote(t *testing.T) {
	a, narrow := area(24, 80, 5, 15), area(2, 1, 0, 1)
	for _, x := range []struct {
		a    Area
		c    Caret
		wrap bool
		want Caret
	}{
		{a, at(3, 0), true, at(3, 1)},
		{a, at(3, 0), false, at(3, 1)},
		{a, at(3, 77), true, at(3, 78)},
		{a, at(3, 77), false, at(3, 78)},
		// The last column is reached, but not yet written to.
		{a, at(3, 78), true, at(3, 79)},
		{a, at(3, 78), false, at(3, 79)},
		{a, at(3, 79), true, wait(3, 79)},
		{a, at(3, 79), false, at(3, 79)},
		{a, wait(3, 79), true, wait(3, 79)},
		{a, wait(3, 79), false, at(3, 79)},
		{a, at(23, 79), true, wait(23, 79)},
		{a, at(15, 79), true, wait(15, 79)},
		{narrow, at(1, 0), true, wait(1, 0)},
		{narrow, at(1, 0), false, at(1, 0)},
		{narrow, wait(1, 0), true, wait(1, 0)},
		{narrow, wait(1, 0), false, at(1, 0)},
	} {
		for _, a := range []Area{x.a, origin(x.a)} {
			if c := Wrote(a, x.c, x.wrap); c != x.want {
				t.Errorf("Wrote(%v, %v, %v) is %v, not %v", a, x.c, x.wrap, c, x.want)
			}
		}
	}
}

func TestWroteAsTheSentencesSay(t *testing.T) {
	every(func(a Area, c Caret) {
		for _, wrap := range []bool{false, true} {
			if got := Wrote(a, c, wrap); got != slowWrote(a, c, wrap) {
				t.Fatalf("Wrote(%v, %v, %v) is %v", a, c, wrap, got)
			}
		}
	})
}

func TestHold(t *testing.T) {
	a := area(24, 80, 5, 15)
	for _, x := range []struct{ c, want Caret }{
		{at(0, 0), at(0, 0)},
		{at(3, 7), at(3, 7)},
		{at(10, 40), at(10, 40)},
		{at(23, 79), at(23, 79)},
		{at(-1, 7), at(0, 7)},
		{at(24, 7), at(23, 7)},
		{at(7, -1), at(7, 0)},
		{at(7, 80), at(7, 79)},
		{at(-1, -1), at(0, 0)},
		{at(-1, 80), at(0, 79)},
		{at(24, -1), at(23, 0)},
		{at(24, 80), at(23, 79)},
		{at(math.MinInt, 7), at(0, 7)},
		{at(math.MaxInt, 7), at(23, 7)},
		{at(7, math.MinInt), at(7, 0)},
		{at(7, math.MaxInt), at(7, 79)},
		{at(math.MinInt, math.MaxInt), at(0, 79)},
		{at(math.MaxInt, math.MinInt), at(23, 0)},
		// Wait remains in the last column.
		{wait(7, 79), wait(7, 79)},
		{wait(0, 79), wait(0, 79)},
		{wait(23, 79), wait(23, 79)},
		// It does so too if another row is the nearest.
		{wait(24, 79), wait(23, 79)},
		{wait(-1, 79), wait(0, 79)},
		{wait(math.MinInt, 79), wait(0, 79)},
		{wait(math.MaxInt, 79), wait(23, 79)},
		// It does not ahead of that column.
		{wait(7, 78), at(7, 78)},
		{wait(7, 0), at(7, 0)},
		{wait(7, -1), at(7, 0)},
		{wait(7, math.MinInt), at(7, 0)},
		// It does not beyond it either, though the last column is the nearest.
		{wait(7, 80), at(7, 79)},
		{wait(24, 80), at(23, 79)},
		{wait(7, math.MaxInt), at(7, 79)},
	} {
		for _, a := range []Area{a, origin(a)} {
			if c := Hold(a, x.c); c != x.want {
				t.Errorf("Hold(%v, %v) is %v, not %v", a, x.c, c, x.want)
			}
		}
	}
	one := area(1, 1, 0, 0)
	if Hold(one, wait(0, 0)) != wait(0, 0) || Hold(one, wait(0, 1)) != at(0, 0) || Hold(one, wait(0, -1)) != at(0, 0) || Hold(one, at(9, 9)) != at(0, 0) {
		t.Error("Hold in one cell")
	}
}

func TestHoldAsTheSentencesSay(t *testing.T) {
	for _, a := range append(small(), large()...) {
		for _, row := range numbers(a.Rows) {
			for _, col := range numbers(a.Cols) {
				for _, c := range []Caret{at(row, col), wait(row, col)} {
					if got := Hold(a, c); got != slowHold(a, c) {
						t.Fatalf("Hold(%v, %v) is %v", a, c, got)
					}
				}
			}
		}
	}
	every(func(a Area, c Caret) {
		if Hold(a, c) != c {
			t.Fatalf("Hold(%v, %v) is %v, though that caret fits", a, c, Hold(a, c))
		}
	})
}

// P14.5

// results returns what every function makes of a caret that fits.
func results(a Area, c Caret, n, m int) []Caret {
	l := []Caret{Up(a, c, n), Down(a, c, n), Left(a, c, n), Ahead(a, c, n), Goto(a, n, m)}
	fed, _ := Feed(a, c)
	back, _ := Back(a, c)
	return append(l, fed, back, Wrote(a, c, true), Wrote(a, c, false), Hold(a, c), Hold(a, Caret{n, m, c.Wait}))
}

func TestResultsFit(t *testing.T) {
	every(func(a Area, c Caret) {
		for _, n := range numbers(a.Rows, a.Cols) {
			for i, got := range results(a, c, n, -n) {
				if !slowFits(a, got) || !Fits(a, got) {
					t.Fatalf("result %d of %v, %v, %d is %v, which does not fit", i, a, c, n, got)
				}
			}
		}
	})
}

// randomArea returns a valid area of any size.
func randomArea(r *rand.Rand) Area {
	rows, cols := 1+r.Intn(60), 1+r.Intn(132)
	a := area(rows, cols, 0, rows-1)
	if rows > 1 {
		a.Top = r.Intn(rows - 1)
		a.Bottom = a.Top + 1 + r.Intn(rows-1-a.Top)
	}
	a.Origin = r.Intn(2) == 0
	return a
}

// randomNumber returns a number of any size.
func randomNumber(r *rand.Rand) int {
	return int(r.Uint64()) >> r.Intn(64)
}

func TestWalksFit(t *testing.T) {
	r := rand.New(rand.NewSource(14))
	for range 300 {
		a := randomArea(r)
		c := at(0, 0)
		for range 100 {
			n, m := randomNumber(r), randomNumber(r)
			got := results(a, c, n, m)
			want := slowResults(a, c, n, m)
			for i := range got {
				if got[i] != want[i] || !Fits(a, got[i]) {
					t.Fatalf("result %d of %v, %v, %d, %d is %v, not %v", i, a, c, n, m, got[i], want[i])
				}
			}
			c = got[r.Intn(len(got))]
			if next, ok := Margins(a, n, m); ok {
				a = next
			}
			if !Right(a) || !Fits(a, c) {
				t.Fatalf("%v is not valid, or %v does not fit", a, c)
			}
		}
	}
}

// slowResults returns what results must be.
func slowResults(a Area, c Caret, n, m int) []Caret {
	l := []Caret{slowUp(a, c, n), slowDown(a, c, n), slowLeft(a, c, n), slowAhead(a, c, n), slowGoto(a, n, m)}
	fed, _ := slowFeed(a, c)
	back, _ := slowBack(a, c)
	return append(l, fed, back, slowWrote(a, c, true), slowWrote(a, c, false), slowHold(a, c), slowHold(a, Caret{n, m, c.Wait}))
}

// P1, P2

func TestEverythingEnds(t *testing.T) {
	// Right, Fits, Whole and Margins are specified for all arguments. Of the others nothing is promised but that they end, for areas that are not valid too.
	ends := []int{math.MinInt, -1, 0, 1, 61, math.MaxInt}
	for _, rows := range ends {
		for _, cols := range ends {
			for _, top := range ends {
				for _, bottom := range ends {
					for _, a := range []Area{area(rows, cols, top, bottom), origin(area(rows, cols, top, bottom))} {
						Right(a)
						Whole(rows, cols)
						for _, n := range ends {
							for _, c := range []Caret{at(n, top), wait(bottom, n)} {
								Fits(a, c)
								Margins(a, n, c.Col)
								results(a, c, n, c.Col)
							}
						}
					}
				}
			}
		}
	}
}

func TestMarginsOfInvalidAreas(t *testing.T) {
	for _, a := range []Area{{}, area(0, 80, 3, 2), area(-5, 80, 0, 0), area(math.MinInt, 0, 0, 0)} {
		for _, top := range numbers(a.Rows) {
			for _, bottom := range numbers(a.Rows) {
				// There are no two rows that could scroll.
				if m, ok := Margins(a, top, bottom); m != a || ok {
					t.Errorf("Margins(%v, %d, %d) is %v, %v", a, top, bottom, m, ok)
				}
			}
		}
	}
	// An area of too many rows has margins nevertheless.
	tall := area(70, 200, -4, 99)
	if m, ok := Margins(tall, 61, 80); m != area(70, 200, 60, 69) || !ok {
		t.Errorf("Margins of 70 rows: %v, %v", m, ok)
	}
	if m, ok := Margins(tall, 70, 80); m != tall || ok {
		t.Errorf("Margins of 70 rows: %v, %v", m, ok)
	}
}

func TestCallsDoNotDependOnEarlierOnes(t *testing.T) {
	a, c := area(24, 80, 5, 15), wait(10, 79)
	first := results(a, c, 3, 4)
	for _, x := range append(small(), large()...) {
		for _, y := range borders(x) {
			results(x, y, 9, -9)
		}
	}
	for i, got := range results(a, c, 3, 4) {
		if got != first[i] {
			t.Errorf("result %d is %v, and was %v", i, got, first[i])
		}
	}
	if a != area(24, 80, 5, 15) || c != wait(10, 79) {
		t.Error("arguments are changed")
	}
}
