package grid

import (
	"fmt"
	"math"
	"math/rand"
	"slices"
	"strings"
	"testing"

	"baton/api"
	"baton/cell"
)

// spot is a position.
type spot struct{ row, col int }

// slow is a board as the chapter's sentences have it: a cell for each position, and every change says of each position what it receives.
type slow struct {
	rows, cols int
	cells      map[spot]api.Cell
}

var blank = api.Cell{Rune: 32}

func slowSize(rows, cols int) bool {
	return !(rows < 1) && !(rows > 60) && !(cols < 1) && !(cols > 132)
}

func slowRight(g api.Grid) bool {
	if !slowSize(g.Rows, g.Cols) || len(g.Cells) != g.Rows*g.Cols {
		return false
	}
	for _, c := range g.Cells {
		if !cell.Right(c) {
			return false
		}
	}
	return true
}

func slowNew(rows, cols int) slow {
	s := slow{rows, cols, map[spot]api.Cell{}}
	return s.each(func(spot) api.Cell { return blank })
}

func slowOf(g api.Grid) slow {
	s := slow{g.Rows, g.Cols, nil}
	return s.each(func(at spot) api.Cell { return g.Cells[at.row*g.Cols+at.col] })
}

// each returns a board of the same size that has the cells of f.
func (s slow) each(f func(at spot) api.Cell) slow {
	cells := map[spot]api.Cell{}
	for row := range s.rows {
		for col := range s.cols {
			cells[spot{row, col}] = f(spot{row, col})
		}
	}
	return slow{s.rows, s.cols, cells}
}

func (s slow) has(at spot) bool {
	_, ok := s.cells[at]
	return ok
}

func (s slow) put(row, col int, c api.Cell) (slow, api.Errno) {
	if !s.has(spot{row, col}) || !cell.Right(c) {
		return s, api.ErrArg
	}
	return s.each(func(at spot) api.Cell {
		if at == (spot{row, col}) {
			return c
		}
		return s.cells[at]
	}), api.OK
}

func (s slow) fill(row, from, to int, c api.Cell) slow {
	if !cell.Right(c) {
		return s
	}
	return s.each(func(at spot) api.Cell {
		if at.row == row && at.col >= from && at.col < to {
			return c
		}
		return s.cells[at]
	})
}

// moved returns what a position receives from one at a distance of n in l, a list of positions in the direction of the move: c if l ends ahead of it.
func (s slow) moved(l []spot, n int, c api.Cell) api.Cell {
	if n > len(l)-1 {
		return c
	}
	return s.cells[l[n]]
}

// way returns the positions from at on, one step after the other, as long as stays holds.
func way(at, step spot, stays func(spot) bool) []spot {
	var l []spot
	for stays(at) {
		l = append(l, at)
		at = spot{at.row + step.row, at.col + step.col}
	}
	return l
}

func (s slow) scroll(top, bottom, n int, c api.Cell, step spot) slow {
	if !cell.Right(c) || n < 1 || top < 0 || bottom >= s.rows || top > bottom {
		return s
	}
	inside := func(at spot) bool { return at.row >= top && at.row <= bottom }
	return s.each(func(at spot) api.Cell {
		if !inside(at) {
			return s.cells[at]
		}
		return s.moved(way(at, step, inside), n, c)
	})
}

func (s slow) shift(row, col, n int, c api.Cell, step spot) slow {
	if !cell.Right(c) || n < 1 || !s.has(spot{row, col}) {
		return s
	}
	inside := func(at spot) bool { return at.row == row && at.col >= col && at.col < s.cols }
	return s.each(func(at spot) api.Cell {
		if !inside(at) {
			return s.cells[at]
		}
		return s.moved(way(at, step, inside), n, c)
	})
}

func (s slow) resize(rows, cols int) (slow, api.Errno) {
	if !slowSize(rows, cols) {
		return s, api.ErrSize
	}
	return slowNew(rows, cols).each(func(at spot) api.Cell {
		if s.has(at) {
			return s.cells[at]
		}
		return blank
	}), api.OK
}

// call is a call that changes a board: its name, its numbers, and a cell.
type call struct {
	name    string
	x, y, z int
	c       api.Cell
}

func (x call) onBoard(b *Board) api.Errno {
	switch x.name {
	case "Put":
		return b.Put(x.x, x.y, x.c)
	case "Fill":
		b.Fill(x.x, x.y, x.z, x.c)
	case "Up":
		b.Up(x.x, x.y, x.z, x.c)
	case "Down":
		b.Down(x.x, x.y, x.z, x.c)
	case "Insert":
		b.Insert(x.x, x.y, x.z, x.c)
	case "Delete":
		b.Delete(x.x, x.y, x.z, x.c)
	case "Resize":
		return b.Resize(x.x, x.y)
	default:
		panic(x.name)
	}
	return api.OK
}

func (x call) onSlow(s slow) (slow, api.Errno) {
	switch x.name {
	case "Put":
		return s.put(x.x, x.y, x.c)
	case "Fill":
		return s.fill(x.x, x.y, x.z, x.c), api.OK
	case "Up":
		return s.scroll(x.x, x.y, x.z, x.c, spot{1, 0}), api.OK
	case "Down":
		return s.scroll(x.x, x.y, x.z, x.c, spot{-1, 0}), api.OK
	case "Insert":
		return s.shift(x.x, x.y, x.z, x.c, spot{0, -1}), api.OK
	case "Delete":
		return s.shift(x.x, x.y, x.z, x.c, spot{0, 1}), api.OK
	case "Resize":
		return s.resize(x.x, x.y)
	}
	panic(x.name)
}

// names are the calls that take three numbers and a cell and report no error.
var names = []string{"Fill", "Up", "Down", "Insert", "Delete"}

// agree checks that a board has what s has, in every way that it tells of it.
func agree(t *testing.T, what any, b *Board, s slow) {
	t.Helper()
	g := b.Grid()
	if g.Rows != s.rows || g.Cols != s.cols || b.Rows() != s.rows || b.Cols() != s.cols || len(g.Cells) != s.rows*s.cols {
		t.Fatalf("%v: size %d, %d with %d cells, Rows %d, Cols %d, want %d, %d", what, g.Rows, g.Cols, len(g.Cells), b.Rows(), b.Cols(), s.rows, s.cols)
	}
	for row := range s.rows {
		l := b.Row(row)
		if len(l) != s.cols {
			t.Fatalf("%v: row %d has %d cells, want %d", what, row, len(l), s.cols)
		}
		for col := range s.cols {
			want := s.cells[spot{row, col}]
			if b.At(row, col) != want || l[col] != want || g.Cells[row*s.cols+col] != want {
				t.Fatalf("%v: at %d, %d At has %v, Row %v, Grid %v, want %v", what, row, col, b.At(row, col), l[col], g.Cells[row*s.cols+col], want)
			}
		}
	}
}

// step makes a call on both and checks that they agree.
func step(t *testing.T, b *Board, s slow, x call) slow {
	t.Helper()
	next, want := x.onSlow(s)
	if got := x.onBoard(b); got != want {
		t.Fatalf("%v on %d rows and %d columns: error %d, want %d", x, s.rows, s.cols, got, want)
	}
	agree(t, x, b, next)
	return next
}

func cellOf(sign rune, fg, bg, marks int) api.Cell {
	return api.Cell{Rune: sign, Pen: api.Pen{Fg: fg, Bg: bg, Marks: marks}}
}

// wrong are invalid cells.
func wrong() []api.Cell {
	return []api.Cell{
		{}, cellOf(31, 0, 0, 0), cellOf(127, 0, 0, 0), cellOf(159, 0, 0, 0), cellOf(-1, 0, 0, 0), cellOf(0xd800, 0, 0, 0), cellOf(0x110000, 0, 0, 0),
		cellOf('a', 257, 0, 0), cellOf('a', -1, 0, 0), cellOf('a', 0, 257, 0), cellOf('a', 0, -1, 0), cellOf('a', 0, 0, 128), cellOf('a', 0, 0, -1),
	}
}

// mark is a valid cell that counted has nowhere.
var mark = cellOf('#', 256, 256, 127)

// counted returns a grid of valid cells, all of them different.
func counted(rows, cols int) api.Grid {
	g := api.Grid{Rows: rows, Cols: cols}
	for i := range rows * cols {
		g.Cells = append(g.Cells, cellOf(rune(0x100+i), i%257, i%256, i%127))
	}
	return g
}

// board returns a board of g, which is valid.
func board(t *testing.T, g api.Grid) *Board {
	t.Helper()
	b, e := Of(g)
	if e != api.OK || b == nil {
		t.Fatalf("Of a grid of %d rows and %d columns: error %d", g.Rows, g.Cols, e)
	}
	return b
}

// plain returns a board of the zero pen with these rows, divided by /.
func plain(t *testing.T, s string) *Board {
	t.Helper()
	rows := strings.Split(s, "/")
	g := api.Grid{Rows: len(rows), Cols: len(rows[0])}
	for _, c := range strings.Join(rows, "") {
		g.Cells = append(g.Cells, api.Cell{Rune: c})
	}
	return board(t, g)
}

// show returns the runes of a board, its rows divided by /.
func show(b *Board) string {
	var l []string
	g := b.Grid()
	for from := 0; from < len(g.Cells); from += g.Cols {
		s := ""
		for _, c := range g.Cells[from : from+g.Cols] {
			s += string(c.Rune)
		}
		l = append(l, s)
	}
	return strings.Join(l, "/")
}

// shows checks what a board has after some calls.
func shows(t *testing.T, before, after string, calls ...call) {
	t.Helper()
	b := plain(t, before)
	for _, x := range calls {
		x.onBoard(b)
	}
	if got := show(b); got != after {
		t.Errorf("%q after %v is %q, want %q", before, calls, got, after)
	}
}

var dot = api.Cell{Rune: '.'}

// sides are numbers of rows or columns at the ends of what is valid, and far beyond them.
func sides() []int {
	return []int{
		math.MinInt, math.MinInt + 1, -1 << 32, -api.MaxCols, -api.MaxRows, -2, -1, 0, 1, 2, 3,
		api.MaxRows - 1, api.MaxRows, api.MaxRows + 1, api.MaxCols - 1, api.MaxCols, api.MaxCols + 1,
		256, 1 << 16, 1 << 31, 1 << 32, 1<<32 + 1, math.MaxInt - 1, math.MaxInt,
	}
}

// near are numbers around 0 and around most, and far beyond them.
func near(most int) []int {
	l := []int{math.MinInt, math.MinInt + 1, math.MinInt32, math.MaxInt32, math.MaxInt - 1, math.MaxInt}
	for n := -2; n <= 2; n++ {
		l = append(l, n, most+n)
	}
	slices.Sort(l)
	return slices.Compact(l)
}

// around are all numbers from two ahead of 0 to two behind most, and far beyond them.
func around(most int) []int {
	l := near(most)
	for n := range most {
		l = append(l, n)
	}
	slices.Sort(l)
	return slices.Compact(l)
}

// P10.1

func TestRightOfSizes(t *testing.T) {
	for _, x := range []struct {
		rows, cols int
		want       bool
	}{
		{1, 1, true}, {1, 132, true}, {60, 1, true}, {60, 132, true}, {24, 80, true},
		{0, 1, false}, {1, 0, false}, {0, 0, false}, {61, 1, false}, {1, 133, false}, {61, 132, false}, {60, 133, false}, {132, 60, false}, {61, 133, false},
	} {
		g := api.Grid{Rows: x.rows, Cols: x.cols, Cells: slices.Repeat([]api.Cell{dot}, x.rows*x.cols)}
		if got := Right(g); got != x.want {
			t.Errorf("Right of %d rows and %d columns = %t", x.rows, x.cols, got)
		}
	}
}

func TestRightOfAllSides(t *testing.T) {
	// The product of the sides, as it wraps round, is among the numbers of cells.
	for _, rows := range sides() {
		for _, cols := range sides() {
			for _, n := range []int{0, 1, 2, 6, rows * cols, rows*cols - 1, rows*cols + 1} {
				if n < 0 || n > 20000 {
					continue
				}
				g := api.Grid{Rows: rows, Cols: cols, Cells: slices.Repeat([]api.Cell{dot}, n)}
				want := rows >= 1 && rows <= 60 && cols >= 1 && cols <= 132 && n == rows*cols
				if got := Right(g); got != want {
					t.Fatalf("Right of %d rows, %d columns and %d cells = %t", rows, cols, n, got)
				}
				if b, e := Of(g); (e == api.OK) != want || (b != nil) != want || !want && e != api.ErrSize {
					t.Fatalf("Of %d rows, %d columns and %d cells: error %d", rows, cols, n, e)
				}
			}
		}
	}
}

func TestRightOfNumbersOfCells(t *testing.T) {
	for _, size := range []spot{{1, 1}, {1, 5}, {5, 1}, {3, 4}, {60, 132}} {
		all := size.row * size.col
		for _, n := range []int{0, 1, all - size.col, all - 1, all, all + 1, all + size.col, 2 * all} {
			g := api.Grid{Rows: size.row, Cols: size.col, Cells: slices.Repeat([]api.Cell{dot}, n)}
			want := n == all
			_, e := Of(g)
			if Right(g) != want || (e == api.OK) != want || !want && e != api.ErrSize {
				t.Errorf("%d rows and %d columns with %d cells: Right = %t, Of has error %d", size.row, size.col, n, Right(g), e)
			}
		}
		g := api.Grid{Rows: size.row, Cols: size.col}
		if b, e := Of(g); Right(g) || b != nil || e != api.ErrSize {
			t.Errorf("%d rows and %d columns without cells: Right = %t, Of has error %d", size.row, size.col, Right(g), e)
		}
		// Cells in the spare capacity are not cells of the grid.
		g.Cells = slices.Repeat([]api.Cell{dot}, all)[:all-1]
		if b, e := Of(g); Right(g) || b != nil || e != api.ErrSize {
			t.Errorf("%d rows and %d columns with a cell behind the end: Right = %t, Of has error %d", size.row, size.col, Right(g), e)
		}
	}
	if b, e := Of(api.Grid{}); Right(api.Grid{}) || b != nil || e != api.ErrSize {
		t.Errorf("the zero grid: Right = %t, Of has error %d", Right(api.Grid{}), e)
	}
}

func TestRightOfOneInvalidCell(t *testing.T) {
	for _, size := range []spot{{1, 1}, {1, 7}, {7, 1}, {3, 4}} {
		g := counted(size.row, size.col)
		if !Right(g) {
			t.Errorf("Right of valid cells in %d rows and %d columns = false", size.row, size.col)
		}
		for i := range g.Cells {
			was := g.Cells[i]
			for _, c := range wrong() {
				g.Cells[i] = c
				if b, e := Of(g); Right(g) || b != nil || e != api.ErrSize {
					t.Errorf("%v in place %d of %d rows and %d columns: Right = %t, Of has error %d", c, i, size.row, size.col, Right(g), e)
				}
			}
			g.Cells[i] = was
		}
	}
	g := counted(60, 132)
	for i := range g.Cells {
		was := g.Cells[i]
		g.Cells[i] = api.Cell{}
		if Right(g) {
			t.Errorf("Right with a zero cell in place %d of the greatest grid = true", i)
		}
		g.Cells[i] = was
	}
}

func TestSame(t *testing.T) {
	for _, x := range []struct {
		a, b api.Grid
		want bool
	}{
		{counted(2, 3), counted(2, 3), true},
		{counted(60, 132), counted(60, 132), true},
		{counted(2, 3), counted(3, 2), false}, // the same cells
		{counted(1, 6), counted(6, 1), false}, // the same cells
		{counted(2, 3), counted(2, 4), false},
		{counted(2, 3), counted(3, 3), false},
		{counted(1, 1), counted(1, 2), false},
		{api.Grid{}, api.Grid{}, true},
		{api.Grid{}, api.Grid{Cells: []api.Cell{}}, true},
		{api.Grid{}, counted(1, 1), false},
		{api.Grid{Rows: 1}, api.Grid{}, false},
		{api.Grid{Cols: 1}, api.Grid{}, false},
		{api.Grid{Cells: []api.Cell{{}}}, api.Grid{}, false},
		{api.Grid{Rows: 1, Cols: 2}, api.Grid{Rows: 2, Cols: 1}, false},
		{api.Grid{Rows: math.MinInt, Cols: math.MaxInt}, api.Grid{Rows: math.MinInt, Cols: math.MaxInt}, true},
		{api.Grid{Rows: math.MinInt, Cols: 1}, api.Grid{Rows: math.MaxInt, Cols: 1}, false},
		{api.Grid{Rows: 1, Cols: 1, Cells: wrong()}, api.Grid{Rows: 1, Cols: 1, Cells: wrong()}, true},
	} {
		if Same(x.a, x.b) != x.want || Same(x.b, x.a) != x.want {
			t.Errorf("Same(%v, %v) = %t", x.a, x.b, !x.want)
		}
	}
}

func TestSameOfGridsThatDifferInOneThing(t *testing.T) {
	for _, size := range []spot{{1, 1}, {1, 4}, {4, 1}, {3, 4}} {
		g := counted(size.row, size.col)
		for _, n := range []int{-1, 1, math.MaxInt} {
			rows, cols := g, g
			rows.Rows += n
			cols.Cols += n
			if Same(g, rows) || Same(rows, g) || Same(g, cols) || Same(cols, g) {
				t.Errorf("Same of grids of %d rows and %d columns, and of %d more rows or columns alone", g.Rows, g.Cols, n)
			}
		}
		for i, c := range g.Cells {
			for _, d := range []api.Cell{
				{Rune: c.Rune + 1, Pen: c.Pen}, cellOf(c.Rune, c.Pen.Fg+1, c.Pen.Bg, c.Pen.Marks),
				cellOf(c.Rune, c.Pen.Fg, c.Pen.Bg+1, c.Pen.Marks), cellOf(c.Rune, c.Pen.Fg, c.Pen.Bg, c.Pen.Marks+1), {},
			} {
				other := counted(size.row, size.col)
				other.Cells[i] = d
				if Same(g, other) || Same(other, g) {
					t.Errorf("Same with %v and %v in place %d", c, d, i)
				}
			}
		}
		fewer, more := g, g
		fewer.Cells = g.Cells[:len(g.Cells)-1]
		more.Cells = append(slices.Clone(g.Cells), dot)
		if Same(g, fewer) || Same(fewer, g) || Same(g, more) || Same(more, g) {
			t.Errorf("Same of grids of %d and of other numbers of cells", len(g.Cells))
		}
	}
}

func TestNew(t *testing.T) {
	for _, rows := range sides() {
		for _, cols := range sides() {
			b, e := New(rows, cols)
			if !slowSize(rows, cols) {
				if b != nil || e != api.ErrSize {
					t.Errorf("New(%d, %d): error %d", rows, cols, e)
				}
				continue
			}
			if b == nil || e != api.OK {
				t.Fatalf("New(%d, %d): error %d", rows, cols, e)
			}
			agree(t, "New", b, slowNew(rows, cols))
		}
	}
	b, e := New(2, 3)
	if e != api.OK || show(b) != "   /   " || b.At(1, 2) != cell.Blank(api.Pen{}) || b.Rows() != 2 || b.Cols() != 3 {
		t.Errorf("New(2, 3) is %q, error %d", show(b), e)
	}
}

func TestOf(t *testing.T) {
	for rows := 1; rows <= api.MaxRows; rows++ {
		for _, cols := range []int{1, 2, 3, 59, 60, 61, 80, 131, 132} {
			g := counted(rows, cols)
			b := board(t, g)
			if !Same(b.Grid(), g) || !Same(g, b.Grid()) || b.Rows() != rows || b.Cols() != cols {
				t.Fatalf("Of a grid of %d rows and %d columns has another one", rows, cols)
			}
		}
	}
	agree(t, "Of", board(t, counted(3, 4)), slowOf(counted(3, 4)))
	b := plain(t, "abc/def")
	if b.Rows() != 2 || b.Cols() != 3 || b.At(1, 0) != (api.Cell{Rune: 'd'}) || cell.Text(b.Row(0)) != "abc" || cell.Text(b.Row(1)) != "def" {
		t.Errorf("Of abc, def is %q", show(b))
	}
}

func TestAtAndRowAtTheEnds(t *testing.T) {
	for _, size := range []spot{{1, 1}, {1, 5}, {5, 1}, {3, 4}, {4, 3}, {60, 132}} {
		g := counted(size.row, size.col)
		b, s := board(t, g), slowOf(g)
		for _, row := range near(size.row) {
			for _, col := range near(size.col) {
				// A position that does not exist has no cell in the map.
				if got := b.At(row, col); got != s.cells[spot{row, col}] {
					t.Errorf("At(%d, %d) of %v = %v", row, col, size, got)
				}
			}
			var want []api.Cell
			if row >= 0 && row < size.row {
				want = g.Cells[row*size.col : (row+1)*size.col]
			}
			if got := b.Row(row); !slices.Equal(got, want) {
				t.Errorf("Row(%d) of %v = %v", row, size, got)
			}
		}
	}
	b := plain(t, "abc/def")
	for _, x := range []spot{{-1, 0}, {2, 0}, {0, -1}, {0, 3}, {1, -1}, {1, 3}, {-1, 3}, {2, -3}, {math.MinInt, 0}, {0, math.MaxInt}} {
		if got := b.At(x.row, x.col); got != (api.Cell{}) {
			t.Errorf("At(%d, %d) = %v", x.row, x.col, got)
		}
	}
	if len(b.Row(-1)) != 0 || len(b.Row(2)) != 0 {
		t.Errorf("rows that don't exist: %v, %v", b.Row(-1), b.Row(2))
	}
}

// P10.2

func TestUpOfTheExample(t *testing.T) {
	shows(t, "a/b/c", "b/ /c", call{"Up", 0, 1, 1, blank})
}

func TestChangesByHand(t *testing.T) {
	for _, x := range []struct {
		before, after string
		call          call
	}{
		{"abc/def", "abc/d.f", call{"Put", 1, 1, 0, dot}},
		{"abcd/efgh", "abcd/e..h", call{"Fill", 1, 1, 3, dot}},
		{"abcd/efgh", "..../efgh", call{"Fill", 0, 0, 4, dot}},
		{"abcd/efgh", "..cd/efgh", call{"Fill", 0, -5, 2, dot}},
		{"abcd/efgh", "abcd/ef..", call{"Fill", 1, 2, 99, dot}},
		{"abcd/efgh", "abcd/efgh", call{"Fill", 0, 2, 2, dot}},
		{"abcd/efgh", "abcd/efgh", call{"Fill", 0, 3, 1, dot}},
		{"abcd/efgh", "abcd/efgh", call{"Fill", 2, 0, 4, dot}},
		{"abcd/efgh", "abcd/efgh", call{"Fill", -1, 0, 9, dot}},
		{"abcd/efgh", "abcd/efgh", call{"Fill", 0, 4, 8, dot}},
		{"aa/bb/cc/dd", "bb/cc/dd/..", call{"Up", 0, 3, 1, dot}},
		{"aa/bb/cc/dd", "aa/dd/../..", call{"Up", 1, 3, 2, dot}},
		{"aa/bb/cc/dd", "aa/../../dd", call{"Up", 1, 2, 2, dot}},
		{"aa/bb/cc/dd", "aa/../../dd", call{"Up", 1, 2, 3, dot}},
		{"aa/bb/cc/dd", "aa/bb/../dd", call{"Up", 2, 2, 1, dot}},
		{"aa/bb/cc/dd", "../../../..", call{"Up", 0, 3, math.MaxInt, dot}},
		{"aa/bb/cc/dd", "aa/bb/cc/dd", call{"Up", 0, 3, 0, dot}},
		{"aa/bb/cc/dd", "aa/bb/cc/dd", call{"Up", -1, 3, 1, dot}},
		{"aa/bb/cc/dd", "aa/bb/cc/dd", call{"Up", 0, 4, 1, dot}},
		{"aa/bb/cc/dd", "aa/bb/cc/dd", call{"Up", 2, 1, 1, dot}},
		{"aa/bb/cc/dd", "../aa/bb/cc", call{"Down", 0, 3, 1, dot}},
		{"aa/bb/cc/dd", "aa/../../bb", call{"Down", 1, 3, 2, dot}},
		{"aa/bb/cc/dd", "aa/../../dd", call{"Down", 1, 2, 2, dot}},
		{"aa/bb/cc/dd", "aa/../../dd", call{"Down", 1, 2, 3, dot}},
		{"aa/bb/cc/dd", "../bb/cc/dd", call{"Down", 0, 0, 1, dot}},
		{"aa/bb/cc/dd", "../../../..", call{"Down", 0, 3, math.MaxInt, dot}},
		{"aa/bb/cc/dd", "aa/bb/cc/dd", call{"Down", 0, 3, -1, dot}},
		{"aa/bb/cc/dd", "aa/bb/cc/dd", call{"Down", -1, 3, 1, dot}},
		{"aa/bb/cc/dd", "aa/bb/cc/dd", call{"Down", 0, 4, 1, dot}},
		{"aa/bb/cc/dd", "aa/bb/cc/dd", call{"Down", 2, 1, 1, dot}},
		{"abcd/efgh", ".abc/efgh", call{"Insert", 0, 0, 1, dot}},
		{"abcd/efgh", "abcd/e..f", call{"Insert", 1, 1, 2, dot}},
		{"abcd/efgh", "a.../efgh", call{"Insert", 0, 1, 3, dot}},
		{"abcd/efgh", "a.../efgh", call{"Insert", 0, 1, 4, dot}},
		{"abcd/efgh", "abc./efgh", call{"Insert", 0, 3, math.MaxInt, dot}},
		{"abcd/efgh", "abcd/efgh", call{"Insert", 0, 4, 1, dot}},
		{"abcd/efgh", "abcd/efgh", call{"Insert", 1, -1, 2, dot}},
		{"abcd/efgh", "abcd/efgh", call{"Insert", 2, 0, 1, dot}},
		{"abcd/efgh", "bcd./efgh", call{"Delete", 0, 0, 1, dot}},
		{"abcd/efgh", "abcd/eh..", call{"Delete", 1, 1, 2, dot}},
		{"abcd/efgh", "a.../efgh", call{"Delete", 0, 1, 3, dot}},
		{"abcd/efgh", "a.../efgh", call{"Delete", 0, 1, 4, dot}},
		{"abcd/efgh", "abc./efgh", call{"Delete", 0, 3, math.MaxInt, dot}},
		{"abcd/efgh", "abcd/efgh", call{"Delete", 0, 4, 1, dot}},
		{"abcd/efgh", "abcd/efgh", call{"Delete", 1, -1, 2, dot}},
		{"abcd/efgh", "abcd/efgh", call{"Delete", 2, 0, 1, dot}},
	} {
		shows(t, x.before, x.after, x.call)
	}
	shows(t, "abc/def/ghi", "..a/h../...", call{"Insert", 0, 0, 2, dot}, call{"Up", 1, 2, 1, dot}, call{"Delete", 1, 0, 1, dot}, call{"Fill", 1, 1, 2, dot})
}

func TestPutAtTheEnds(t *testing.T) {
	for _, size := range []spot{{1, 1}, {1, 5}, {5, 1}, {3, 4}, {4, 3}} {
		for _, row := range near(size.row) {
			for _, col := range near(size.col) {
				for _, c := range append(wrong(), mark, blank, cellOf(0x10ffff, 0, 256, 1)) {
					g := counted(size.row, size.col)
					step(t, board(t, g), slowOf(g), call{"Put", row, col, 0, c})
				}
			}
		}
	}
}

func TestPutReturnsErrArg(t *testing.T) {
	b := plain(t, "abc/def")
	for _, x := range []struct {
		row, col int
		c        api.Cell
		want     api.Errno
	}{
		{0, 0, dot, api.OK}, {1, 2, dot, api.OK}, {0, 2, dot, api.OK}, {1, 0, dot, api.OK},
		{-1, 0, dot, api.ErrArg}, {0, -1, dot, api.ErrArg}, {2, 0, dot, api.ErrArg}, {0, 3, dot, api.ErrArg}, {1, -3, dot, api.ErrArg},
		{0, 0, api.Cell{}, api.ErrArg}, {1, 2, cellOf('a', 257, 0, 0), api.ErrArg}, {2, 3, api.Cell{}, api.ErrArg}, {math.MaxInt, math.MinInt, api.Cell{}, api.ErrArg},
	} {
		if got := b.Put(x.row, x.col, x.c); got != x.want {
			t.Errorf("Put(%d, %d, %v) = %d", x.row, x.col, x.c, got)
		}
	}
	if show(b) != ".b./.e." {
		t.Errorf("after all Puts: %q", show(b))
	}
}

// everyCall makes every call of a name with these numbers on boards of that size.
func everyCall(t *testing.T, name string, size spot, xs, ys, zs []int, cells ...api.Cell) {
	t.Helper()
	g := counted(size.row, size.col)
	s := slowOf(g)
	for _, x := range xs {
		for _, y := range ys {
			for _, z := range zs {
				for _, c := range cells {
					step(t, board(t, g), s, call{name, x, y, z, c})
				}
			}
		}
	}
}

func smallSizes() []spot {
	return []spot{{1, 1}, {1, 2}, {2, 1}, {1, 6}, {5, 1}, {2, 3}, {3, 2}, {4, 5}}
}

func TestFillEverywhere(t *testing.T) {
	for _, size := range smallSizes() {
		everyCall(t, "Fill", size, near(size.row), around(size.col), around(size.col), mark)
	}
}

func TestUpAndDownEverywhere(t *testing.T) {
	for _, size := range smallSizes() {
		everyCall(t, "Up", size, around(size.row), around(size.row), around(size.row), mark)
		everyCall(t, "Down", size, around(size.row), around(size.row), around(size.row), mark)
	}
}

func TestInsertAndDeleteEverywhere(t *testing.T) {
	for _, size := range smallSizes() {
		everyCall(t, "Insert", size, near(size.row), around(size.col), around(size.col), mark)
		everyCall(t, "Delete", size, near(size.row), around(size.col), around(size.col), mark)
	}
}

func TestChangesWithInvalidCellsHaveNoEffect(t *testing.T) {
	few := []int{-1, 0, 1, 2, 3, math.MaxInt}
	for _, name := range append([]string{"Put"}, names...) {
		for _, size := range []spot{{1, 1}, {2, 3}} {
			everyCall(t, name, size, few, few, few, wrong()...)
		}
	}
	for _, name := range names {
		for _, c := range wrong() {
			shows(t, "abc/def/ghi", "abc/def/ghi", call{name, 0, 1, 2, c})
		}
	}
}

func TestEveryValidCellIsStored(t *testing.T) {
	for _, c := range []api.Cell{blank, mark, dot, cellOf(126, 0, 0, 0), cellOf(160, 256, 0, 0), cellOf(32, 0, 256, 0), cellOf(0x10ffff, 1, 2, 127), cellOf(0xe000, 0, 0, 1)} {
		for _, name := range append([]string{"Put"}, names...) {
			everyCall(t, name, spot{3, 4}, []int{0, 1}, []int{1, 2}, []int{1, 2, 3}, c)
		}
	}
}

func TestChangesOfTheGreatestBoard(t *testing.T) {
	g := counted(api.MaxRows, api.MaxCols)
	for _, x := range []call{
		{"Put", 59, 131, 0, mark}, {"Put", 60, 131, 0, mark}, {"Put", 59, 132, 0, mark},
		{"Fill", 59, 131, 132, mark}, {"Fill", 59, 0, math.MaxInt, mark}, {"Fill", 60, 0, 132, mark}, {"Fill", 30, math.MinInt, math.MaxInt, mark},
		{"Up", 0, 59, 1, mark}, {"Up", 0, 59, 59, mark}, {"Up", 0, 59, 60, mark}, {"Up", 0, 59, 61, mark}, {"Up", 0, 59, math.MaxInt, mark}, {"Up", 59, 59, 1, mark}, {"Up", 0, 60, 1, mark}, {"Up", 13, 47, 9, mark},
		{"Down", 0, 59, 1, mark}, {"Down", 0, 59, 59, mark}, {"Down", 0, 59, 60, mark}, {"Down", 0, 59, 61, mark}, {"Down", 0, 59, math.MaxInt, mark}, {"Down", 59, 59, 1, mark}, {"Down", 0, 60, 1, mark}, {"Down", 13, 47, 9, mark},
		// These numbers of rows have 132 or 0 cells if their product wraps round.
		{"Up", 0, 59, 1<<62 + 1, mark}, {"Up", 0, 59, 1 << 62, mark}, {"Down", 0, 59, 1<<62 + 1, mark}, {"Down", 0, 59, 1 << 62, mark},
		{"Insert", 59, 0, 131, mark}, {"Insert", 59, 0, 132, mark}, {"Insert", 59, 131, 1, mark}, {"Insert", 59, 131, math.MaxInt, mark}, {"Insert", 59, 132, 1, mark}, {"Insert", 30, 60, 7, mark},
		{"Delete", 59, 0, 131, mark}, {"Delete", 59, 0, 132, mark}, {"Delete", 59, 131, 1, mark}, {"Delete", 59, 131, math.MaxInt, mark}, {"Delete", 59, 132, 1, mark}, {"Delete", 30, 60, 7, mark},
		{"Resize", 60, 132, 0, blank}, {"Resize", 61, 132, 0, blank}, {"Resize", 60, 133, 0, blank}, {"Resize", 59, 131, 0, blank}, {"Resize", 1, 1, 0, blank},
	} {
		step(t, board(t, g), slowOf(g), x)
	}
}

// P10.3

func TestResizeByHand(t *testing.T) {
	for _, x := range []struct {
		rows, cols int
		want       string
	}{
		{2, 3, "abc/def"}, {1, 3, "abc"}, {2, 2, "ab/de"}, {1, 1, "a"}, {3, 3, "abc/def/   "}, {2, 5, "abc  /def  "},
		{3, 4, "abc /def /    "}, {3, 1, "a/d/ "}, {1, 4, "abc "}, {3, 2, "ab/de/  "}, {1, 6, "abc   "}, {6, 1, "a/d/ / / / "},
	} {
		shows(t, "abc/def", x.want, call{"Resize", x.rows, x.cols, 0, blank})
	}
	// What was cut off does not come back.
	shows(t, "abc/def", "ab /de ", call{"Resize", 2, 2, 0, blank}, call{"Resize", 2, 3, 0, blank})
	shows(t, "abc/def", "abc/   ", call{"Resize", 1, 3, 0, blank}, call{"Resize", 2, 3, 0, blank})
	shows(t, "abc/def", "a  /   ", call{"Resize", 1, 1, 0, blank}, call{"Resize", 2, 3, 0, blank})
}

func TestResizeToAllSides(t *testing.T) {
	for _, size := range []spot{{1, 1}, {2, 3}, {60, 132}} {
		g := counted(size.row, size.col)
		s := slowOf(g)
		for _, rows := range sides() {
			for _, cols := range sides() {
				step(t, board(t, g), s, call{"Resize", rows, cols, 0, blank})
			}
		}
	}
}

func TestResizeInEachCombination(t *testing.T) {
	for _, size := range smallSizes() {
		g := counted(size.row, size.col)
		for rows := range size.row + 3 {
			for cols := range size.col + 3 {
				b, s := board(t, g), slowOf(g)
				s = step(t, b, s, call{"Resize", rows, cols, 0, blank})
				// The new cells are cells like the others, and an error leaves the size as it is.
				s = step(t, b, s, call{"Resize", 0, cols, 0, blank})
				s = step(t, b, s, call{"Resize", rows, 133, 0, blank})
				s = step(t, b, s, call{"Put", s.rows - 1, s.cols - 1, 0, mark})
				s = step(t, b, s, call{"Up", 0, s.rows - 1, 1, mark})
				step(t, b, s, call{"Resize", size.row, size.col, 0, blank})
			}
		}
	}
}

func TestErrorsLeaveTheBoardAsItWas(t *testing.T) {
	b := plain(t, "abc/def")
	for _, x := range []call{
		{"Resize", 0, 3, 0, blank}, {"Resize", 2, 0, 0, blank}, {"Resize", -1, 3, 0, blank}, {"Resize", 61, 3, 0, blank}, {"Resize", 2, 133, 0, blank}, {"Resize", 133, 61, 0, blank},
		{"Resize", math.MinInt, math.MinInt, 0, blank}, {"Resize", math.MaxInt, math.MaxInt, 0, blank}, {"Resize", 1 << 32, 1 << 32, 0, blank},
	} {
		if e := x.onBoard(b); e != api.ErrSize {
			t.Errorf("%v = %d", x, e)
		}
	}
	for _, x := range []call{{"Put", 2, 0, 0, dot}, {"Put", 0, 3, 0, dot}, {"Put", 0, 0, 0, api.Cell{}}} {
		if e := x.onBoard(b); e != api.ErrArg {
			t.Errorf("%v = %d", x, e)
		}
	}
	if show(b) != "abc/def" || b.Rows() != 2 || b.Cols() != 3 {
		t.Errorf("after errors: %q, %d rows, %d columns", show(b), b.Rows(), b.Cols())
	}
}

// P10.4

// randomCall returns any call, mostly with numbers near a board of that size.
func randomCall(source *rand.Rand, rows, cols int) call {
	some := append(names, "Put", "Resize")
	number := func(most int) int {
		if source.Intn(6) == 0 {
			l := near(most)
			return l[source.Intn(len(l))]
		}
		return source.Intn(most + 1)
	}
	x := call{name: some[source.Intn(len(some))], x: number(rows), y: number(cols), z: number(cols)}
	switch x.name {
	case "Up", "Down":
		x.y, x.z = number(rows), number(rows)
	case "Resize":
		x.x, x.y = number(8), number(9)
	}
	x.c = cellOf(rune(32+source.Intn(95)), source.Intn(257), source.Intn(257), source.Intn(128))
	if source.Intn(10) == 0 {
		x.c = wrong()[source.Intn(len(wrong()))]
	}
	return x
}

func TestTheGridIsAlwaysValid(t *testing.T) {
	source := rand.New(rand.NewSource(104))
	for range 400 {
		g := counted(1+source.Intn(8), 1+source.Intn(9))
		b, s := board(t, g), slowOf(g)
		if source.Intn(2) == 0 {
			b, _ = New(g.Rows, g.Cols)
			s = slowNew(g.Rows, g.Cols)
		}
		var calls []call
		for range 120 {
			x := randomCall(source, s.rows, s.cols)
			calls = append(calls, x)
			s = step(t, b, s, x)
			if g := b.Grid(); !slowRight(g) || !Right(g) {
				t.Fatalf("after %v the grid is %v", calls, g)
			}
		}
	}
}

func TestTheGridOfGreatBoardsIsValid(t *testing.T) {
	source := rand.New(rand.NewSource(105))
	for range 40 {
		b := board(t, counted(api.MaxRows, api.MaxCols))
		for range 50 {
			x := randomCall(source, b.Rows(), b.Cols())
			if x.name == "Resize" {
				x.x, x.y = sides()[source.Intn(len(sides()))], sides()[source.Intn(len(sides()))]
			}
			x.onBoard(b)
			if g := b.Grid(); !slowRight(g) || !Right(g) {
				t.Fatalf("after %v the grid of %d rows and %d columns is not valid", x, g.Rows, g.Cols)
			}
		}
	}
}

// P1 and P2

func TestAnyNumbersAreTaken(t *testing.T) {
	all := []int{math.MinInt, math.MinInt + 1, -1 << 62, -1, 0, 1, 2, 1 << 31, 1 << 62, math.MaxInt - 1, math.MaxInt}
	for _, size := range []spot{{1, 1}, {2, 3}} {
		for _, name := range append([]string{"Put", "Resize"}, names...) {
			everyCall(t, name, size, all, all, all, mark)
		}
	}
}

// spoil overwrites a list with its spare capacity.
func spoil(l []api.Cell) {
	l = l[:cap(l)]
	for i := range l {
		l[i] = cellOf('?', 7, 7, 7)
	}
}

// changes are calls that change every cell of a board of that size.
func changes(size spot) []call {
	var l []call
	for row := range size.row {
		l = append(l, call{"Put", row, 0, 0, mark}, call{"Insert", row, 0, 1, mark}, call{"Delete", row, 0, 2, mark}, call{"Fill", row, 0, size.col, mark})
	}
	return append(l, call{"Up", 0, size.row - 1, 1, blank}, call{"Down", 0, size.row - 1, 2, mark}, call{"Up", 0, size.row - 1, size.row, blank})
}

func TestABoardSharesNothingWithTheGridItWasMadeOf(t *testing.T) {
	for _, size := range smallSizes() {
		want := counted(size.row, size.col)
		backing := append(slices.Clone(want.Cells), wrong()...)
		before := slices.Clone(backing)
		g := api.Grid{Rows: size.row, Cols: size.col, Cells: backing[:len(want.Cells)]}
		b, other := board(t, g), board(t, g)
		for _, x := range changes(size) {
			x.onBoard(b)
		}
		if !slices.Equal(backing, before) {
			t.Errorf("changes of a board of %v changed the grid it was made of: %v", size, backing)
		}
		agree(t, "changes of another board of the same grid", other, slowOf(want))
		spoil(g.Cells)
		agree(t, "a change of the grid it was made of", other, slowOf(want))
	}
}

func TestABoardSharesNothingWithWhatItReturns(t *testing.T) {
	for _, size := range smallSizes() {
		want := counted(size.row, size.col)
		b := board(t, want)
		for row := range size.row {
			spoil(b.Row(row))
			agree(t, fmt.Sprintf("a change of Row(%d)", row), b, slowOf(want))
		}
		spoil(b.Row(-1))
		spoil(b.Row(size.row))
		spoil(b.Grid().Cells)
		agree(t, "a change of Grid", b, slowOf(want))

		g, row := b.Grid(), b.Row(size.row-1)
		again := b.Grid()
		spoil(again.Cells)
		for _, x := range append(changes(size), call{"Resize", size.row, size.col, 0, blank}, call{"Resize", size.row + 1, size.col + 1, 0, blank}, call{"Resize", 1, 1, 0, blank}) {
			x.onBoard(b)
			if !Same(g, want) || !slices.Equal(row, want.Cells[len(want.Cells)-size.col:]) {
				t.Fatalf("%v changed what was returned ahead of it: %v, %v", x, g, row)
			}
		}
	}
}

func TestResultsShareNothingAfterResize(t *testing.T) {
	for _, to := range []spot{{2, 3}, {1, 3}, {2, 2}, {1, 1}, {3, 3}, {2, 4}, {5, 6}} {
		g := counted(2, 3)
		b, s := board(t, g), slowOf(g)
		before := b.Grid()
		s = step(t, b, s, call{"Resize", to.row, to.col, 0, blank})
		spoil(before.Cells)
		spoil(g.Cells)
		spoil(b.Grid().Cells)
		for row := range to.row {
			spoil(b.Row(row))
		}
		agree(t, to, b, s)
	}
}

func TestBoardsShareNothing(t *testing.T) {
	for _, size := range smallSizes() {
		a, _ := New(size.row, size.col)
		b, _ := New(size.row, size.col)
		c := board(t, a.Grid())
		for _, x := range changes(size) {
			x.onBoard(a)
		}
		spoil(a.Grid().Cells)
		d, _ := New(size.row, size.col)
		for _, x := range []*Board{b, c, d} {
			agree(t, "changes of another board", x, slowNew(size.row, size.col))
		}
	}
}

func TestArgumentsAreNotChanged(t *testing.T) {
	for _, size := range smallSizes() {
		for _, c := range append(wrong(), mark) {
			backing := append(counted(size.row, size.col).Cells, wrong()...)
			backing[size.row*size.col-1] = c
			before := slices.Clone(backing)
			g := api.Grid{Rows: size.row, Cols: size.col, Cells: backing[:size.row*size.col]}
			Right(g)
			Same(g, counted(size.row, size.col))
			Same(counted(size.row, size.col), g)
			Same(g, g)
			Of(g)
			if !slices.Equal(backing, before) {
				t.Errorf("an argument or what is behind it changed: %v", backing)
			}
		}
	}
}

func TestReadingChangesNothing(t *testing.T) {
	g := counted(3, 4)
	b := board(t, g)
	for range 2 {
		for _, row := range near(3) {
			b.Row(row)
			for _, col := range near(4) {
				b.At(row, col)
			}
		}
		b.Grid()
		agree(t, "reading", b, slowOf(g))
	}
}
