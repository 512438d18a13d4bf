package paint

import (
	"math"
	"slices"
	"strings"
	"testing"

	"baton/api"
	"baton/screen"
)

// plain is the cell of a new screen.
var plain = api.Cell{Rune: ' '}

// ints are numbers at and around the limits.
var ints = []int{0, 1, 2, 3, 59, 60, 61, 63, 64, 65, 131, 132, 133, -1, -2, 1 << 30, math.MaxInt32, math.MinInt32, math.MaxInt, math.MinInt}

// blankOf returns an image of blanks, as the chapter of the screen has it.
func blankOf(rows, cols int) api.Image {
	return api.Image{Grid: api.Grid{Rows: rows, Cols: cols, Cells: slices.Repeat([]api.Cell{plain}, rows*cols)}}
}

// lettersOf returns an image in which no two neighbours have the same rune, with a pen that changes at each third cell.
func lettersOf(rows, cols int) api.Image {
	g := blankOf(rows, cols)
	for i := range g.Grid.Cells {
		g.Grid.Cells[i] = api.Cell{Rune: rune('!' + i%94), Pen: api.Pen{Fg: i / 3 % 257, Bg: i / 9 % 20, Marks: i / 3 % 128}}
	}
	return g
}

// copyOf returns g with cells in other memory, to which more cells are left.
func copyOf(g api.Image) api.Image {
	g.Grid.Cells = append(make([]api.Cell, 0, len(g.Grid.Cells)+3), g.Grid.Cells...)
	return g
}

// alike returns whether all fields are equal, one by one.
func alike(a, b api.Image) bool {
	if a.Grid.Rows != b.Grid.Rows || a.Grid.Cols != b.Grid.Cols || len(a.Grid.Cells) != len(b.Grid.Cells) {
		return false
	}
	for i, x := range a.Grid.Cells {
		y := b.Grid.Cells[i]
		if x.Rune != y.Rune || x.Pen.Fg != y.Pen.Fg || x.Pen.Bg != y.Pen.Bg || x.Pen.Marks != y.Pen.Marks {
			return false
		}
	}
	a.Grid, b.Grid = api.Grid{}, api.Grid{}
	return a.Row == b.Row && a.Col == b.Col && a.Hidden == b.Hidden && a.Title == b.Title && a.Bells == b.Bells
}

// newScreen returns a screen that was given these bytes.
func newScreen(t *testing.T, rows, cols int, in ...string) *screen.Screen {
	t.Helper()
	s, e := screen.New(rows, cols)
	if e != api.OK {
		t.Fatalf("screen.New(%d, %d): %d", rows, cols, e)
	}
	for _, x := range in {
		s.Feed([]byte(x))
	}
	return s
}

// changed is an image that differs from another one, and what in.
type changed struct {
	what  string
	image api.Image
}

// change returns g, changed by f in memory of its own.
func change(what string, g api.Image, f func(g *api.Image)) changed {
	g = copyOf(g)
	f(&g)
	return changed{what, g}
}

// invalid returns images that are not valid, each in one way.
func invalid() []changed {
	g := lettersOf(3, 4)
	g.Row, g.Col, g.Title, g.Bells = 1, 2, "t", 5
	add := func(l []changed, what string, f func(g *api.Image)) []changed {
		return append(l, change(what, g, f))
	}
	l := []changed{{"a zero image", api.Image{}}}
	for _, n := range []int{0, -1, 1, 2, 4, 61, math.MinInt, math.MaxInt} {
		l = add(l, "another number of rows", func(g *api.Image) { g.Grid.Rows = n })
	}
	for _, n := range []int{0, -1, 1, 3, 5, 133, math.MinInt, math.MaxInt} {
		l = add(l, "another number of columns", func(g *api.Image) { g.Grid.Cols = n })
	}
	l = add(l, "a negative size", func(g *api.Image) { g.Grid.Rows, g.Grid.Cols = -3, -4 })
	l = add(l, "61 rows", func(g *api.Image) { *g = blankOf(61, 2) })
	l = add(l, "133 columns", func(g *api.Image) { *g = blankOf(2, 133) })
	l = add(l, "no rows", func(g *api.Image) { *g = blankOf(0, 4) })
	l = add(l, "no columns", func(g *api.Image) { *g = blankOf(3, 0) })
	l = add(l, "a size whose product wraps round", func(g *api.Image) { g.Grid.Rows, g.Grid.Cols, g.Grid.Cells = 1<<32, 1<<32, nil })
	l = add(l, "a cell less", func(g *api.Image) { g.Grid.Cells = g.Grid.Cells[:11] })
	l = add(l, "a cell more", func(g *api.Image) { g.Grid.Cells = append(g.Grid.Cells, plain) })
	l = add(l, "no cells", func(g *api.Image) { g.Grid.Cells = nil })
	for _, c := range wrongCells() {
		for _, i := range []int{0, 3, 6, 11} {
			l = add(l, "a cell that is not valid", func(g *api.Image) { g.Grid.Cells[i] = c })
		}
	}
	for _, n := range []int{-1, 3, 4, math.MinInt, math.MaxInt} {
		l = add(l, "a row that is not there", func(g *api.Image) { g.Row = n })
	}
	for _, n := range []int{-1, 4, 5, math.MinInt, math.MaxInt} {
		l = add(l, "a column that is not there", func(g *api.Image) { g.Col = n })
	}
	for _, title := range wrongTitles() {
		l = add(l, "a title that is not valid", func(g *api.Image) { g.Title = title })
	}
	for _, n := range []int{-1, 1<<30 + 1, math.MinInt, math.MaxInt} {
		l = add(l, "bells beyond what is counted", func(g *api.Image) { g.Bells = n })
	}
	return l
}

// wrongCells returns cells that are not valid, each in one way.
func wrongCells() []api.Cell {
	var l []api.Cell
	for _, c := range []rune{0, 1, 0x1b, 0x1f, 0x7f, 0x80, 0x9f, 0xd800, 0xdfff, 0x110000, -1, math.MinInt32, math.MaxInt32} {
		l = append(l, api.Cell{Rune: c})
	}
	for _, n := range []int{-1, 257, math.MinInt, math.MaxInt} {
		l = append(l, api.Cell{Rune: 'a', Pen: api.Pen{Fg: n}}, api.Cell{Rune: 'a', Pen: api.Pen{Bg: n}})
	}
	for _, n := range []int{-1, 128, math.MinInt, math.MaxInt} {
		l = append(l, api.Cell{Rune: 'a', Pen: api.Pen{Marks: n}})
	}
	return l
}

// wrongTitles returns titles that are not valid: too long, not UTF-8, or with a byte from 0 to 1f or 7f.
func wrongTitles() []string {
	l := []string{
		strings.Repeat("x", 65), strings.Repeat("x", 1000), strings.Repeat("é", 32) + "x", strings.Repeat("€", 22),
		"\x80", "\xbf", "\xff", "\xc2", "\xe2\x82", "\xf0\x9f\x98", "a\x80b", "é\x80", "\xed\xa0\x80", "\xc0\x80", "\xc1\xbf", "\xf4\x90\x80\x80",
		"\xc2\x00", "\xc2\x1f", "\xc2\x20", "\xc2\x7e", "\xc2\x7f", "\xe2\x82\x00", "\xe2\x82\x1f", "\xe2\x82 ", "\xe2\x82~", "\xe2\x82\x7f", "\xe2\x00\xac",
	}
	for b := range 0x20 {
		l = append(l, string(rune(b)))
	}
	for _, b := range []string{"\x00", "\x07", "\x18", "\x1b", "\x1f", "\x7f"} {
		l = append(l, b, "a"+b, b+"a", "é"+b+"é", strings.Repeat("x", 63)+b)
	}
	return l
}

// rightTitles returns titles that are valid.
func rightTitles() []string {
	return []string{
		"", " ", "~", "title", "a;b", ";", "0;", "2;", "2;2;", strings.Repeat("x", 63), strings.Repeat("x", 64), strings.Repeat("é", 32), strings.Repeat("\U0001f600", 16), strings.Repeat(";", 64),
		"é", "€", "\U0001f600", "\u0080", "\u009c", "\u009f", "\u00a0", "\u07ff", "\u0800", "\ufffd", "\uffff", "\U0010ffff", "\ud7ff", "\ue000", "[31m", "]2;x", "\u0080 \u0080~", "%s\\",
	}
}

// P17.1

func TestRightOfImagesThatAreNot(t *testing.T) {
	for _, x := range invalid() {
		if Right(x.image) {
			t.Errorf("%s: Right of %v", x.what, x.image)
		}
	}
}

func TestRightOfSizes(t *testing.T) {
	for rows := range 63 {
		for cols := range 135 {
			want := rows >= 1 && rows <= 60 && cols >= 1 && cols <= 132
			if got := Right(blankOf(rows, cols)); got != want {
				t.Errorf("%d x %d: %v", rows, cols, got)
			}
		}
	}
}

func TestRightOfPositions(t *testing.T) {
	for _, size := range [][2]int{{1, 1}, {1, 132}, {60, 1}, {60, 132}, {2, 3}, {3, 2}} {
		rows, cols := size[0], size[1]
		for _, row := range append(ints, rows-1, rows, rows+1) {
			for _, col := range append(ints, cols-1, cols, cols+1) {
				g := blankOf(rows, cols)
				g.Row, g.Col = row, col
				if want := row >= 0 && row < rows && col >= 0 && col < cols; Right(g) != want {
					t.Errorf("%d, %d of %d x %d: not %v", row, col, rows, cols, want)
				}
			}
		}
	}
}

func TestRightOfTitles(t *testing.T) {
	for _, title := range rightTitles() {
		g := lettersOf(2, 3)
		g.Title = title
		if !Right(g) {
			t.Errorf("not Right with the title %q", title)
		}
	}
	for _, title := range wrongTitles() {
		g := lettersOf(2, 3)
		g.Title = title
		if Right(g) {
			t.Errorf("Right with the title %q", title)
		}
	}
}

func TestRightOfTitlesOfEachByte(t *testing.T) {
	for n := range 256 {
		b := string([]byte{byte(n)})
		for _, x := range []struct {
			title string
			want  bool
		}{
			{b, n >= 0x20 && n < 0x7f},
			{"ab" + b, n >= 0x20 && n < 0x7f},
			{b + "ab", n >= 0x20 && n < 0x7f},
			{"\xc2" + b, n >= 0x80 && n <= 0xbf},
			{"\xe2" + b + "\x80", n >= 0x80 && n <= 0xbf},
			{"\xe2\x80" + b, n >= 0x80 && n <= 0xbf},
			{"\xf0\x9f\x98" + b, n >= 0x80 && n <= 0xbf},
			{strings.Repeat("x", 63) + b, n >= 0x20 && n < 0x7f},
			{strings.Repeat("x", 64) + b, false},
		} {
			g := blankOf(1, 1)
			g.Title = x.title
			if Right(g) != x.want {
				t.Errorf("the title %q: not %v", x.title, x.want)
			}
		}
	}
}

func TestRightOfBells(t *testing.T) {
	for _, n := range append(ints, 1<<30-1, 1<<30+1, screen.MaxBells, screen.MaxBells+1, 1<<31, 1<<62) {
		g := blankOf(2, 2)
		g.Bells = n
		if want := n >= 0 && n <= 1<<30; Right(g) != want {
			t.Errorf("%d bells: not %v", n, want)
		}
	}
}

func TestRightOfCells(t *testing.T) {
	for _, c := range append(someCells(), plain, api.Cell{Rune: 'x', Pen: api.Pen{Fg: 256, Bg: 256, Marks: 127}}) {
		g := blankOf(2, 3)
		g.Grid.Cells[5] = c
		if !Right(g) {
			t.Errorf("not Right with the cell %v", c)
		}
	}
	for _, hidden := range []bool{false, true} {
		g := lettersOf(60, 132)
		g.Row, g.Col, g.Hidden, g.Title, g.Bells = 59, 131, hidden, strings.Repeat("é", 32), 1<<30
		if !Right(g) {
			t.Errorf("not Right: the greatest image, hidden %v", hidden)
		}
	}
}

func TestSameOfImagesThatDifferInOneThing(t *testing.T) {
	g := lettersOf(2, 6)
	g.Row, g.Col, g.Title, g.Bells = 1, 2, "title", 5
	l := []changed{
		change("a row", g, func(g *api.Image) { g.Row = 0 }),
		change("a column", g, func(g *api.Image) { g.Col = 3 }),
		change("row and column exchanged", g, func(g *api.Image) { g.Row, g.Col = 2, 1 }),
		change("a hidden caret", g, func(g *api.Image) { g.Hidden = true }),
		change("no title", g, func(g *api.Image) { g.Title = "" }),
		change("another title", g, func(g *api.Image) { g.Title = "titlf" }),
		change("a longer title", g, func(g *api.Image) { g.Title = "titles" }),
		change("a bell more", g, func(g *api.Image) { g.Bells++ }),
		change("no bells", g, func(g *api.Image) { g.Bells = 0 }),
		change("a size with as many cells", g, func(g *api.Image) { g.Grid.Rows, g.Grid.Cols = 6, 2 }),
		change("another size with as many cells", g, func(g *api.Image) { g.Grid.Rows, g.Grid.Cols = 3, 4 }),
		change("rows alone", g, func(g *api.Image) { g.Grid.Rows = 3 }),
		change("columns alone", g, func(g *api.Image) { g.Grid.Cols = 5 }),
		change("a cell less", g, func(g *api.Image) { g.Grid.Cells = g.Grid.Cells[:11] }),
		change("a cell more", g, func(g *api.Image) { g.Grid.Cells = append(g.Grid.Cells, plain) }),
		change("no cells", g, func(g *api.Image) { g.Grid.Cells = nil }),
		change("no cells at all", g, func(g *api.Image) { g.Grid = api.Grid{} }),
	}
	for i := range g.Grid.Cells {
		l = append(l,
			change("a rune", g, func(g *api.Image) { g.Grid.Cells[i].Rune++ }),
			change("a foreground", g, func(g *api.Image) { g.Grid.Cells[i].Pen.Fg++ }),
			change("a background", g, func(g *api.Image) { g.Grid.Cells[i].Pen.Bg++ }),
			change("marks", g, func(g *api.Image) { g.Grid.Cells[i].Pen.Marks ^= 64 }),
		)
	}
	for _, x := range append(l, invalid()...) {
		if Same(g, x.image) || Same(x.image, g) {
			t.Errorf("%s: Same of %v and %v", x.what, g, x.image)
		}
		if !Same(x.image, x.image) || !Same(x.image, copyOf(x.image)) {
			t.Errorf("%s: not Same as itself: %v", x.what, x.image)
		}
	}
	for i, x := range l {
		for j, y := range l {
			if Same(x.image, y.image) != alike(x.image, y.image) {
				t.Errorf("%s (%d) and %s (%d): Same is %v", x.what, i, y.what, j, Same(x.image, y.image))
			}
		}
	}
	if !Same(api.Image{}, api.Image{Grid: api.Grid{Cells: []api.Cell{}}}) {
		t.Errorf("not Same: no cells, and no cells")
	}
}

func TestBlank(t *testing.T) {
	for rows := 1; rows <= 60; rows++ {
		for _, cols := range []int{1, 2, 7, 8, 9, 80, 131, 132} {
			g, e := Blank(rows, cols)
			if e != api.OK || !alike(g, blankOf(rows, cols)) || !Right(g) {
				t.Fatalf("Blank(%d, %d): %v, %d", rows, cols, g, e)
			}
			if !alike(g, newScreen(t, rows, cols).Image()) {
				t.Fatalf("Blank(%d, %d) is not what a new screen shows", rows, cols)
			}
		}
	}
	for _, rows := range ints {
		for _, cols := range ints {
			g, e := Blank(rows, cols)
			if rows >= 1 && rows <= 60 && cols >= 1 && cols <= 132 {
				if e != api.OK || !alike(g, blankOf(rows, cols)) {
					t.Errorf("Blank(%d, %d): %d", rows, cols, e)
				}
			} else if e != api.ErrSize || !alike(g, api.Image{}) {
				t.Errorf("Blank(%d, %d): %v, %d", rows, cols, g, e)
			}
		}
	}
}
