package delta

import (
	"math"
	"math/rand"
	"slices"
	"strings"
	"testing"

	"baton/api"
)

// right checks Right of a delta.
func right(t *testing.T, what string, d Delta, want bool) {
	t.Helper()
	if got := Right(d); got != want {
		t.Errorf("%s: Right(%v) is %v", what, d, got)
	}
	if slowRight(d) != want {
		t.Errorf("%s: the test itself is wrong about %v", what, d)
	}
}

// cellsOf returns n valid cells, which differ.
func cellsOf(n int) []api.Cell {
	l := make([]api.Cell, n)
	for i := range l {
		l[i] = cellOf(rune('!'+i%94), i%257, 0, i%128)
	}
	return l
}

// wrong is a delta that is not valid, and in what way.
type wrong struct {
	what  string
	delta Delta
}

// wrongs returns deltas that are not valid, each in one way.
func wrongs() []wrong {
	l := []wrong{{"a zero delta", Delta{}}}
	add := func(what string, f func(d *Delta)) {
		l = append(l, wrong{what, altered(sample(), f)})
	}
	for _, n := range []int{0, -1, 61, math.MinInt, math.MaxInt, -3, 1, 2} {
		add("another number of rows", func(d *Delta) { d.Rows = n })
	}
	for _, n := range []int{0, -1, 133, math.MinInt, math.MaxInt, -6, 1, 5} {
		add("another number of columns", func(d *Delta) { d.Cols = n })
	}
	for _, n := range []int{-1, 3, 4, 6, math.MinInt, math.MaxInt} {
		add("the row of a caret", func(d *Delta) { d.Row = n })
	}
	for _, n := range []int{-1, 6, 7, math.MinInt, math.MaxInt} {
		add("the column of a caret", func(d *Delta) { d.Col = n })
	}
	for _, title := range wrongTitles() {
		add("a title", func(d *Delta) { d.Title = title })
	}
	for _, n := range []int{-1, 1<<30 + 1, math.MinInt, math.MaxInt} {
		add("bells", func(d *Delta) { d.Bells = n })
	}
	for i := range 4 {
		add("a span of no cells", func(d *Delta) { d.Spans[i].Cells = nil })
		add("a span of an empty list of cells", func(d *Delta) { d.Spans[i].Cells = []api.Cell{} })
		for _, n := range []int{-1, -2, 3, 6, math.MinInt, math.MaxInt} {
			add("a span in a row that is not there", func(d *Delta) { d.Spans[i].Row = n })
		}
		for _, n := range []int{-1, -2, 6, 7, math.MinInt, math.MaxInt, math.MaxInt - 1, math.MaxInt - 2} {
			add("a span at a column that is not there", func(d *Delta) { d.Spans[i].Col = n })
		}
		for _, c := range wrongCells() {
			add("a cell", func(d *Delta) { d.Spans[i].Cells[0] = c })
			add("a last cell", func(d *Delta) { d.Spans[i].Cells[len(d.Spans[i].Cells)-1] = c })
		}
	}
	add("a span that goes on behind its row", func(d *Delta) { d.Spans[3].Cells = cellsOf(2) })
	add("a span that starts late", func(d *Delta) { d.Spans[1].Col = 4 })
	add("a span of all cells", func(d *Delta) { d.Spans = []Span{{0, 0, cellsOf(18)}} })
	add("spans that adjoin", func(d *Delta) { d.Spans[1].Col = 2 })
	add("spans that overlap", func(d *Delta) { d.Spans[1].Col = 1 })
	add("spans that start alike", func(d *Delta) { d.Spans[1].Col = 0 })
	add("a span twice", func(d *Delta) { d.Spans = append(d.Spans, d.Spans[3]) })
	add("spans in decreasing order of columns", func(d *Delta) { d.Spans[2], d.Spans[3] = d.Spans[3], d.Spans[2] })
	add("spans in decreasing order of rows", func(d *Delta) { d.Spans[1], d.Spans[2] = d.Spans[2], d.Spans[1] })
	add("the spans the other way round", func(d *Delta) { slices.Reverse(d.Spans) })
	return l
}

// rights returns deltas that are valid.
func rights() []Delta {
	l := []Delta{sample(), altered(sample(), func(d *Delta) { d.Spans, d.Hidden = nil, true }), {Rows: 1, Cols: 1}}
	for _, size := range sizes() {
		d := Delta{Rows: size[0], Cols: size[1], Row: size[0] - 1, Col: size[1] - 1, Hidden: true, Bells: 1 << 30}
		l = append(l, d)
		for row := range d.Rows {
			d.Spans = append(d.Spans, Span{row, 0, cellsOf(d.Cols)})
		}
		l = append(l, d, altered(d, func(d *Delta) { d.Spans = d.Spans[d.Rows-1:] }))
	}
	for _, title := range rightTitles() {
		l = append(l, altered(sample(), func(d *Delta) { d.Title = title }))
	}
	for _, c := range someCells() {
		for _, n := range []int{1, 2, 6} {
			l = append(l, altered(sample(), func(d *Delta) { d.Spans[2] = Span{1, 6 - n, slices.Repeat([]api.Cell{c}, n)} }))
		}
	}
	return append(l, greatest())
}

// greatest returns a delta with as many spans as a valid one can have.
func greatest() Delta {
	d := Delta{Rows: 60, Cols: 132, Row: 59, Col: 131, Hidden: true, Title: strings.Repeat("x", 64), Bells: 1 << 30}
	for row := range 60 {
		for col := range 66 {
			d.Spans = append(d.Spans, Span{row, 2*col + row%2, cellsOf(1)})
		}
	}
	return d
}

// P18.1: Right and Count

func TestRightOfDeltasThatAreNot(t *testing.T) {
	for _, x := range wrongs() {
		right(t, x.what, x.delta, false)
	}
}

func TestRightOfDeltasThatAre(t *testing.T) {
	for _, d := range rights() {
		right(t, "a delta", d, true)
	}
}

func TestRightOfSizes(t *testing.T) {
	for _, rows := range append([]int{3, 59, 60, 61, 62, 131, 132, 133}, ends...) {
		for _, cols := range append([]int{3, 59, 60, 61, 131, 132, 133, 134}, ends...) {
			right(t, "a size", Delta{Rows: rows, Cols: cols}, rows >= 1 && rows <= 60 && cols >= 1 && cols <= 132)
		}
	}
}

func TestRightOfCarets(t *testing.T) {
	for _, size := range sizes() {
		rows, cols := size[0], size[1]
		for _, row := range append([]int{rows - 1, rows, rows + 1}, ends...) {
			for _, col := range append([]int{cols - 1, cols, cols + 1}, ends...) {
				d := Delta{Rows: rows, Cols: cols, Row: row, Col: col}
				right(t, "a caret", d, row >= 0 && row < rows && col >= 0 && col < cols)
			}
		}
	}
}

func TestRightOfTitlesAndBells(t *testing.T) {
	for _, title := range rightTitles() {
		right(t, "a title", Delta{Rows: 1, Cols: 1, Title: title}, true)
	}
	for _, title := range wrongTitles() {
		right(t, "a title", Delta{Rows: 1, Cols: 1, Title: title}, false)
	}
	for _, n := range append([]int{1<<30 - 1, 1 << 30, 1<<30 + 1}, ends...) {
		right(t, "bells", Delta{Rows: 1, Cols: 1, Bells: n}, n >= 0 && n <= 1<<30)
	}
}

func TestRightOfOneSpan(t *testing.T) {
	for _, size := range sizes() {
		rows, cols := size[0], size[1]
		for _, row := range append([]int{rows - 1, rows}, ends...) {
			for _, col := range append([]int{cols - 1, cols}, ends...) {
				for _, n := range []int{0, 1, 2, cols - 1, cols, cols + 1} {
					d := Delta{Rows: rows, Cols: cols, Spans: []Span{{row, col, cellsOf(n)}}}
					within := row >= 0 && row < rows && col >= 0 && col < cols && col+n <= cols
					right(t, "a span", d, n > 0 && within)
				}
			}
		}
	}
	right(t, "very many cells", Delta{Rows: 60, Cols: 132, Spans: []Span{{0, 0, cellsOf(1 << 16)}}}, false)
	right(t, "very many cells ahead", Delta{Rows: 60, Cols: 132, Spans: []Span{{0, -(1 << 16), cellsOf(1 << 16)}}}, false)
}

func TestRightOfTwoSpans(t *testing.T) {
	const rows, cols = 3, 5
	for from := range rows * cols {
		for to := range rows * cols {
			for n := 1; n <= 3; n++ {
				first, second := Span{from / cols, from % cols, cellsOf(n)}, Span{to / cols, to % cols, cellsOf(4 - n)}
				fits := from%cols+n <= cols && to%cols+4-n <= cols
				later := to/cols > from/cols || to/cols == from/cols && to%cols-(from%cols+n-1) >= 2
				right(t, "two spans", Delta{Rows: rows, Cols: cols, Spans: []Span{first, second}}, fits && later)
			}
		}
	}
}

func TestRightOfEachCellOfASpan(t *testing.T) {
	for _, c := range someCells() {
		for i := range 6 {
			d := Delta{Rows: 1, Cols: 6, Spans: []Span{{0, 0, cellsOf(6)}}}
			d.Spans[0].Cells[i] = c
			right(t, "a cell", d, true)
		}
	}
	for _, c := range wrongCells() {
		for i := range 6 {
			d := Delta{Rows: 2, Cols: 6, Spans: []Span{{0, 0, cellsOf(2)}, {1, 0, cellsOf(6)}}}
			d.Spans[1].Cells[i] = c
			right(t, "a cell", d, false)
		}
	}
}

func TestRightOfRandomDeltas(t *testing.T) {
	r, valid := rand.New(rand.NewSource(1)), 0
	for range 100000 {
		d := randomDelta(r)
		want := slowRight(d)
		if Right(d) != want {
			t.Fatalf("Right(%v) is not %v", d, want)
		}
		if want && len(d.Spans) > 1 {
			valid++
		}
	}
	if valid < 1000 {
		t.Errorf("no more than %d are valid", valid)
	}
}

func TestCount(t *testing.T) {
	for _, x := range []struct {
		d    Delta
		want int
	}{
		{Delta{}, 0},
		{Delta{Rows: 3, Cols: 3, Spans: []Span{}}, 0},
		{Delta{Rows: 1, Cols: 9, Spans: []Span{{0, 3, cellsOf(1)}}}, 1},
		{Delta{Rows: 60, Cols: 132, Spans: []Span{{7, 0, cellsOf(132)}}}, 132},
		{sample(), 7},
		{greatest(), 3960},
		{Delta{Spans: []Span{{-1, -1, nil}, {0, 0, cellsOf(3)}, {0, 0, cellsOf(3)}, {9, 9, make([]api.Cell, 500)}}}, 506},
	} {
		if got := Count(x.d); got != x.want {
			t.Errorf("Count(%v) is %d, not %d", x.d, got, x.want)
		}
	}
	for _, x := range wrongs() {
		want := 0
		for _, s := range x.delta.Spans {
			want += len(s.Cells)
		}
		if got := Count(x.delta); got != want {
			t.Errorf("%s: Count is %d, not %d", x.what, got, want)
		}
	}
}
