package delta

import (
	"encoding/binary"
	"math"
	"math/rand"
	"regexp"
	"slices"
	"strings"
	"unicode/utf8"

	"baton/api"
)

// blank is the cell of a new grid.
var blank = api.Cell{Rune: ' '}

// ends are numbers at the ends of what an int can be.
var ends = []int{math.MinInt, math.MinInt + 1, math.MinInt32, -1 << 32, -2, -1, 0, 1, 2, 1 << 31, 1 << 32, 1<<32 + 1, 1 << 56, math.MaxInt - 1, math.MaxInt}

func cellOf(sign rune, fg, bg, marks int) api.Cell {
	return api.Cell{Rune: sign, Pen: api.Pen{Fg: fg, Bg: bg, Marks: marks}}
}

// someCells are valid cells, some of which differ in one field alone.
func someCells() []api.Cell {
	return []api.Cell{
		blank, cellOf('a', 0, 0, 0), cellOf('b', 0, 0, 0), cellOf('a', 1, 0, 0), cellOf('a', 0, 1, 0), cellOf('a', 0, 0, 1), cellOf(' ', 0, 9, 0), cellOf('~', 256, 0, 0),
		cellOf(160, 0, 256, 0), cellOf(0xd7ff, 0, 0, 127), cellOf(0xe000, 256, 256, 127), cellOf(0xfffd, 128, 127, 64), cellOf(0x1f600, 0, 0, 64), cellOf(0x10ffff, 256, 256, 127),
	}
}

// wrongCells are cells that are not valid, each in one way.
func wrongCells() []api.Cell {
	var l []api.Cell
	for _, c := range []rune{0, 1, 0x1b, 0x1f, 0x7f, 0x80, 0x9f, 0xd800, 0xdfff, 0x110000, -1, math.MinInt32, math.MaxInt32} {
		l = append(l, cellOf(c, 0, 0, 0))
	}
	for _, n := range []int{-1, 257, math.MinInt, math.MaxInt} {
		l = append(l, cellOf('a', n, 0, 0), cellOf('a', 0, n, 0), cellOf('a', 0, 0, n))
	}
	return append(l, cellOf('a', 0, 0, 128), api.Cell{})
}

// wrongTitles are titles that are not valid: too long, not UTF-8, or with a byte from 0 to 1f or 7f.
func wrongTitles() []string {
	return []string{
		strings.Repeat("x", 65), strings.Repeat("x", 1000), strings.Repeat("é", 32) + "x", strings.Repeat("€", 22),
		"\x80", "\xff", "\xc2", "\xe2\x82", "a\x80b", "\xed\xa0\x80", "\xc0\x80", "\xf4\x90\x80\x80",
		"\x00", "\x07", "\x1b", "\x1f", "\x7f", "ab\x00", "é\x1fé", strings.Repeat("x", 63) + "\x7f",
	}
}

// rightTitles are titles that are valid, of 0 to 64 bytes.
func rightTitles() []string {
	return []string{"", " ", "~", "title", "é", "\u0080", "\ufffd", "\U0010ffff", strings.Repeat("x", 63), strings.Repeat("x", 64), strings.Repeat("é", 32), strings.Repeat("\U0001f600", 16)}
}

// blankOf returns an image of blanks.
func blankOf(rows, cols int) api.Image {
	return api.Image{Grid: api.Grid{Rows: rows, Cols: cols, Cells: slices.Repeat([]api.Cell{blank}, rows*cols)}}
}

// lettersOf returns an image in which neighbours differ, and no cell is blank.
func lettersOf(rows, cols int) api.Image {
	g := blankOf(rows, cols)
	for i := range g.Grid.Cells {
		g.Grid.Cells[i] = cellOf(rune('!'+i%94), i/3%257, i/9%20, i/3%128)
	}
	g.Row, g.Col, g.Hidden, g.Title, g.Bells = rows-1, cols-1, true, "letters", 7
	return g
}

// copyOf returns g with cells in other memory, to which more cells are left.
func copyOf(g api.Image) api.Image {
	g.Grid.Cells = append(make([]api.Cell, 0, len(g.Grid.Cells)+3), g.Grid.Cells...)
	return g
}

// changed returns a copy of g that f changed.
func changed(g api.Image, f func(g *api.Image)) api.Image {
	g = copyOf(g)
	f(&g)
	return g
}

// copied returns d with spans and cells in other memory.
func copied(d Delta) Delta {
	d.Spans = slices.Clone(d.Spans)
	for i := range d.Spans {
		d.Spans[i].Cells = slices.Clone(d.Spans[i].Cells)
	}
	return d
}

// altered returns a copy of d that f changed.
func altered(d Delta, f func(d *Delta)) Delta {
	d = copied(d)
	f(&d)
	return d
}

// alike returns whether all fields of two images are equal.
func alike(a, b api.Image) bool {
	same := a.Grid.Rows == b.Grid.Rows && a.Grid.Cols == b.Grid.Cols && slices.Equal(a.Grid.Cells, b.Grid.Cells)
	return same && a.Row == b.Row && a.Col == b.Col && a.Hidden == b.Hidden && a.Title == b.Title && a.Bells == b.Bells
}

// equal returns whether all fields of two deltas are equal.
func equal(a, b Delta) bool {
	same := slices.EqualFunc(a.Spans, b.Spans, func(x, y Span) bool {
		return x.Row == y.Row && x.Col == y.Col && slices.Equal(x.Cells, y.Cells)
	})
	return same && a.Rows == b.Rows && a.Cols == b.Cols && a.Row == b.Row && a.Col == b.Col && a.Hidden == b.Hidden && a.Title == b.Title && a.Bells == b.Bells
}

// The sentences of the chapter

// slowCell is whether a cell is valid.
func slowCell(c api.Cell) bool {
	pen := c.Pen.Fg >= 0 && c.Pen.Fg <= 256 && c.Pen.Bg >= 0 && c.Pen.Bg <= 256 && c.Pen.Marks >= 0 && c.Pen.Marks <= 127
	return pen && (c.Rune >= 32 && c.Rune <= 126 || c.Rune >= 160 && c.Rune <= 0xd7ff || c.Rune >= 0xe000 && c.Rune <= 0x10ffff)
}

// slowShown is whether an image of a new grid with that size and these is valid.
func slowShown(d Delta) bool {
	size := d.Rows > 0 && d.Rows < 61 && d.Cols > 0 && d.Cols < 133
	place := d.Row >= 0 && d.Row < d.Rows && d.Col >= 0 && d.Col < d.Cols
	control := strings.ContainsFunc(d.Title, func(c rune) bool { return c < 32 || c == 127 })
	title := len(d.Title) < 65 && utf8.ValidString(d.Title) && !control
	return size && place && title && d.Bells >= 0 && d.Bells <= 1<<30
}

// slowRight numbers the positions so that the last one of a row and the first one of the next are never neighbours: then a span starts at least two behind the one before it.
func slowRight(d Delta) bool {
	if !slowShown(d) {
		return false
	}
	next := 0
	for _, s := range d.Spans {
		if len(s.Cells) == 0 || s.Row < 0 || s.Row > 59 || s.Col < 0 || s.Col > 131 {
			return false
		}
		at := s.Row*200 + s.Col
		if at < next {
			return false
		}
		for i, c := range s.Cells {
			if s.Row >= d.Rows || s.Col+i >= d.Cols || !slowCell(c) {
				return false
			}
			at++
		}
		next = at + 1
	}
	return true
}

// slowBase is the cell at a position of the base of an image for a size.
func slowBase(g api.Image, rows, cols, row, col int) api.Cell {
	if g.Grid.Rows != rows || g.Grid.Cols != cols {
		return blank
	}
	return g.Grid.Cells[row*cols+col]
}

var sequences = regexp.MustCompile("x+")

// slowOf marks what differs in a row with x, and takes each maximal sequence of marks. Both images are valid.
func slowOf(a, b api.Image) Delta {
	d := Delta{Rows: b.Grid.Rows, Cols: b.Grid.Cols, Row: b.Row, Col: b.Col, Hidden: b.Hidden, Title: b.Title, Bells: b.Bells}
	for row := range d.Rows {
		marks := make([]byte, d.Cols)
		for col := range marks {
			marks[col] = '.'
			if slowBase(a, d.Rows, d.Cols, row, col) != b.Grid.Cells[row*d.Cols+col] {
				marks[col] = 'x'
			}
		}
		for _, x := range sequences.FindAllIndex(marks, -1) {
			d.Spans = append(d.Spans, Span{row, x[0], slices.Clone(b.Grid.Cells[row*d.Cols+x[0] : row*d.Cols+x[1]])})
		}
	}
	return d
}

// slowApply asks for each position which span has it. Both are valid.
func slowApply(a api.Image, d Delta) api.Image {
	g := api.Image{Row: d.Row, Col: d.Col, Hidden: d.Hidden, Title: d.Title, Bells: d.Bells}
	g.Grid.Rows, g.Grid.Cols = d.Rows, d.Cols
	for row := range d.Rows {
		spans := slices.DeleteFunc(slices.Clone(d.Spans), func(s Span) bool { return s.Row != row })
		for col := range d.Cols {
			c := slowBase(a, d.Rows, d.Cols, row, col)
			for _, s := range spans {
				if col >= s.Col && col < s.Col+len(s.Cells) {
					c = s.Cells[col-s.Col]
				}
			}
			g.Grid.Cells = append(g.Grid.Cells, c)
		}
	}
	return g
}

// numbers returns the encodings of numbers one behind the other, by Go's own encoding of seven bits a byte.
func numbers(l ...int) []byte {
	var b []byte
	for _, n := range l {
		b = binary.AppendUvarint(b, uint64(n))
	}
	return b
}

// slowCells is the bytes of cells as runs: it looks how far each run goes.
func slowCells(l []api.Cell) []byte {
	var b []byte
	for from := 0; from < len(l); {
		to := from + 1
		for to < len(l) && l[to] == l[from] {
			to++
		}
		c := l[from]
		b = append(b, numbers(to-from, int(c.Rune), c.Pen.Fg, c.Pen.Bg, c.Pen.Marks)...)
		from = to
	}
	return b
}

// slowSpan is the bytes of a span.
func slowSpan(s Span) []byte {
	return append(numbers(s.Row, s.Col, len(s.Cells)), slowCells(s.Cells)...)
}

// slowEnd is the bytes behind the spans.
func slowEnd(d Delta) []byte {
	hidden := 0
	if d.Hidden {
		hidden = 1
	}
	return slices.Concat(numbers(d.Row, d.Col, hidden, len(d.Title)), []byte(d.Title), numbers(d.Bells))
}

// slowBytes is the bytes of a delta, valid or not, if it has no negative numbers.
func slowBytes(d Delta) []byte {
	b := numbers(d.Rows, d.Cols, len(d.Spans))
	for _, s := range d.Spans {
		b = append(b, slowSpan(s)...)
	}
	return append(b, slowEnd(d)...)
}

// source reads bytes; a panic with an error ends it.
type source struct{ rest []byte }

func (s *source) byte() int {
	if len(s.rest) == 0 {
		panic(api.ErrShort)
	}
	b := s.rest[0]
	s.rest = s.rest[1:]
	return int(b)
}

func (s *source) number() int {
	n, unit := 0, 1
	for i := range 8 {
		b := s.byte()
		if b == 0 && i > 0 {
			panic(api.ErrForm)
		}
		n += unit * (b % 128)
		if b < 128 {
			return n
		}
		unit *= 128
	}
	panic(api.ErrLong)
}

func (s *source) cells(n int) []api.Cell {
	var l []api.Cell
	last := [5]int{}
	for len(l) < n {
		v := [5]int{s.number(), s.number(), s.number(), s.number(), s.number()}
		c := cellOf(-1, v[2], v[3], v[4])
		if v[1] <= 0x10ffff {
			c.Rune = rune(v[1])
		}
		if v[0] == 0 || v[0] > n-len(l) || !slowCell(c) || len(l) > 0 && slices.Equal(v[1:], last[1:]) {
			panic(api.ErrForm)
		}
		l = append(l, slices.Repeat([]api.Cell{c}, v[0])...)
		last = v
	}
	return l
}

func (s *source) span() Span {
	x := Span{Row: s.number(), Col: s.number()}
	n := s.number()
	if n == 0 || n > 132 {
		panic(api.ErrForm)
	}
	x.Cells = s.cells(n)
	return x
}

func (s *source) bool() bool {
	b := s.byte()
	if b > 1 {
		panic(api.ErrForm)
	}
	return b == 1
}

func (s *source) text() string {
	n := s.number()
	if n > 64 {
		panic(api.ErrSize)
	}
	var b []byte
	for range n {
		b = append(b, byte(s.byte()))
	}
	return string(b)
}

// slowRead is the delta of bytes, or the error.
func slowRead(b []byte) (d Delta, e api.Errno) {
	defer func() {
		switch x := recover().(type) {
		case nil:
		case api.Errno:
			d, e = Delta{}, x
		default:
			panic(x)
		}
	}()
	s := &source{b}
	d.Rows, d.Cols = s.number(), s.number()
	for range s.number() {
		d.Spans = append(d.Spans, s.span())
	}
	d.Row, d.Col, d.Hidden = s.number(), s.number(), s.bool()
	d.Title, d.Bells = s.text(), s.number()
	if len(s.rest) > 0 {
		panic(api.ErrLong)
	}
	if !slowRight(d) {
		panic(api.ErrForm)
	}
	return d, api.OK
}

// Samples

// sample is a valid delta with spans of each kind.
func sample() Delta {
	return Delta{
		Rows: 3, Cols: 6, Row: 1, Col: 2, Title: "t", Bells: 5,
		Spans: []Span{
			{0, 0, []api.Cell{cellOf('a', 0, 0, 0), cellOf('a', 0, 0, 0)}},
			{0, 3, []api.Cell{cellOf('b', 3, 0, 0), cellOf(0x20ac, 3, 200, 5), blank}},
			{2, 1, []api.Cell{cellOf('c', 0, 0, 64)}},
			{2, 5, []api.Cell{cellOf('d', 0, 256, 0)}},
		},
	}
}

// sizes are sizes of images, with the ends of each direction.
func sizes() [][2]int {
	return [][2]int{{1, 1}, {1, 2}, {2, 1}, {2, 3}, {3, 2}, {1, 6}, {6, 1}, {3, 5}, {1, 132}, {60, 1}, {60, 132}, {59, 131}}
}

// randomImage returns a valid image with runs of cells, of the cells of some.
func randomImage(r *rand.Rand, rows, cols int, some []api.Cell) api.Image {
	g := blankOf(rows, cols)
	for i := range g.Grid.Cells {
		switch {
		case i > 0 && r.Intn(2) == 0:
			g.Grid.Cells[i] = g.Grid.Cells[i-1]
		case r.Intn(3) > 0:
			g.Grid.Cells[i] = some[r.Intn(len(some))]
		}
	}
	l := rightTitles()
	g.Row, g.Col, g.Hidden, g.Title, g.Bells = r.Intn(rows), r.Intn(cols), r.Intn(2) == 0, l[r.Intn(len(l))], r.Intn(1<<r.Intn(31)+1)
	return g
}

// touched returns a copy of g with some other cells.
func touched(r *rand.Rand, g api.Image, some []api.Cell) api.Image {
	g = copyOf(g)
	for range r.Intn(8) {
		from := r.Intn(len(g.Grid.Cells))
		to := min(from+1+r.Intn(4), len(g.Grid.Cells))
		for i := from; i < to; i++ {
			g.Grid.Cells[i] = some[r.Intn(len(some))]
		}
	}
	g.Row, g.Col, g.Hidden = r.Intn(g.Grid.Rows), r.Intn(g.Grid.Cols), r.Intn(2) == 0
	return g
}

// randomPair returns two valid images: of one size, and alike for the most part, or of any sizes.
func randomPair(r *rand.Rand) (api.Image, api.Image) {
	some := someCells()
	some = some[:1+r.Intn(len(some))]
	a := randomImage(r, 1+r.Intn(5), 1+r.Intn(9), some)
	switch r.Intn(4) {
	case 0:
		return a, randomImage(r, 1+r.Intn(5), 1+r.Intn(9), some)
	case 1:
		return a, randomImage(r, a.Grid.Rows, a.Grid.Cols, some)
	}
	return a, touched(r, a, some)
}

// randomDelta returns a delta that is valid, if its spans happen to be so.
func randomDelta(r *rand.Rand) Delta {
	some := someCells()
	d := Delta{Rows: 1 + r.Intn(3), Cols: 1 + r.Intn(6)}
	l := rightTitles()
	d.Row, d.Col, d.Hidden, d.Title, d.Bells = r.Intn(d.Rows), r.Intn(d.Cols), r.Intn(2) == 0, l[r.Intn(len(l))], r.Intn(1<<30+1)
	row, col := 0, 0
	for range r.Intn(5) {
		if r.Intn(2) == 0 {
			row, col = row+r.Intn(2), r.Intn(3)
		}
		col += r.Intn(3)
		var cells []api.Cell
		for range 1 + r.Intn(3) - r.Intn(20)/19 {
			cells = append(cells, some[r.Intn(len(some))])
		}
		d.Spans = append(d.Spans, Span{row, col, cells})
		col += len(cells)
	}
	return d
}
