package delta

import (
	"math"
	"math/rand"
	"strings"
	"testing"

	"baton/api"
)

// invalidImages returns images that are not valid, each in one way.
func invalidImages() []api.Image {
	var l []api.Image
	add := func(f func(g *api.Image)) {
		l = append(l, changed(lettersOf(3, 4), f))
	}
	for _, n := range []int{0, -1, 1, 2, 4, 61, math.MinInt, math.MaxInt} {
		add(func(g *api.Image) { g.Grid.Rows = n })
	}
	for _, n := range []int{0, -1, 1, 3, 5, 133, math.MinInt, math.MaxInt} {
		add(func(g *api.Image) { g.Grid.Cols = n })
	}
	add(func(g *api.Image) { g.Grid.Cells = g.Grid.Cells[:11] })
	add(func(g *api.Image) { g.Grid.Cells = append(g.Grid.Cells, blank) })
	add(func(g *api.Image) { g.Grid.Cells = nil })
	for _, c := range wrongCells() {
		for _, i := range []int{0, 3, 11} {
			add(func(g *api.Image) { g.Grid.Cells[i] = c })
		}
	}
	for _, n := range []int{-1, 3, math.MinInt, math.MaxInt} {
		add(func(g *api.Image) { g.Row = n })
	}
	for _, n := range []int{-1, 4, math.MinInt, math.MaxInt} {
		add(func(g *api.Image) { g.Col = n })
	}
	for _, title := range wrongTitles() {
		add(func(g *api.Image) { g.Title = title })
	}
	for _, n := range []int{-1, 1<<30 + 1, math.MinInt, math.MaxInt} {
		add(func(g *api.Image) { g.Bells = n })
	}
	return append(l, api.Image{}, blankOf(61, 1), blankOf(1, 133), blankOf(0, 0))
}

// of returns what Of returns for images that are valid, and checks it and P18.4.
func of(t *testing.T, a, b api.Image) Delta {
	t.Helper()
	d, e := Of(a, b)
	if want := slowOf(a, b); e != api.OK || !equal(d, want) {
		t.Fatalf("Of(%v, %v) is %v, %d, not %v", a, b, d, e, want)
	}
	applies(t, a, b, d)
	out, e := Bytes(d)
	if e != api.OK {
		t.Fatalf("Bytes(%v): %d", d, e)
	}
	again, e := Read(out)
	if e != api.OK || !equal(again, d) {
		t.Fatalf("Read(%q) is %v, %d, not %v", out, again, e, d)
	}
	applies(t, a, b, again)
	return d
}

// applies checks P18.4: d is valid, makes b of a, and has as many cells as differ.
func applies(t *testing.T, a, b api.Image, d Delta) {
	t.Helper()
	if !Right(d) || !slowRight(d) {
		t.Fatalf("not Right: %v", d)
	}
	if x, e := Apply(a, d); e != api.OK || !alike(x, b) {
		t.Fatalf("Apply(%v, %v) is %v, %d, not %v", a, d, x, e, b)
	}
	n := 0
	for i, c := range b.Grid.Cells {
		if slowBase(a, b.Grid.Rows, b.Grid.Cols, i/b.Grid.Cols, i%b.Grid.Cols) != c {
			n++
		}
	}
	if Count(d) != n {
		t.Fatalf("Count(%v) is %d, but %d cells differ", d, Count(d), n)
	}
}

// letters returns an image of the runes of rows of equal length.
func letters(rows ...string) api.Image {
	g := blankOf(len(rows), len(rows[0]))
	for i, c := range strings.Join(rows, "") {
		g.Grid.Cells[i].Rune = c
	}
	return g
}

// spansOf returns the rune of each span's cells ahead of which its row and its column stand.
func spansOf(d Delta) string {
	var out strings.Builder
	for _, s := range d.Spans {
		out.WriteString(string(rune('0'+s.Row)) + string(rune('0'+s.Col)))
		for _, c := range s.Cells {
			out.WriteRune(c.Rune)
		}
		out.WriteByte(';')
	}
	return out.String()
}

// P18.1: Of

func TestOfImagesThatAreNotValid(t *testing.T) {
	good, l := lettersOf(3, 4), invalidImages()
	for i, g := range l {
		for _, pair := range [][2]api.Image{{g, good}, {good, g}, {g, g}, {g, l[(i+1)%len(l)]}} {
			if d, e := Of(pair[0], pair[1]); e != api.ErrArg || !equal(d, Delta{}) {
				t.Errorf("Of(%v, %v) is %v, %d", pair[0], pair[1], d, e)
			}
		}
	}
	// Each of them is not valid in one way only.
	if d, e := Of(good, good); e != api.OK || len(d.Spans) != 0 {
		t.Errorf("Of(%v, itself) is %v, %d", good, d, e)
	}
}

// The chapter's example.
func TestOfAnImageAndItself(t *testing.T) {
	for _, size := range sizes() {
		for _, g := range []api.Image{blankOf(size[0], size[1]), lettersOf(size[0], size[1])} {
			d := of(t, g, g)
			want := Delta{Rows: size[0], Cols: size[1], Row: g.Row, Col: g.Col, Hidden: g.Hidden, Title: g.Title, Bells: g.Bells}
			if !equal(d, want) || len(of(t, g, copyOf(g)).Spans) != 0 {
				t.Errorf("Of(%v, itself) is %v", g, d)
			}
		}
	}
}

func TestOfByHand(t *testing.T) {
	for _, x := range []struct {
		a, b []string
		want string
	}{
		{[]string{"abcd", "efgh"}, []string{"abcd", "efgh"}, ""},
		{[]string{"abcd", "efgh"}, []string{"Xbcd", "efgh"}, "00X;"},
		{[]string{"abcd", "efgh"}, []string{"abcX", "efgh"}, "03X;"},
		{[]string{"abcd", "efgh"}, []string{"abcd", "Xfgh"}, "10X;"},
		{[]string{"abcd", "efgh"}, []string{"abcd", "efgX"}, "13X;"},
		{[]string{"abcd", "efgh"}, []string{"abcX", "Yfgh"}, "03X;10Y;"},
		{[]string{"abcd", "efgh"}, []string{"abXY", "ZTgh"}, "02XY;10ZT;"},
		{[]string{"abcd", "efgh"}, []string{"XbYd", "efgh"}, "00X;02Y;"},
		{[]string{"abcd", "efgh"}, []string{"aXcY", "efgh"}, "01X;03Y;"},
		{[]string{"abcd", "efgh"}, []string{"XbcY", "efgh"}, "00X;03Y;"},
		{[]string{"abcd", "efgh"}, []string{"XYcd", "efgh"}, "00XY;"},
		{[]string{"abcd", "efgh"}, []string{"aXYd", "efgh"}, "01XY;"},
		{[]string{"abcd", "efgh"}, []string{"abcd", "WXYZ"}, "10WXYZ;"},
		{[]string{"abcd", "efgh"}, []string{"STUV", "WXYZ"}, "00STUV;10WXYZ;"},
		{[]string{"abcd", "efgh"}, []string{"bcda", "efgh"}, "00bcda;"},
		{[]string{"abcd", "efgh"}, []string{"    ", "efgh"}, "00    ;"},
		{[]string{"    ", "    "}, []string{"ab c", " d  "}, "00ab;03c;11d;"},
		{[]string{"abcd", "efgh"}, []string{"abc", "efg"}, "00abc;10efg;"},
		{[]string{"abcd", "efgh"}, []string{"abcd"}, "00abcd;"},
		{[]string{"abcd", "efgh"}, []string{"abcd", "efgh", "    "}, "00abcd;10efgh;"},
		{[]string{"abcd", "efgh"}, []string{"ab", "  ", "ef", " h"}, "00ab;20ef;31h;"},
		{[]string{"abcd", "efgh"}, []string{"abcdefgh"}, "00abcdefgh;"},
		{[]string{"abcd", "efgh"}, []string{"    ", "    ", "    "}, ""},
		{[]string{"a"}, []string{" a", "a "}, "01a;10a;"},
	} {
		if got := spansOf(of(t, letters(x.a...), letters(x.b...))); got != x.want {
			t.Errorf("of %q and %q: %q, not %q", x.a, x.b, got, x.want)
		}
	}
}

func TestOfOneCellThatDiffers(t *testing.T) {
	a := lettersOf(3, 5)
	for i, c := range a.Grid.Cells {
		for _, other := range []api.Cell{
			{Rune: c.Rune ^ 1, Pen: c.Pen},
			{Rune: c.Rune + 0x1000, Pen: c.Pen},
			{Rune: c.Rune, Pen: api.Pen{Fg: c.Pen.Fg + 1, Bg: c.Pen.Bg, Marks: c.Pen.Marks}},
			{Rune: c.Rune, Pen: api.Pen{Fg: c.Pen.Fg, Bg: c.Pen.Bg + 1, Marks: c.Pen.Marks}},
			{Rune: c.Rune, Pen: api.Pen{Fg: c.Pen.Fg, Bg: c.Pen.Bg, Marks: c.Pen.Marks ^ 64}},
			blank,
		} {
			b := changed(a, func(g *api.Image) { g.Grid.Cells[i] = other })
			if d := of(t, a, b); len(d.Spans) != 1 || !equal(Delta{Spans: d.Spans}, Delta{Spans: []Span{{i / 5, i % 5, []api.Cell{other}}}}) {
				t.Errorf("%d: %v", i, d)
			}
		}
	}
}

func TestOfWhatIsNotCells(t *testing.T) {
	a := lettersOf(3, 5)
	for _, f := range []func(g *api.Image){
		func(g *api.Image) { g.Row = 0 },
		func(g *api.Image) { g.Col = 0 },
		func(g *api.Image) { g.Hidden = false },
		func(g *api.Image) { g.Title = "" },
		func(g *api.Image) { g.Title = strings.Repeat("é", 32) },
		func(g *api.Image) { g.Bells = 0 },
		func(g *api.Image) { g.Bells = 1 << 30 },
	} {
		b := changed(a, f)
		for _, pair := range [][2]api.Image{{a, b}, {b, a}} {
			x := pair[1]
			want := Delta{Rows: 3, Cols: 5, Row: x.Row, Col: x.Col, Hidden: x.Hidden, Title: x.Title, Bells: x.Bells}
			if d := of(t, pair[0], x); !equal(d, want) {
				t.Errorf("%v, not %v", d, want)
			}
		}
	}
}

func TestOfAllCells(t *testing.T) {
	for _, size := range sizes() {
		rows, cols := size[0], size[1]
		d := of(t, blankOf(rows, cols), lettersOf(rows, cols))
		if len(d.Spans) != rows || Count(d) != rows*cols {
			t.Errorf("%d x %d: %d spans of %d cells", rows, cols, len(d.Spans), Count(d))
		}
		for row, s := range d.Spans {
			if s.Row != row || s.Col != 0 || len(s.Cells) != cols {
				t.Errorf("%d x %d: the span %v of row %d", rows, cols, s, row)
			}
		}
	}
}

func TestOfEachSetOfCells(t *testing.T) {
	a := blankOf(2, 6)
	for set := range 1 << 12 {
		b := copyOf(a)
		for i := range 12 {
			if set>>i%2 == 1 {
				b.Grid.Cells[i].Rune = rune('a' + i)
			}
		}
		of(t, a, b)
		of(t, b, a)
	}
}

func TestOfEachTwoSizes(t *testing.T) {
	l := append(sizes(), [][2]int{{5, 3}, {4, 3}, {3, 4}, {12, 1}, {1, 12}, {60, 131}, {59, 132}}...)
	for _, from := range l {
		for _, to := range l {
			for _, b := range []api.Image{blankOf(to[0], to[1]), lettersOf(to[0], to[1])} {
				d := of(t, lettersOf(from[0], from[1]), b)
				if d.Rows != to[0] || d.Cols != to[1] {
					t.Errorf("from %v to %v: %v", from, to, d)
				}
			}
		}
	}
}

func TestOfRandomImages(t *testing.T) {
	r := rand.New(rand.NewSource(2))
	for range 20000 {
		a, b := randomPair(r)
		of(t, a, b)
		of(t, b, a)
	}
	for range 20 {
		some := someCells()
		a, b := randomImage(r, 60, 132, some), randomImage(r, 60, 132, some)
		of(t, a, b)
		of(t, a, touched(r, a, some))
	}
}

// P18.4

func TestDeltasOneBehindTheOther(t *testing.T) {
	r := rand.New(rand.NewSource(3))
	for range 500 {
		shown, _ := randomPair(r)
		at := copyOf(shown)
		for range 8 {
			next := touched(r, shown, someCells())
			if r.Intn(4) == 0 {
				next = randomImage(r, 1+r.Intn(5), 1+r.Intn(9), someCells())
			}
			d := of(t, shown, next)
			x, e := Apply(at, d)
			if e != api.OK || !alike(x, next) {
				t.Fatalf("%v, %d, not %v", x, e, next)
			}
			shown, at = next, x
		}
	}
}
