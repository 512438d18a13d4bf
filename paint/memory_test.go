package paint

import (
	"math"
	"slices"
	"strings"
	"testing"

	"baton/api"
)

// P1

func TestNothingPanics(t *testing.T) {
	cells := []int{0, 1, 2, 12, 7920, 7921}
	for _, rows := range ints {
		for _, cols := range ints {
			for _, n := range cells {
				g := api.Image{Grid: api.Grid{Rows: rows, Cols: cols, Cells: slices.Repeat([]api.Cell{plain}, n)}, Row: cols, Col: rows, Bells: rows, Title: "\x80"}
				b, e := Bytes(g)
				if Right(g) || e != api.ErrArg || len(b) != 0 || !Same(g, g) {
					t.Fatalf("%d x %d with %d cells: %q, %d", rows, cols, n, b, e)
				}
			}
		}
	}
	for _, n := range []int{math.MinInt, math.MaxInt, 0, -1} {
		p := api.Pen{Fg: n, Bg: n, Marks: n}
		Pens(p, api.Pen{})
		Pens(api.Pen{}, p)
		Pens(api.Pen{Fg: 3}, p)
	}
	long := blankOf(2, 2)
	long.Title = strings.Repeat("é", 1<<20)
	if Right(long) || !Same(long, long) {
		t.Errorf("a long title")
	}
}

// P2

func TestImagesAreNeitherChangedNorKept(t *testing.T) {
	g := lettersOf(3, 5)
	spare := api.Cell{Rune: 'Z', Pen: api.Pen{Fg: 77}}
	memory := append(slices.Clone(g.Grid.Cells), spare, spare, spare)
	g.Grid.Cells = memory[:15]
	before := slices.Clone(memory)
	other := copyOf(g)
	b := bytesOf(t, g)
	text := string(b)
	Right(g)
	Same(g, other)
	Same(other, g)
	if !slices.Equal(memory, before) {
		t.Fatalf("the cells became %v", memory)
	}
	for i := range memory {
		memory[i] = spare
	}
	if string(b) != text {
		t.Errorf("earlier bytes became %q", b)
	}
	if string(bytesOf(t, other)) != text {
		t.Errorf("the image is kept: %q", bytesOf(t, other))
	}
	if string(bytesOf(t, g)) == text {
		t.Errorf("the bytes don't follow the cells")
	}
}

func TestResultsAreNewMemory(t *testing.T) {
	g := lettersOf(2, 3)
	g.Title = "title"
	text, from, to := string(bytesOf(t, g)), api.Pen{Fg: 2}, api.Pen{Bg: 40, Marks: 3}
	pens := string(Pens(from, to))
	for range 3 {
		b, p := bytesOf(t, g), Pens(from, to)
		again, another := bytesOf(t, g), Pens(from, to)
		for _, l := range [][]byte{b[:cap(b)], p[:cap(p)]} {
			for i := range l {
				l[i] = 0xff
			}
		}
		if string(again) != text || string(another) != pens {
			t.Fatalf("%q and %q share memory with other results", again, another)
		}
	}
	a, _ := Blank(2, 3)
	b, _ := Blank(2, 3)
	a.Grid.Cells[0].Rune = 'x'
	_ = append(a.Grid.Cells, plain)
	c, _ := Blank(2, 3)
	if !alike(b, blankOf(2, 3)) || !alike(c, blankOf(2, 3)) {
		t.Errorf("images share memory: %v, %v", b, c)
	}
}

func TestCallsDoNotDependOnEarlierOnes(t *testing.T) {
	letters, blank := lettersOf(3, 5), blankOf(60, 132)
	first, second := string(bytesOf(t, letters)), string(bytesOf(t, blank))
	for range 3 {
		for _, x := range invalid() {
			Bytes(x.image)
			Right(x.image)
		}
		Blank(0, 0)
		Pens(api.Pen{Fg: -1}, api.Pen{Marks: 999})
		if string(bytesOf(t, letters)) != first || string(bytesOf(t, blank)) != second {
			t.Fatalf("the bytes differ from those of an earlier call")
		}
		if g, e := Blank(3, 5); e != api.OK || !alike(g, blankOf(3, 5)) {
			t.Fatalf("Blank: %v, %d", g, e)
		}
	}
}
