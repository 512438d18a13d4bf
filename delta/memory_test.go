package delta

import (
	"bytes"
	"math"
	"runtime"
	"slices"
	"strings"
	"testing"

	"baton/api"
)

// P1

func TestNothingPanics(t *testing.T) {
	for _, n := range ends {
		for _, m := range ends {
			d := Delta{Rows: n, Cols: m, Row: m, Col: n, Bells: n, Title: "\x80", Spans: []Span{{n, m, nil}, {m, n, cellsOf(2)}, {n, n, make([]api.Cell, 3)}}}
			g := api.Image{Grid: api.Grid{Rows: n, Cols: m, Cells: cellsOf(3)}, Row: m, Col: n, Bells: m}
			Right(d)
			Count(d)
			Bytes(d)
			Apply(g, d)
			Apply(blankOf(2, 2), d)
			Of(g, g)
			Of(blankOf(2, 2), g)
			d.Rows, d.Cols, d.Row, d.Col, d.Bells, d.Title = 60, 132, 0, 0, 0, ""
			if _, e := Apply(blankOf(2, 2), d); Right(d) || e != api.ErrForm {
				t.Fatalf("%d, %d: %v, %d", n, m, d, e)
			}
		}
	}
}

func TestLongInputs(t *testing.T) {
	long := Delta{Rows: 60, Cols: 132, Title: strings.Repeat("é", 1<<20)}
	right(t, "a long title", long, false)
	long = Delta{Rows: 60, Cols: 132, Spans: slices.Repeat([]Span{{0, 0, cellsOf(132)}}, 1<<18)}
	if Right(long) || Count(long) != 132<<18 {
		t.Errorf("many spans: %d cells", Count(long))
	}
	for _, b := range [][]byte{make([]byte, 1<<22), bytes.Repeat([]byte{1}, 1<<22), bytes.Repeat([]byte{0xff}, 1<<22), bytes.Repeat([]byte{'a', 0, 1}, 1<<20)} {
		if d, e := Read(b); e == api.OK || !equal(d, Delta{}) {
			t.Errorf("Read of many bytes: %v, %d", d, e)
		}
	}
}

// A span of 132 cells has ten bytes, but its cells have thousands: they must not all be kept.
func TestManySpansDoNotFillTheMemory(t *testing.T) {
	const n = 100000
	b := numbers(60, 132, n)
	b = append(b, bytes.Repeat(numbers(0, 0, 132, 132, 'a', 0, 0, 0), n)...)
	b = append(b, slowEnd(Delta{})...)
	var before, after runtime.MemStats
	runtime.GC()
	runtime.ReadMemStats(&before)
	d, e := Read(b)
	runtime.ReadMemStats(&after)
	if e != api.ErrForm || !equal(d, Delta{}) {
		t.Errorf("%v, %d", d, e)
	}
	if grown := after.HeapSys - before.HeapSys; after.HeapSys > before.HeapSys && grown > 200<<20 {
		t.Errorf("the memory grew by %d bytes", grown)
	}
}

// P2

// overwritten changes all that g shares with others, with spare capacity.
func overwriteCells(l []api.Cell) {
	l = l[:cap(l)]
	for i := range l {
		l[i] = cellOf('#', 99, 98, 97)
	}
}

func overwrite(d Delta) {
	spans := d.Spans[:cap(d.Spans)]
	for i := range spans {
		overwriteCells(spans[i].Cells)
		spans[i] = Span{-1, -1, nil}
	}
}

// spare returns a copy of l with spare capacity, and all of that memory.
func spare(l []api.Cell) (used, all []api.Cell) {
	all = append(slices.Clone(l), cellsOf(3)...)
	return all[:len(l)], all
}

func TestImagesAreNeitherChangedNorKept(t *testing.T) {
	a, b := lettersOf(3, 5), blankOf(3, 5)
	b.Grid.Cells[7] = a.Grid.Cells[7]
	var memory, other []api.Cell
	a.Grid.Cells, memory = spare(a.Grid.Cells)
	b.Grid.Cells, other = spare(b.Grid.Cells)
	first, second := slices.Clone(memory), slices.Clone(other)
	want := copied(slowOf(a, b))
	d, _ := Of(a, b)
	back, _ := Of(b, a)
	shown := copyOf(slowApply(a, sample()))
	x, _ := Apply(a, sample())
	y, _ := Apply(a, d)
	z, _ := Apply(a, Delta{Rows: 3, Cols: 5})
	kept := copyOf(z)
	if !slices.Equal(memory, first) || !slices.Equal(other, second) {
		t.Fatalf("the cells became %v and %v", memory, other)
	}
	overwriteCells(memory)
	overwriteCells(other)
	if !equal(d, want) || Count(back) != 14 || !alike(x, shown) || y.Grid.Cells[0] != second[0] || !alike(z, kept) || z.Grid.Cells[0] != first[0] {
		t.Errorf("what was returned follows the images: %v, %v, %v, %v", d, x, y, z)
	}
}

func TestDeltasAreNeitherChangedNorKept(t *testing.T) {
	d := sample()
	var memories, befores [][]api.Cell
	spans := append(d.Spans, Span{9, 9, cellsOf(9)})
	d.Spans = spans[:4]
	for i := range d.Spans {
		used, all := spare(d.Spans[i].Cells)
		d.Spans[i].Cells = used
		memories, befores = append(memories, all), append(befores, slices.Clone(all))
	}
	before := copied(Delta{Spans: spans})
	a := lettersOf(3, 6)
	b, _ := Bytes(d)
	g, _ := Apply(a, d)
	Right(d)
	Count(d)
	text, want := string(b), slowApply(a, d)
	if !equal(Delta{Spans: spans}, before) {
		t.Fatalf("the spans became %v", spans)
	}
	for i, l := range memories {
		if !slices.Equal(l, befores[i]) {
			t.Fatalf("the cells became %v", l)
		}
		overwriteCells(l)
	}
	overwrite(d)
	if string(b) != text || text != string(slowBytes(sample())) || !alike(g, want) {
		t.Errorf("what was returned follows the delta: %q, %v", b, g)
	}
	if Right(d) {
		t.Errorf("Right does not follow the delta")
	}
}

func TestBytesAreNeitherChangedNorKept(t *testing.T) {
	memory := append(slowBytes(sample()), "spare"...)
	before := slices.Clone(memory)
	b := memory[:len(memory)-5]
	d, e := Read(b)
	if e != api.OK || !bytes.Equal(memory, before) {
		t.Fatalf("the bytes became %q", memory)
	}
	for i := range memory {
		memory[i] = 0xff
	}
	if !equal(d, sample()) {
		t.Errorf("the delta follows the bytes: %v", d)
	}
}

func TestResultsAreNewMemory(t *testing.T) {
	a, b := lettersOf(3, 5), blankOf(3, 5)
	image := slowApply(a, sample())
	text := slowBytes(sample())
	makes := []func() Delta{
		func() Delta { d, _ := Of(a, b); return d },
		func() Delta { d, _ := Of(a, blankOf(2, 2)); return d },
		func() Delta { d, _ := Read(text); return d },
	}
	for _, f := range makes {
		want := copied(f())
		first, second := f(), f()
		overwrite(first)
		if !equal(second, want) || !equal(f(), want) {
			t.Errorf("deltas share memory: %v", second)
		}
		// The spans of one delta share none either.
		for i := range want.Spans {
			d := f()
			overwriteCells(d.Spans[i].Cells)
			_ = append(d.Spans[i].Cells, blank, blank)
			for j := range d.Spans {
				if j != i && !slices.Equal(d.Spans[j].Cells, want.Spans[j].Cells) {
					t.Errorf("the spans %d and %d share memory", i, j)
				}
			}
		}
	}
	for _, d := range []Delta{sample(), {Rows: 3, Cols: 5}, {Rows: 3, Cols: 6}} {
		first, _ := Apply(a, d)
		second, _ := Apply(a, d)
		want := copyOf(second)
		overwriteCells(first.Grid.Cells)
		third, _ := Apply(a, d)
		if !alike(second, want) || !alike(third, want) {
			t.Errorf("images share memory: %v", second)
		}
	}
	if !alike(a, lettersOf(3, 5)) || !alike(b, blankOf(3, 5)) || !alike(slowApply(a, sample()), image) {
		t.Errorf("the arguments changed: %v, %v", a, b)
	}
	first, _ := Bytes(sample())
	second, _ := Bytes(sample())
	first = first[:cap(first)]
	for i := range first {
		first[i] = 0xff
	}
	third, _ := Bytes(sample())
	if !bytes.Equal(second, text) || !bytes.Equal(third, text) {
		t.Errorf("bytes share memory: %q", second)
	}
}

func TestCallsDoNotDependOnEarlierOnes(t *testing.T) {
	a, b := lettersOf(3, 5), blankOf(2, 7)
	d := slowOf(a, b)
	text := slowBytes(d)
	for range 3 {
		for _, x := range wrongs() {
			Right(x.delta)
			Bytes(x.delta)
			Apply(a, x.delta)
			Count(x.delta)
		}
		for i := range text {
			Read(text[:i])
		}
		Of(a, api.Image{})
		Of(api.Image{Row: math.MinInt}, b)
		of(t, a, b)
		of(t, b, a)
		bytesOf(t, d)
		apply(t, a, d)
	}
}
