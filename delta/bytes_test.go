package delta

import (
	"bytes"
	"math/rand"
	"slices"
	"strings"
	"testing"

	"baton/api"
)

// bytesOf returns the Bytes of a valid delta, and checks them, and that Read returns the delta.
func bytesOf(t *testing.T, d Delta) []byte {
	t.Helper()
	b, e := Bytes(d)
	if want := slowBytes(d); e != api.OK || !bytes.Equal(b, want) {
		t.Fatalf("Bytes(%v) is %q, %d, not %q", d, b, e, want)
	}
	if x, e := Read(b); e != api.OK || !equal(x, d) {
		t.Fatalf("Read(%q) is %v, %d, not %v", b, x, e, d)
	}
	return b
}

// read checks Read against the chapter's sentences, and that Bytes of a delta that it returns is b.
func read(t *testing.T, b []byte) api.Errno {
	t.Helper()
	d, e := Read(b)
	want, f := slowRead(b)
	if e != f || !equal(d, want) {
		t.Fatalf("Read(%q) is %v, %d, not %v, %d", b, d, e, want, f)
	}
	if e == api.OK {
		if x, e := Bytes(d); e != api.OK || !bytes.Equal(x, b) {
			t.Fatalf("Bytes of what Read(%q) returns is %q, %d", b, x, e)
		}
	}
	return e
}

// reads checks that Read of b is an error.
func reads(t *testing.T, what string, b []byte, want api.Errno) {
	t.Helper()
	if e := read(t, b); e != want {
		t.Errorf("%s: Read(%q) is the error %d, not %d", what, b, e, want)
	}
}

// P18.3: Bytes

func TestBytesOfDeltasThatAreNotValid(t *testing.T) {
	for _, x := range wrongs() {
		if b, e := Bytes(x.delta); e != api.ErrForm || len(b) != 0 {
			t.Errorf("%s: Bytes(%v) is %q, %d", x.what, x.delta, b, e)
		}
	}
}

func TestBytesByHand(t *testing.T) {
	a, b := cellOf('a', 0, 0, 0), cellOf(0x20ac, 256, 1, 127)
	for _, x := range []struct {
		d    Delta
		want string
	}{
		{Delta{Rows: 1, Cols: 1}, "\x01\x01\x00" + "\x00\x00\x00\x00\x00"},
		{Delta{Rows: 60, Cols: 132, Row: 59, Col: 131, Hidden: true, Title: "ab", Bells: 1 << 30}, "\x3c\x84\x01\x00" + "\x3b\x83\x01\x01\x02ab\x80\x80\x80\x80\x04"},
		{Delta{Rows: 2, Cols: 3, Row: 1, Title: "é"}, "\x02\x03\x00" + "\x01\x00\x00\x02\xc3\xa9\x00"},
		{Delta{Rows: 2, Cols: 3, Col: 2, Bells: 300}, "\x02\x03\x00" + "\x00\x02\x00\x00\xac\x02"},
		{Delta{Rows: 1, Cols: 3, Spans: []Span{{0, 1, []api.Cell{a}}}}, "\x01\x03\x01" + "\x00\x01\x01\x01a\x00\x00\x00" + "\x00\x00\x00\x00\x00"},
		{Delta{Rows: 1, Cols: 3, Spans: []Span{{0, 0, []api.Cell{a, a, b}}}}, "\x01\x03\x01" + "\x00\x00\x03\x02a\x00\x00\x00\x01\xac\x41\x80\x02\x01\x7f" + "\x00\x00\x00\x00\x00"},
		{Delta{Rows: 2, Cols: 3, Spans: []Span{{0, 2, []api.Cell{a}}, {1, 0, []api.Cell{a, a}}}}, "\x02\x03\x02" + "\x00\x02\x01\x01a\x00\x00\x00" + "\x01\x00\x02\x02a\x00\x00\x00" + "\x00\x00\x00\x00\x00"},
	} {
		if got := string(bytesOf(t, x.d)); got != x.want {
			t.Errorf("Bytes(%v) is %q, not %q", x.d, got, x.want)
		}
	}
}

func TestBytesOfEachDelta(t *testing.T) {
	for _, d := range rights() {
		bytesOf(t, d)
	}
}

func TestBytesOfRandomDeltas(t *testing.T) {
	r := rand.New(rand.NewSource(5))
	for range 40000 {
		d := randomDelta(r)
		if slowRight(d) {
			bytesOf(t, d)
		} else if b, e := Bytes(d); e != api.ErrForm || len(b) != 0 {
			t.Fatalf("Bytes(%v) is %q, %d", d, b, e)
		} else {
			// All of them can be read, but the delta is not valid.
			read(t, slowBytes(d))
		}
	}
}

// P18.3: Read

func TestReadOfDeltasThatAreNotValid(t *testing.T) {
	for _, x := range wrongs() {
		// Go's own encoding makes a number of more than eight bytes of a negative one.
		if e := read(t, slowBytes(x.delta)); e != api.ErrForm && e != api.ErrSize && e != api.ErrLong {
			t.Errorf("%s: Read of %v is the error %d", x.what, x.delta, e)
		}
	}
}

func TestReadOfBytesThatAreCutOff(t *testing.T) {
	for _, d := range rights() {
		b := slowBytes(d)
		if len(b) > 2000 {
			continue
		}
		for i := range b {
			reads(t, "cut off", b[:i], api.ErrShort)
		}
	}
	b := slowBytes(greatest())
	for i := 0; i < len(b); i += 1 + len(b)/100 {
		reads(t, "cut off", b[:i], api.ErrShort)
	}
}

func TestReadOfBytesWithMoreBehindThem(t *testing.T) {
	for _, d := range rights() {
		for _, more := range []string{"\x00", "\x01", "\xff", "\x80", "\x00\x00", "a", strings.Repeat("x", 1000)} {
			reads(t, "more behind them", append(slowBytes(d), more...), api.ErrLong)
		}
	}
	// That bytes remain is said ahead of what the delta is.
	reads(t, "an invalid delta", append(slowBytes(Delta{Rows: 61, Cols: 1}), 0), api.ErrLong)
	reads(t, "an invalid delta", append(slowBytes(Delta{}), 0), api.ErrLong)
	two := slices.Concat(slowBytes(sample()), slowBytes(sample()))
	reads(t, "two of them", two, api.ErrLong)
}

// field is a number of a delta's bytes, the greatest one that may be there, and the bytes ahead of it and behind it.
type field struct {
	what          string
	n, most       int
	ahead, behind []byte
}

// fields returns each number in the bytes of a delta with a span of a cell.
func fields() []field {
	l := []field{
		{what: "Rows", n: 3, most: 60}, {what: "Cols", n: 130, most: 132}, {what: "spans", n: 1, most: 1},
		{what: "a span's Row", n: 1, most: 2}, {what: "a span's Col", n: 128, most: 129}, {what: "cells", n: 1, most: 1},
		{what: "repetitions", n: 1, most: 1}, {what: "Rune", n: 0x20ac, most: 0x10ffff}, {what: "Fg", n: 200, most: 256}, {what: "Bg", n: 201, most: 256}, {what: "Marks", n: 5, most: 127},
		{what: "Row", n: 2, most: 2}, {what: "Col", n: 128, most: 129}, {what: "Hidden", n: 1, most: 1}, {what: "length of the title", n: 0, most: 0}, {what: "Bells", n: 300, most: 1 << 30},
	}
	for i := range l {
		for j, x := range l {
			if j < i {
				l[i].ahead = append(l[i].ahead, numbers(x.n)...)
			}
			if j > i {
				l[i].behind = append(l[i].behind, numbers(x.n)...)
			}
		}
	}
	return l
}

func (x field) with(b ...byte) []byte {
	return slices.Concat(x.ahead, b, x.behind)
}

func TestReadOfNumbersNotInTheirForm(t *testing.T) {
	for _, x := range fields() {
		reads(t, x.what, x.with(numbers(x.n)...), api.OK)
		reads(t, x.what+" that is the greatest", x.with(numbers(x.most)...), api.OK)
		if x.what == "Hidden" {
			continue
		}
		reads(t, x.what+" as 80 00", x.with(0x80, 0), api.ErrForm)
		reads(t, x.what+" as ff 00", x.with(0xff, 0), api.ErrForm)
		reads(t, x.what+" with a 0 behind it", x.with(byte(x.n)|0x80, 0), api.ErrForm)
		reads(t, x.what+" of three bytes and a 0", x.with(0x81, 0x82, 0x80, 0), api.ErrForm)
		reads(t, x.what+" of seven bytes and a 0", x.with(0x80, 0x80, 0x80, 0x80, 0x80, 0x80, 0x80, 0), api.ErrForm)
		reads(t, x.what+" of nine bytes", x.with(0x80, 0x80, 0x80, 0x80, 0x80, 0x80, 0x80, 0x80, 1), api.ErrLong)
		reads(t, x.what+" of eight bytes that another one follows", x.with(0xff, 0xff, 0xff, 0xff, 0xff, 0xff, 0xff, 0xff), api.ErrLong)
		reads(t, x.what+" without an end", append(slices.Clone(x.ahead), 0x80), api.ErrShort)
	}
}

func TestReadOfNumbersThatAreTooGreat(t *testing.T) {
	for _, x := range fields() {
		if x.what == "spans" || x.what == "length of the title" {
			// Others are behind these than one of them: their tests stand below.
			continue
		}
		for _, n := range []int{x.most + 1, x.most + 2, 2*x.most + 2, 1 << 31, 1<<32 + x.n, 1<<40 + x.n, 1<<56 - 1} {
			reads(t, x.what, x.with(numbers(n)...), api.ErrForm)
		}
	}
}

func TestReadOfNumbersOfCells(t *testing.T) {
	head := func(n int) []byte { return slices.Concat(numbers(2, 132, 1), numbers(1, 0, n)) }
	end := slowEnd(Delta{})
	for n := 1; n <= 132; n++ {
		d, e := Read(slices.Concat(head(n), slowCells(cellsOf(n)), end))
		if e != api.OK || len(d.Spans) != 1 || len(d.Spans[0].Cells) != n {
			t.Errorf("%d cells: %v, %d", n, d, e)
		}
	}
	for _, n := range []int{0, 133, 134, 7920, 1 << 16, 1 << 31, 1<<32 + 1, 1 << 40, 1<<56 - 1} {
		reads(t, "cells", slices.Concat(head(n), slowCells(cellsOf(min(n, 8000))), end), api.ErrForm)
		reads(t, "cells with nothing behind them", head(n), api.ErrForm)
		run := numbers(n, 'a', 0, 0, 0)
		reads(t, "cells of one run", slices.Concat(head(n), run, end), api.ErrForm)
		reads(t, "a span of two cells with a run of more", slices.Concat(head(2), run, end), api.ErrForm)
	}
	// So many are no wrong number, but the row has no place for them.
	reads(t, "132 cells in a row of 131", slices.Concat(numbers(1, 131, 1), numbers(0, 0, 132), slowCells(cellsOf(132)), end), api.ErrForm)
	reads(t, "132 cells in a row of 131, and a byte", slices.Concat(numbers(1, 131, 1), numbers(0, 0, 132), slowCells(cellsOf(132)), end, []byte{0}), api.ErrLong)
	reads(t, "132 cells, cut off", slices.Concat(numbers(1, 131, 1), numbers(0, 0, 132), slowCells(cellsOf(131))), api.ErrShort)
}

func TestReadOfManySpans(t *testing.T) {
	for _, n := range []int{1, 2, 132, 3960, 3961, 1 << 20, 1 << 40, 1<<56 - 1} {
		reads(t, "spans with nothing behind them", numbers(60, 132, n), api.ErrShort)
		reads(t, "spans with a byte behind them", numbers(60, 132, n, 0), api.ErrShort)
	}
	for _, n := range []int{2, 1 << 20, 1 << 40, 1<<56 - 1} {
		reads(t, "spans with one behind them", append(numbers(60, 132, n), slowSpan(Span{0, 0, cellsOf(3)})...), api.ErrShort)
		reads(t, "spans with a wrong one behind them", numbers(60, 132, n, 0, 0, 0), api.ErrForm)
	}
	// As many spans as there are, and one more, which no valid delta has.
	d := greatest()
	bytesOf(t, d)
	for _, s := range []Span{{59, 0, cellsOf(1)}, {59, 131, cellsOf(1)}, {60, 0, cellsOf(1)}, {0, 0, cellsOf(132)}, {1 << 40, 1 << 40, cellsOf(1)}} {
		more := altered(d, func(d *Delta) { d.Spans = append(d.Spans, s) })
		reads(t, "a span more", slowBytes(more), api.ErrForm)
		reads(t, "a span more, and a byte", append(slowBytes(more), 0), api.ErrLong)
		b := slowBytes(more)
		reads(t, "a span more, cut off", b[:len(b)-1], api.ErrShort)
		more.Spans = append(more.Spans, more.Spans...)
		reads(t, "twice as many", slowBytes(more), api.ErrForm)
	}
	more := altered(d, func(d *Delta) { d.Spans = append(d.Spans, Span{59, 131, []api.Cell{{}}}) })
	reads(t, "a span more, with a wrong cell, and a byte", append(slowBytes(more), 0), api.ErrForm)
}

func TestReadOfTitles(t *testing.T) {
	head := numbers(1, 1, 0, 0, 0, 0)
	for _, title := range rightTitles() {
		if d, e := Read(slices.Concat(head, numbers(len(title)), []byte(title), numbers(0))); e != api.OK || d.Title != title {
			t.Errorf("the title %q: %v, %d", title, d, e)
		}
	}
	for _, title := range wrongTitles() {
		want := api.ErrForm
		if len(title) > 64 {
			want = api.ErrSize
		}
		reads(t, "a title", slices.Concat(head, numbers(len(title)), []byte(title), numbers(0)), want)
	}
	for _, n := range []int{65, 66, 128, 1 << 20, 1 << 40, 1<<56 - 1} {
		reads(t, "a long title", slices.Concat(head, numbers(n)), api.ErrSize)
		reads(t, "a long title", slices.Concat(head, numbers(n), []byte(strings.Repeat("x", n%(1<<16)+65))), api.ErrSize)
	}
	for n := 1; n <= 64; n++ {
		reads(t, "a title that is cut off", slices.Concat(head, numbers(n), []byte(strings.Repeat("x", n-1))), api.ErrShort)
		reads(t, "a title without bells", slices.Concat(head, numbers(n), []byte(strings.Repeat("x", n))), api.ErrShort)
	}
}

func TestReadOfHidden(t *testing.T) {
	for n := range 256 {
		b := []byte{1, 1, 0, 0, 0, byte(n), 0, 0}
		if n > 1 {
			reads(t, "Hidden", b, api.ErrForm)
			reads(t, "Hidden with nothing behind it", b[:6], api.ErrForm)
			reads(t, "Hidden ahead of a long title", append(b[:6:6], 65), api.ErrForm)
			continue
		}
		if d, e := Read(b); e != api.OK || d.Hidden != (n == 1) {
			t.Errorf("%d: %v, %d", n, d, e)
		}
	}
}

func TestReadOfCellsThatAreNotValid(t *testing.T) {
	head, end := numbers(1, 9, 1, 0, 2, 3), slowEnd(Delta{})
	for _, c := range wrongCells() {
		for i := range 3 {
			cells := cellsOf(3)
			cells[i] = c
			want := api.ErrForm
			if min(int(c.Rune), c.Pen.Fg, c.Pen.Bg, c.Pen.Marks) < 0 || max(c.Pen.Fg, c.Pen.Bg, c.Pen.Marks) >= 1<<56 {
				want = api.ErrLong
			}
			reads(t, "a wrong cell", slices.Concat(head, slowCells(cells), end), want)
		}
	}
	for _, x := range []struct {
		what string
		runs []int
	}{
		{"a run of none", []int{0, 'a', 0, 0, 0}},
		{"a run of four", []int{4, 'a', 0, 0, 0}},
		{"two runs of one cell", []int{1, 'a', 0, 0, 0, 2, 'a', 0, 0, 0}},
		{"runs of four", []int{2, 'a', 0, 0, 0, 2, 'b', 0, 0, 0}},
		{"a rune that wraps round", []int{3, 1<<32 + 'a', 0, 0, 0}},
		{"a wrong run behind a right one", []int{2, 'a', 0, 0, 0, 1, 'b', 257, 0, 0}},
	} {
		reads(t, x.what, slices.Concat(head, numbers(x.runs...), end), api.ErrForm)
	}
	// A span may have the last cell of the span ahead of it again.
	d := Delta{Rows: 1, Cols: 9, Spans: []Span{{0, 0, []api.Cell{blank}}, {0, 2, []api.Cell{blank}}}}
	bytesOf(t, d)
}

func TestReadReturnsTheFirstError(t *testing.T) {
	long, form := slices.Repeat([]byte{0x80}, 8), []byte{0x80, 0}
	for _, x := range []struct {
		what string
		b    []byte
		want api.Errno
	}{
		{"a long number ahead of one in a wrong form", slices.Concat(long, form), api.ErrLong},
		{"one in a wrong form ahead of a long number", slices.Concat(form, long), api.ErrForm},
		{"no cells ahead of a long number", slices.Concat(numbers(1, 1, 1, 0, 0, 0), long), api.ErrForm},
		{"a long number ahead of no cells", slices.Concat(numbers(1, 1, 1, 0), long, numbers(0)), api.ErrLong},
		{"a long title ahead of a long number", slices.Concat(numbers(1, 1, 0, 0, 0, 0, 65), long), api.ErrSize},
		{"a wrong Hidden ahead of a long title", slices.Concat(numbers(1, 1, 0, 0, 0, 2, 65), long), api.ErrForm},
		{"a long caret ahead of a wrong Hidden", slices.Concat(numbers(1, 1, 0, 0), long, numbers(2)), api.ErrLong},
		{"a wrong cell ahead of a cut", numbers(1, 1, 1, 0, 0, 1, 1, 7, 0, 0, 0), api.ErrForm},
		{"a cut within a wrong cell", numbers(1, 1, 1, 0, 0, 1, 1, 7, 0, 0), api.ErrShort},
		{"a wrong cell ahead of no cells", slices.Concat(numbers(1, 9, 2, 0, 0, 1, 1, 7, 0, 0, 0), long), api.ErrForm},
		{"a wrong size ahead of a long number", slices.Concat(numbers(0, 0, 0, 0, 0, 0, 0), long), api.ErrLong},
		{"a wrong size ahead of a cut", numbers(0, 133, 0, 0, 0, 0, 0), api.ErrShort},
		{"a wrong size ahead of a long title", numbers(0, 133, 0, 0, 0, 0, 65), api.ErrSize},
		{"a span in no row ahead of a long title", numbers(1, 1, 1, 5, 5, 1, 1, 'a', 0, 0, 0, 0, 0, 0, 65), api.ErrSize},
		{"a span in no row ahead of a byte too many", numbers(1, 1, 1, 5, 5, 1, 1, 'a', 0, 0, 0, 0, 0, 0, 0, 0, 0), api.ErrLong},
		{"a span in no row ahead of a wrong Hidden and a byte too many", numbers(1, 1, 1, 5, 5, 1, 1, 'a', 0, 0, 0, 0, 0, 2, 0, 0, 0), api.ErrForm},
	} {
		reads(t, x.what, x.b, x.want)
	}
}

func TestReadOfAllShortBytes(t *testing.T) {
	few := []byte{0, 1, 2, 'a', 0x80, 0x84, 0xff}
	var all func(b []byte, n int)
	all = func(b []byte, n int) {
		read(t, b)
		if n == 0 {
			return
		}
		for _, x := range few {
			all(append(b[:len(b):len(b)], x), n-1)
		}
	}
	all(nil, 5)
	all([]byte{1, 2, 1}, 4)
	all([]byte{1, 2, 1, 0, 0, 2, 1, 'a', 0, 0, 0}, 4)
	all([]byte{2, 1, 0, 1, 0}, 4)
}

func TestReadOfBytesThatAreChanged(t *testing.T) {
	r := rand.New(rand.NewSource(6))
	counts := map[api.Errno]int{}
	for range 60000 {
		d := randomDelta(r)
		b := slowBytes(d)
		for range r.Intn(3) {
			i := r.Intn(len(b))
			switch r.Intn(5) {
			case 0:
				b[i] = byte(r.Intn(256))
			case 1:
				b[i] += byte(r.Intn(3)) - 1
			case 2:
				b = slices.Delete(b, i, i+1)
			case 3:
				b = slices.Insert(b, i, byte(r.Intn(4)))
			case 4:
				b = b[:i+1]
			}
		}
		counts[read(t, b)]++
	}
	for _, e := range []api.Errno{api.OK, api.ErrShort, api.ErrLong, api.ErrForm, api.ErrSize} {
		if counts[e] < 20 {
			t.Errorf("the error %d is no more frequent than %d", e, counts[e])
		}
	}
}
