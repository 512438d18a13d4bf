package cell

import (
	"bytes"
	"encoding/binary"
	"math"
	"math/rand"
	"slices"
	"strings"
	"testing"

	"baton/api"
	"baton/codec"
)

// slowPen and slowRight are the chapter's sentences on what is valid, on five plain numbers, so that a rune may be too great for its type.
func slowPen(fg, bg, marks int) bool {
	colours := !(fg < 0) && !(fg > 256) && !(bg < 0) && !(bg > 256)
	return colours && !(marks < 0) && !(marks > 127)
}

func slowRight(sign, fg, bg, marks int) bool {
	point := sign >= 0 && sign <= 0x10ffff && !(sign >= 0xd800 && sign <= 0xdfff)
	return slowPen(fg, bg, marks) && (sign >= 32 && sign <= 126 || point && sign >= 160)
}

func slowValid(c api.Cell) bool {
	return slowRight(int(c.Rune), c.Pen.Fg, c.Pen.Bg, c.Pen.Marks)
}

// number is the encoding of a number, by Go's own encoding of seven bits a byte.
func number(n int) []byte {
	return binary.AppendUvarint(nil, uint64(n))
}

// five is a run as its five numbers, which may be such as no Run has.
type five struct{ n, sign, fg, bg, marks int }

func (x five) bytes() []byte {
	return slices.Concat(number(x.n), number(x.sign), number(x.fg), number(x.bg), number(x.marks))
}

func fiveOf(n int, c api.Cell) five {
	return five{n, int(c.Rune), c.Pen.Fg, c.Pen.Bg, c.Pen.Marks}
}

// encoded returns the numbers of runs one behind the other.
func encoded(l ...five) []byte {
	var b []byte
	for _, x := range l {
		b = append(b, x.bytes()...)
	}
	return b
}

// slowWrite is the bytes of valid cells: it looks how far each run goes.
func slowWrite(l []api.Cell) []byte {
	var b []byte
	for from := 0; from < len(l); {
		to := from + 1
		for to < len(l) && l[to] == l[from] {
			to++
		}
		b = append(b, fiveOf(to-from, l[from]).bytes()...)
		from = to
	}
	return b
}

// slowRead is the sentences of P9.2 on Read: the cells, how many bytes remain, and the error. It is for small n only.
func slowRead(b []byte, n int) ([]api.Cell, int, api.Errno) {
	r := codec.NewReader(b)
	var l []api.Cell
	var last five
	for len(l) < n {
		var v [5]int
		for i := range v {
			v[i] = r.Number()
		}
		if r.Err() != api.OK {
			return nil, 0, r.Err()
		}
		x := five{0, v[1], v[2], v[3], v[4]}
		if v[0] == 0 || v[0] > n-len(l) || !slowRight(v[1], v[2], v[3], v[4]) || len(l) > 0 && x == last {
			return nil, 0, api.ErrForm
		}
		for range v[0] {
			l = append(l, api.Cell{Rune: rune(v[1]), Pen: api.Pen{Fg: v[2], Bg: v[3], Marks: v[4]}})
		}
		last = x
	}
	return l, r.Left(), api.OK
}

// plain returns cells of the zero pen.
func plain(s string) []api.Cell {
	var l []api.Cell
	for _, c := range s {
		l = append(l, api.Cell{Rune: c})
	}
	return l
}

func cellOf(sign rune, fg, bg, marks int) api.Cell {
	return api.Cell{Rune: sign, Pen: api.Pen{Fg: fg, Bg: bg, Marks: marks}}
}

// valid are cells at the ends of what is valid, some of which differ in one field alone.
func valid() []api.Cell {
	return []api.Cell{
		cellOf('a', 0, 0, 0), cellOf('b', 0, 0, 0), cellOf('a', 1, 0, 0), cellOf('a', 0, 1, 0), cellOf('a', 0, 0, 1),
		cellOf(32, 0, 0, 0), cellOf(32, 0, 9, 0), cellOf(126, 256, 0, 0), cellOf(160, 0, 256, 0), cellOf(0xd7ff, 0, 0, 127),
		cellOf(0xe000, 256, 256, 127), cellOf(0xfffd, 128, 127, 64), cellOf(0x6f22, 255, 129, 0), cellOf(0x1f600, 0, 0, api.Strike), cellOf(0x10ffff, 256, 256, 127),
	}
}

// invalid are cells with one field that makes them invalid, and with more of them.
func invalid() []api.Cell {
	return []api.Cell{
		{}, cellOf(0, 1, 1, 1), cellOf(31, 0, 0, 0), cellOf(127, 0, 0, 0), cellOf(128, 0, 0, 0), cellOf(159, 0, 0, 0), cellOf(-1, 0, 0, 0),
		cellOf(0xd800, 0, 0, 0), cellOf(0xdfff, 0, 0, 0), cellOf(0x110000, 0, 0, 0), cellOf(math.MinInt32, 0, 0, 0), cellOf(math.MaxInt32, 0, 0, 0),
		cellOf('a', 257, 0, 0), cellOf('a', -1, 0, 0), cellOf('a', 0, 257, 0), cellOf('a', 0, -1, 0), cellOf('a', 0, 0, 128), cellOf('a', 0, 0, -1),
		cellOf('a', math.MaxInt, 0, 0), cellOf('a', 0, math.MinInt, 0), cellOf('a', 0, 0, math.MaxInt), cellOf(7, -1, 257, 128),
	}
}

// random returns up to most cells of some, with repetitions.
func random(source *rand.Rand, some []api.Cell, most int) []api.Cell {
	var l []api.Cell
	for range source.Intn(most + 1) {
		c := some[source.Intn(len(some))]
		for range 1 + source.Intn(3) {
			l = append(l, c)
		}
	}
	return l[:min(len(l), most)]
}

// randoms returns lists of valid cells: none, one, few of a kind and many kinds.
func randoms(n int, seed int64) [][]api.Cell {
	source := rand.New(rand.NewSource(seed))
	lists := [][]api.Cell{nil, {}, plain("a"), plain("aab"), plain("aaaa"), valid()}
	for i := range n {
		lists = append(lists, random(source, valid()[:1+i%len(valid())], 20))
	}
	return lists
}

// P9.1

func TestRunsOfTheExample(t *testing.T) {
	got := Runs(plain("aab"))
	want := []Run{{2, api.Cell{Rune: 'a'}}, {1, api.Cell{Rune: 'b'}}}
	if !slices.Equal(got, want) {
		t.Errorf("Runs of a, a, b = %v", got)
	}
	if got := Cells(want); !slices.Equal(got, plain("aab")) {
		t.Errorf("Cells of 2 a, 1 b = %v", got)
	}
}

// ends are numbers at the ends of a range from 0 to most, and far beyond them.
func ends(most int) []int {
	return []int{math.MinInt, math.MinInt32, -1 << 32, -most, -2, -1, 0, 1, 2, most / 2, most - 1, most, most + 1, most + 2, 2 * most, 1 << 16, 1 << 31, 1 << 32, 1<<32 + 1, math.MaxInt}
}

func TestPen(t *testing.T) {
	for _, x := range []struct {
		p    api.Pen
		want bool
	}{
		{api.Pen{}, true},
		{api.Pen{Fg: -1}, false}, {api.Pen{Fg: 256}, true}, {api.Pen{Fg: 257}, false},
		{api.Pen{Bg: -1}, false}, {api.Pen{Bg: 256}, true}, {api.Pen{Bg: 257}, false},
		{api.Pen{Marks: -1}, false}, {api.Pen{Marks: 127}, true}, {api.Pen{Marks: 128}, false},
		{api.Pen{Fg: 256, Bg: 256, Marks: 127}, true}, {api.Pen{Fg: 257, Bg: 257, Marks: 128}, false}, {api.Pen{Fg: -1, Bg: -1, Marks: -1}, false},
		{api.Pen{Fg: 7, Bg: 42, Marks: api.Bold | api.Strike}, true},
	} {
		if got := Pen(x.p); got != x.want {
			t.Errorf("Pen(%v) = %t", x.p, got)
		}
	}
}

func TestPenFollowsTheSentence(t *testing.T) {
	for _, fg := range ends(256) {
		for _, bg := range ends(256) {
			for _, marks := range ends(127) {
				p := api.Pen{Fg: fg, Bg: bg, Marks: marks}
				if got := Pen(p); got != slowPen(fg, bg, marks) {
					t.Fatalf("Pen(%v) = %t", p, got)
				}
			}
		}
	}
	for n := -300; n <= 600; n++ {
		colour, marks := n >= 0 && n <= 256, n >= 0 && n <= 127
		if Pen(api.Pen{Fg: n}) != colour || Pen(api.Pen{Bg: n}) != colour || Pen(api.Pen{Marks: n}) != marks {
			t.Errorf("Pen with %d", n)
		}
	}
}

func TestRight(t *testing.T) {
	for _, x := range []struct {
		sign rune
		want bool
	}{
		{-1, false}, {0, false}, {31, false}, {32, true}, {'a', true}, {126, true}, {127, false}, {128, false}, {159, false}, {160, true}, {161, true},
		{55295, true}, {55296, false}, {57343, false}, {57344, true}, {0xfffd, true}, {0xfffe, true}, {0xffff, true}, {0x10000, true}, {1114111, true}, {1114112, false},
		{math.MinInt32, false}, {math.MaxInt32, false}, {math.MinInt32 + 'a', false}, {1<<30 + 'a', false}, {-'a', false},
	} {
		if got := Right(api.Cell{Rune: x.sign}); got != x.want {
			t.Errorf("Right of %d = %t", x.sign, got)
		}
		if got := Right(cellOf(x.sign, 256, 256, 127)); got != x.want {
			t.Errorf("Right of %d with a pen = %t", x.sign, got)
		}
		for _, p := range []api.Pen{{Fg: -1}, {Fg: 257}, {Bg: -1}, {Bg: 257}, {Marks: -1}, {Marks: 128}, {Fg: math.MaxInt, Bg: math.MinInt, Marks: math.MinInt}} {
			if Right(api.Cell{Rune: x.sign, Pen: p}) {
				t.Errorf("Right of %d with the pen %v", x.sign, p)
			}
		}
	}
}

func TestRightOfEveryRune(t *testing.T) {
	for sign := rune(-300); sign <= 0x110100; sign++ {
		if got := Right(api.Cell{Rune: sign}); got != slowRight(int(sign), 0, 0, 0) {
			t.Fatalf("Right of %d = %t", sign, got)
		}
	}
}

func TestRightOfTheSamples(t *testing.T) {
	for _, c := range valid() {
		if !Right(c) || !slowValid(c) {
			t.Errorf("Right(%v) = false", c)
		}
	}
	for _, c := range invalid() {
		if Right(c) || slowValid(c) {
			t.Errorf("Right(%v) = true", c)
		}
	}
}

func TestBlank(t *testing.T) {
	for _, bg := range ends(256) {
		want := cellOf(32, 0, bg, 0)
		for _, p := range []api.Pen{{Bg: bg}, {Fg: 1, Bg: bg}, {Bg: bg, Marks: 127}, {Fg: 256, Bg: bg, Marks: api.Inverse}, {Fg: -1, Bg: bg, Marks: 128}, {Fg: math.MaxInt, Bg: bg, Marks: math.MinInt}} {
			if got := Blank(p); got != want {
				t.Errorf("Blank(%v) = %v", p, got)
			}
			if got := Right(Blank(p)); got != (bg >= 0 && bg <= 256) {
				t.Errorf("Right of Blank(%v) = %t", p, got)
			}
		}
	}
	if Blank(api.Pen{}) != (api.Cell{Rune: ' '}) {
		t.Errorf("Blank of the zero pen = %v", Blank(api.Pen{}))
	}
}

func TestRunsOfNoCells(t *testing.T) {
	if got := Runs(nil); len(got) != 0 {
		t.Errorf("Runs of nil = %v", got)
	}
	if got := Runs([]api.Cell{}); len(got) != 0 {
		t.Errorf("Runs of no cells = %v", got)
	}
	if got := Runs(plain("abc")[:0]); len(got) != 0 {
		t.Errorf("Runs of no cells ahead of others = %v", got)
	}
}

func TestRunsOfOneAndOfEqualCells(t *testing.T) {
	for _, c := range append(valid(), invalid()...) {
		for _, n := range []int{1, 2, 3, 127, 128, 1000} {
			if got := Runs(slices.Repeat([]api.Cell{c}, n)); !slices.Equal(got, []Run{{n, c}}) {
				t.Errorf("Runs of %d cells %v = %v", n, c, got)
			}
		}
	}
}

func TestRunsOfCellsThatDifferInOneField(t *testing.T) {
	c := cellOf('a', 1, 2, 3)
	for _, d := range []api.Cell{cellOf('b', 1, 2, 3), cellOf('a', 2, 2, 3), cellOf('a', 1, 1, 3), cellOf('a', 1, 2, 2)} {
		if got := Runs([]api.Cell{c, d, d, c}); !slices.Equal(got, []Run{{1, c}, {2, d}, {1, c}}) {
			t.Errorf("Runs of %v and %v = %v", c, d, got)
		}
	}
}

// isShortest checks that no list of runs of l is shorter: each run has a cell, and the next one has another.
func isShortest(t *testing.T, l []api.Cell, got []Run) {
	t.Helper()
	at := 0
	for i, x := range got {
		if x.N < 1 || at+x.N > len(l) || i > 0 && x.Cell == got[i-1].Cell {
			t.Fatalf("Runs(%v) = %v", l, got)
		}
		for range x.N {
			if l[at] != x.Cell {
				t.Fatalf("Runs(%v) = %v", l, got)
			}
			at++
		}
	}
	if at != len(l) {
		t.Fatalf("Runs(%v) = %v", l, got)
	}
}

func TestRunsAreTheShortest(t *testing.T) {
	// All lists of up to seven cells of three kinds.
	kinds := []api.Cell{cellOf('a', 0, 0, 0), cellOf('a', 0, 0, 1), {}}
	level := [][]api.Cell{nil}
	for range 8 {
		var next [][]api.Cell
		for _, l := range level {
			isShortest(t, l, Runs(l))
			for _, c := range kinds {
				next = append(next, append(slices.Clone(l), c))
			}
		}
		level = next
	}
	for _, l := range randoms(500, 91) {
		isShortest(t, l, Runs(l))
	}
	source := rand.New(rand.NewSource(911))
	for range 500 {
		l := random(source, invalid(), 30)
		isShortest(t, l, Runs(l))
	}
}

func TestCells(t *testing.T) {
	a, b, zero := api.Cell{Rune: 'a'}, cellOf('b', 1, 2, 3), api.Cell{}
	for _, x := range []struct {
		l    []Run
		want []api.Cell
	}{
		{nil, nil},
		{[]Run{}, nil},
		{[]Run{{1, a}}, []api.Cell{a}},
		{[]Run{{3, b}}, []api.Cell{b, b, b}},
		{[]Run{{0, a}}, nil},
		{[]Run{{-1, a}}, nil},
		{[]Run{{math.MinInt, a}, {-3, b}, {math.MinInt, a}}, nil},
		{[]Run{{0, a}, {2, b}, {-1, a}, {1, a}}, []api.Cell{b, b, a}},
		{[]Run{{-2, b}, {2, b}}, []api.Cell{b, b}},
		{[]Run{{2, b}, {-2, b}, {math.MinInt, b}}, []api.Cell{b, b}},
		{[]Run{{1, a}, {2, a}, {0, b}, {1, a}}, []api.Cell{a, a, a, a}},
		{[]Run{{1, a}, {1, b}, {1, a}}, []api.Cell{a, b, a}},
		{[]Run{{2, zero}, {1, cellOf(-1, -1, 300, 128)}}, []api.Cell{zero, zero, cellOf(-1, -1, 300, 128)}},
	} {
		if got := Cells(x.l); !slices.Equal(got, x.want) {
			t.Errorf("Cells(%v) = %v", x.l, got)
		}
	}
	if got := Cells([]Run{{1000, b}, {100000, a}}); len(got) != 101000 || got[999] != b || got[1000] != a || got[100999] != a {
		t.Errorf("Cells of long runs are %d", len(got))
	}
}

func TestCellsOfRuns(t *testing.T) {
	for _, l := range append(randoms(500, 92), invalid()) {
		if got := Cells(Runs(l)); !slices.Equal(got, l) {
			t.Errorf("Cells of the Runs of %v = %v", l, got)
		}
	}
}

func TestText(t *testing.T) {
	for _, x := range []struct {
		l    []api.Cell
		want string
	}{
		{nil, ""},
		{[]api.Cell{}, ""},
		{plain("a"), "a"},
		{plain("abc"), "abc"},
		{plain(" "), ""},
		{plain("    "), ""},
		{plain("a "), "a"},
		{plain("a    "), "a"},
		{plain(" a"), " a"},
		{plain("  a  b  "), "  a  b"},
		{plain("é漢😀\u00a0"), "\xc3\xa9\xe6\xbc\xa2\xf0\x9f\x98\x80\xc2\xa0"},
		{plain("é "), "é"},
		{plain("漢 \U0010ffff  "), "漢 \U0010ffff"},
		{plain("Ġ\u2020\u2000"), "Ġ\u2020\u2000"},
		{plain("a\t"), "a\t"},
		{plain("a\n "), "a\n"},
		{plain("a\x00"), "a\x00"},
		{plain("a\u2003 "), "a\u2003"},
		{[]api.Cell{{Rune: -1}}, "\ufffd"},
		{[]api.Cell{{Rune: 0xd800}, {Rune: 'a'}, {Rune: 0xdfff}, {Rune: 0x110000}, {Rune: math.MinInt32}, {Rune: math.MaxInt32}, {Rune: ' '}}, "\ufffda\ufffd\ufffd\ufffd\ufffd"},
		{[]api.Cell{{Rune: 0xfffd}, {}}, "\ufffd\x00"},
	} {
		if got := Text(x.l); got != x.want {
			t.Errorf("Text(%v) = %q, want %q", x.l, got, x.want)
		}
	}
}

func TestTextDoesNotLookAtPens(t *testing.T) {
	// A blank is a rune 32, whatever is behind it.
	l := []api.Cell{cellOf(' ', 1, 2, 3), cellOf('a', -1, 257, 128), cellOf(' ', 0, 0, 8), cellOf('b', 0, 4, 0), cellOf(' ', 0, 9, 0), cellOf(' ', 300, -9, 32)}
	if got := Text(l); got != " a b" {
		t.Errorf("Text = %q", got)
	}
	if got := Text(l[4:]); got != "" {
		t.Errorf("Text of blanks with pens = %q", got)
	}
}

func TestTextFollowsTheSentence(t *testing.T) {
	source := rand.New(rand.NewSource(93))
	some := append(append(invalid(), valid()...), plain("      ")...)
	for range 2000 {
		l := random(source, some, 12)
		kept := slices.Clone(l)
		for len(kept) > 0 && kept[len(kept)-1].Rune == 32 {
			kept = kept[:len(kept)-1]
		}
		var want strings.Builder
		for _, c := range kept {
			want.WriteString(string(c.Rune))
		}
		if got := Text(l); got != want.String() {
			t.Fatalf("Text(%v) = %q, want %q", l, got, want.String())
		}
	}
}

// P9.2: Write

// written returns what a new Writer has after f.
func written(f func(w *codec.Writer)) ([]byte, api.Errno) {
	w := codec.NewWriter()
	f(w)
	return w.Bytes()
}

func TestWriteOfTheExample(t *testing.T) {
	l := []api.Cell{{Rune: 'a'}, {Rune: 'a'}, cellOf('b', 256, 5, 6)}
	b, e := written(func(w *codec.Writer) { Write(w, l) })
	if want := []byte{2, 97, 0, 0, 0, 1, 98, 128, 2, 5, 6}; e != api.OK || !bytes.Equal(b, want) {
		t.Errorf("Write = %v, %d, want %v", b, e, want)
	}
}

func TestWriteOfNoCells(t *testing.T) {
	for _, l := range [][]api.Cell{nil, {}, invalid()[:0]} {
		if b, e := written(func(w *codec.Writer) { Write(w, l) }); e != api.OK || len(b) != 0 {
			t.Errorf("Write of no cells = %v, %d", b, e)
		}
		b, e := written(func(w *codec.Writer) { w.Byte(7); Write(w, l); w.Byte(8) })
		if e != api.OK || !bytes.Equal(b, []byte{7, 8}) {
			t.Errorf("Write of no cells between 7 and 8 = %v, %d", b, e)
		}
	}
}

func TestWriteOfEachField(t *testing.T) {
	for _, x := range []struct {
		n    int
		c    api.Cell
		want []byte
	}{
		{1, cellOf(32, 0, 0, 0), []byte{1, 32, 0, 0, 0}},
		{127, cellOf(126, 127, 0, 0), []byte{127, 126, 127, 0, 0}},
		{128, cellOf(160, 128, 1, 2), []byte{128, 1, 160, 1, 128, 1, 1, 2}},
		{300, cellOf(0x10ffff, 256, 255, 127), []byte{172, 2, 255, 255, 67, 128, 2, 255, 1, 127}},
		{16384, cellOf('z', 0, 256, 1), []byte{128, 128, 1, 122, 0, 128, 2, 1}},
	} {
		b, e := written(func(w *codec.Writer) { Write(w, slices.Repeat([]api.Cell{x.c}, x.n)) })
		if e != api.OK || !bytes.Equal(b, x.want) {
			t.Errorf("Write of %d cells %v = %v, %d, want %v", x.n, x.c, b, e, x.want)
		}
	}
}

func TestWriteFollowsTheSentence(t *testing.T) {
	for _, l := range randoms(1000, 94) {
		want := slowWrite(l)
		if b, e := written(func(w *codec.Writer) { Write(w, l) }); e != api.OK || !bytes.Equal(b, want) {
			t.Errorf("Write(%v) = %v, %d, want %v", l, b, e, want)
		}
		b, e := written(func(w *codec.Writer) { w.Number(300); Write(w, l); w.Bool(true); Write(w, l) })
		if all := slices.Concat([]byte{172, 2}, want, []byte{1}, want); e != api.OK || !bytes.Equal(b, all) {
			t.Errorf("Write(%v) among other bytes = %v, %d, want %v", l, b, e, all)
		}
	}
}

func TestWriteOfTwoListsIsTwoLists(t *testing.T) {
	// The cells of one call and of the next are never one run.
	b, e := written(func(w *codec.Writer) { Write(w, plain("aa")); Write(w, plain("ab")) })
	if want := []byte{2, 'a', 0, 0, 0, 1, 'a', 0, 0, 0, 1, 'b', 0, 0, 0}; e != api.OK || !bytes.Equal(b, want) {
		t.Errorf("two Writes = %v, %d, want %v", b, e, want)
	}
}

func TestWriteOfAnInvalidCellAtEachPlace(t *testing.T) {
	for _, c := range invalid() {
		for _, n := range []int{1, 2, 5} {
			for at := range n {
				l := valid()[:n]
				l[at] = c
				for name, before := range map[string]func(w *codec.Writer){
					"a new Writer":      func(w *codec.Writer) {},
					"one with bytes":    func(w *codec.Writer) { w.Byte(7) },
					"one behind a list": func(w *codec.Writer) { Write(w, plain("ab")) },
				} {
					b, e := written(func(w *codec.Writer) { before(w); Write(w, l) })
					if e != api.ErrArg || len(b) != 0 {
						t.Errorf("Write of %v at %d of %d onto %s = %v, %d", c, at, n, name, b, e)
					}
					b, e = written(func(w *codec.Writer) { before(w); Write(w, l); w.Byte(1); Write(w, plain("a")); w.Fail(api.ErrForm) })
					if e != api.ErrArg || len(b) != 0 {
						t.Errorf("Write of %v at %d of %d onto %s, and more = %v, %d", c, at, n, name, b, e)
					}
				}
			}
		}
	}
	if b, e := written(func(w *codec.Writer) { Write(w, invalid()) }); e != api.ErrArg || len(b) != 0 {
		t.Errorf("Write of invalid cells alone = %v, %d", b, e)
	}
}

func TestWriteOntoAWriterWithAnError(t *testing.T) {
	for _, first := range []api.Errno{api.ErrArg, api.ErrShort, api.ErrForm, api.ErrLine, -1} {
		for _, l := range [][]api.Cell{nil, plain("aab"), valid(), invalid(), append(plain("a"), invalid()...)} {
			b, e := written(func(w *codec.Writer) { w.Byte(1); w.Fail(first); Write(w, l) })
			if e != first || len(b) != 0 {
				t.Errorf("Write(%v) behind the error %d = %v, %d", l, first, b, e)
			}
		}
	}
}

// P9.2: Read

// reads checks that n cells are read from b, and that so many bytes are left behind them.
func reads(t *testing.T, b []byte, n int, want []api.Cell, left int) {
	t.Helper()
	r := codec.NewReader(b)
	got := Read(r, n)
	if !slices.Equal(got, want) || r.Err() != api.OK || r.Left() != left {
		t.Errorf("Read(%v, %d) = %v, error %d, %d left, want %v and %d left", b, n, got, r.Err(), r.Left(), want, left)
	}
	for r.Left() > 0 {
		at := len(b) - r.Left()
		if x := r.Byte(); x != b[at] {
			t.Errorf("behind Read(%v, %d): %d, want %d", b, n, x, b[at])
		}
	}
	if r.Done() != api.OK {
		t.Errorf("behind Read(%v, %d): error %d", b, n, r.Done())
	}
}

// refuses checks that Read records an error, returns nothing, leaves nothing, and that the error stays.
func refuses(t *testing.T, b []byte, n int, want api.Errno) {
	t.Helper()
	r := codec.NewReader(b)
	for range 2 {
		if got := Read(r, n); len(got) != 0 || r.Err() != want || r.Left() != 0 || r.Done() != want {
			t.Errorf("Read(%v, %d) = %v, error %d, %d left, want the error %d", b, n, got, r.Err(), r.Left(), want)
		}
	}
	if r.Number() != 0 || r.Byte() != 0 || r.Err() != want {
		t.Errorf("behind Read(%v, %d): error %d, want %d", b, n, r.Err(), want)
	}
	r.Fail(api.ErrLine)
	if r.Err() != want {
		t.Errorf("Read(%v, %d), and Fail: error %d, want %d", b, n, r.Err(), want)
	}
}

func TestReadOfTheExample(t *testing.T) {
	b := []byte{2, 97, 0, 0, 0, 1, 98, 128, 2, 5, 6}
	reads(t, b, 3, []api.Cell{{Rune: 'a'}, {Rune: 'a'}, cellOf('b', 256, 5, 6)}, 0)
	reads(t, b, 2, plain("aa"), 6)
	refuses(t, b, 1, api.ErrForm)
	refuses(t, b, 4, api.ErrShort)
}

func TestReadOfFewerThanOne(t *testing.T) {
	for _, n := range []int{0, -1, -2, math.MinInt32, math.MinInt} {
		for _, b := range [][]byte{nil, {0}, {128}, encoded(five{1, 'a', 0, 0, 0}), encoded(five{0, 7, 999, 0, 0})} {
			reads(t, b, n, nil, len(b))
		}
	}
}

func TestReadOfNoBytes(t *testing.T) {
	for _, n := range []int{1, 2, 132, math.MaxInt} {
		refuses(t, nil, n, api.ErrShort)
		refuses(t, []byte{}, n, api.ErrShort)
	}
}

func TestReadOfEachField(t *testing.T) {
	for _, c := range valid() {
		for _, n := range []int{1, 2, 127, 128, 1000} {
			b := fiveOf(n, c).bytes()
			want := slices.Repeat([]api.Cell{c}, n)
			reads(t, b, n, want, 0)
			reads(t, append(b, 0), n, want, 1)
			reads(t, append(b, 1, 'b', 0, 0), n, want, 4)
			reads(t, slices.Concat(b, b), n, want, len(b))
			refuses(t, b, n+1, api.ErrShort)
			if n > 1 {
				refuses(t, b, n-1, api.ErrForm)
			}
		}
	}
}

func TestReadWithTheNumberOfARun(t *testing.T) {
	a, b := api.Cell{Rune: 'a'}, cellOf('b', 3, 2, 1)
	for _, n := range []int{1, 2, 3, 10, 200} {
		for _, x := range []int{0, 1, n - 1, n, n + 1, n + 2, 2 * n, 1 << 32, 1<<32 + 1, codec.MaxNumber} {
			// As the first run, and behind one of two cells, so that n are still required.
			first, second := fiveOf(x, a).bytes(), encoded(fiveOf(2, b), fiveOf(x, a))
			switch {
			case x == 0 || x > n:
				refuses(t, first, n, api.ErrForm)
				refuses(t, second, n+2, api.ErrForm)
				refuses(t, append(first, 1, 'c', 0, 0, 0), n, api.ErrForm)
			case x == n:
				reads(t, first, n, slices.Repeat([]api.Cell{a}, n), 0)
				reads(t, second, n+2, append([]api.Cell{b, b}, slices.Repeat([]api.Cell{a}, n)...), 0)
			default:
				refuses(t, first, n, api.ErrShort)
				refuses(t, second, n+2, api.ErrShort)
			}
		}
	}
}

func TestReadOfCutBytes(t *testing.T) {
	for _, l := range append(randoms(50, 95), plain("aab"), slices.Repeat(plain("x"), 300)) {
		b := slowWrite(l)
		for at := range b {
			refuses(t, b[:at], len(l), api.ErrShort)
		}
	}
}

func TestReadOfAnInvalidCell(t *testing.T) {
	c := cellOf('x', 1, 1, 1)
	before := fiveOf(2, c)
	for _, x := range []five{
		{1, 0, 0, 0, 0}, {1, 31, 0, 0, 0}, {1, 127, 0, 0, 0}, {1, 128, 0, 0, 0}, {1, 159, 0, 0, 0},
		{1, 0xd800, 0, 0, 0}, {1, 0xdfff, 0, 0, 0}, {1, 0x110000, 0, 0, 0}, {1, math.MaxInt32, 0, 0, 0}, {1, math.MaxInt32 + 1, 0, 0, 0}, {1, math.MaxUint32, 0, 0, 0}, {1, codec.MaxNumber, 0, 0, 0},
		// These are a in their lowest bits.
		{1, 1<<16 + 1<<21 + 'a', 0, 0, 0}, {1, 1<<31 + 'a', 0, 0, 0}, {1, 1<<32 + 'a', 0, 0, 0}, {1, 1<<33 + 'a', 0, 0, 0}, {1, 1<<40 + 'a', 0, 0, 0}, {1, 1<<55 + 'a', 0, 0, 0},
		{1, 'a', 257, 0, 0}, {1, 'a', 1 << 16, 0, 0}, {1, 'a', 1<<32 + 1, 0, 0}, {1, 'a', codec.MaxNumber, 0, 0},
		{1, 'a', 0, 257, 0}, {1, 'a', 0, 1 << 16, 0}, {1, 'a', 0, 1<<32 + 1, 0}, {1, 'a', 0, codec.MaxNumber, 0},
		{1, 'a', 0, 0, 128}, {1, 'a', 0, 0, 256}, {1, 'a', 0, 0, 1<<32 + 1}, {1, 'a', 0, 0, codec.MaxNumber},
		{1, 7, 257, 257, 128},
	} {
		refuses(t, x.bytes(), 1, api.ErrForm)
		refuses(t, x.bytes(), 2, api.ErrForm)
		refuses(t, append(x.bytes(), 1, 'b', 0, 0, 0), 2, api.ErrForm)
		refuses(t, encoded(before, x), 3, api.ErrForm)
		refuses(t, encoded(before, x, before), 5, api.ErrForm)
		// It lies behind what is read.
		reads(t, encoded(before, x), 2, []api.Cell{c, c}, len(x.bytes()))
	}
}

func TestReadOfEqualRuns(t *testing.T) {
	for _, c := range valid() {
		for _, n := range []int{1, 2, 100} {
			x := fiveOf(n, c)
			refuses(t, encoded(x, x), 2*n, api.ErrForm)
			refuses(t, encoded(x, x), 2*n+1, api.ErrForm)
			refuses(t, encoded(x, fiveOf(1, c)), n+1, api.ErrForm)
			refuses(t, encoded(fiveOf(1, cellOf('q', 1, 1, 1)), x, x), 2*n+1, api.ErrForm)
			// The one that is equal isn't the one ahead of it.
			other := cellOf('q', 1, 1, 1)
			want := slices.Concat(slices.Repeat([]api.Cell{c}, n), []api.Cell{other}, slices.Repeat([]api.Cell{c}, n))
			reads(t, encoded(x, fiveOf(1, other), x), 2*n+1, want, 0)
			// It belongs to the next list.
			reads(t, encoded(x, x), n, slices.Repeat([]api.Cell{c}, n), len(x.bytes()))
		}
	}
}

func TestReadOfRunsThatDifferInOneField(t *testing.T) {
	c := cellOf('a', 1, 2, 3)
	for _, d := range []api.Cell{cellOf('b', 1, 2, 3), cellOf('a', 2, 2, 3), cellOf('a', 1, 1, 3), cellOf('a', 1, 2, 2)} {
		reads(t, encoded(fiveOf(1, c), fiveOf(2, d), fiveOf(1, c)), 4, []api.Cell{c, d, d, c}, 0)
	}
}

func TestReadTwiceForgetsTheRunAhead(t *testing.T) {
	// Two lists, the second of which begins with the cell with which the first one ends.
	r := codec.NewReader(encoded(fiveOf(1, plain("b")[0]), fiveOf(2, plain("a")[0]), fiveOf(3, plain("a")[0])))
	if got := Read(r, 3); !slices.Equal(got, plain("baa")) {
		t.Errorf("the first list = %v", got)
	}
	if got := Read(r, 3); !slices.Equal(got, plain("aaa")) || r.Done() != api.OK {
		t.Errorf("the second list = %v, error %d", got, r.Done())
	}
}

func TestReadOfNumbersThatAreNone(t *testing.T) {
	// The errors of Number, in each of the five numbers of the first run and of the second one.
	good := [][]byte{number(1), number('a'), number(1), number(2), number(3)}
	before := fiveOf(1, cellOf('b', 0, 0, 0)).bytes()
	for i := range good {
		for _, x := range []struct {
			b    []byte
			want api.Errno
		}{
			{[]byte{128, 0}, api.ErrForm},
			{[]byte{225, 0}, api.ErrForm},
			{[]byte{128, 128, 128, 128, 128, 128, 128, 128}, api.ErrLong},
			{[]byte{255, 255, 255, 255, 255, 255, 255, 255, 1}, api.ErrLong},
		} {
			l := slices.Clone(good)
			l[i] = x.b
			b := slices.Concat(l...)
			refuses(t, b, 1, x.want)
			refuses(t, slices.Concat(before, b), 2, x.want)
		}
		for _, cut := range [][]byte{nil, {128}, {255, 255}} {
			b := append(slices.Concat(good[:i]...), cut...)
			refuses(t, b, 1, api.ErrShort)
			refuses(t, slices.Concat(before, b), 2, api.ErrShort)
		}
	}
}

func TestReadOfFiveNumbersComesFirst(t *testing.T) {
	// A run is five numbers; what is wrong with them as a run counts only once they are there.
	for _, x := range []five{{0, 'a', 0, 0, 0}, {9, 'a', 0, 0, 0}, {1, 7, 0, 0, 0}, {1, 'a', 257, 0, 0}, {1, 'a', 0, 257, 0}, {1, 'b', 0, 0, 0}} {
		b := encoded(fiveOf(1, api.Cell{Rune: 'b'}), x)
		refuses(t, b, 2, api.ErrForm)
		refuses(t, b[:len(b)-1], 2, api.ErrShort)
		refuses(t, append(slices.Clone(b[:len(b)-1]), 128, 128), 2, api.ErrShort)
		refuses(t, append(slices.Clone(b[:len(b)-1]), 128, 128, 128, 128, 128, 128, 128, 128), 2, api.ErrLong)
	}
	refuses(t, []byte{0}, 1, api.ErrShort)
	refuses(t, []byte{9}, 1, api.ErrShort)
	refuses(t, []byte{1, 7}, 1, api.ErrShort)
}

func TestReadOfAReaderWithAnError(t *testing.T) {
	for _, e := range []api.Errno{api.ErrArg, api.ErrShort, api.ErrLong, api.ErrLine, -1} {
		for _, n := range []int{math.MinInt, -1, 0, 1, 2, math.MaxInt} {
			for _, b := range [][]byte{nil, encoded(five{1, 'a', 0, 0, 0}), encoded(five{0, 'a', 0, 0, 0})} {
				r := codec.NewReader(b)
				r.Fail(e)
				if got := Read(r, n); len(got) != 0 || r.Err() != e || r.Left() != 0 || r.Done() != e {
					t.Errorf("Read(%v, %d) behind the error %d = %v, error %d, %d left", b, n, e, got, r.Err(), r.Left())
				}
			}
		}
	}
	// An error of a read.
	r := codec.NewReader([]byte{2, 1, 'a', 0, 0, 0})
	r.Bool()
	if got := Read(r, 1); len(got) != 0 || r.Err() != api.ErrForm || r.Left() != 0 {
		t.Errorf("Read behind a Bool of 2 = %v, error %d", got, r.Err())
	}
}

func TestReadStartsWhereTheReaderIs(t *testing.T) {
	r := codec.NewReader(slices.Concat([]byte{172, 2, 3, 'x', 'y', 'z'}, slowWrite(plain("aab")), []byte{1, 9}))
	if r.Number() != 300 || string(r.Text(3)) != "xyz" {
		t.Fatal("the bytes ahead are others")
	}
	if got := Read(r, 3); !slices.Equal(got, plain("aab")) || !r.Bool() || r.Byte() != 9 || r.Done() != api.OK {
		t.Errorf("Read between other bytes = %v, error %d", got, r.Done())
	}
}

// compare checks Read of b against the sentences.
func compare(t *testing.T, b []byte, n int) {
	t.Helper()
	want, left, e := slowRead(b, n)
	r := codec.NewReader(b)
	got := Read(r, n)
	if !slices.Equal(got, want) || r.Err() != e || r.Left() != left {
		t.Fatalf("Read(%v, %d) = %v, error %d, %d left, want %v, error %d, %d left", b, n, got, r.Err(), r.Left(), want, e, left)
	}
}

func TestReadFollowsTheSentences(t *testing.T) {
	// Encodings with some bytes put in other places, taken away, added or changed.
	source := rand.New(rand.NewSource(96))
	corners := []byte{0, 1, 2, 3, 31, 32, 'a', 'b', 126, 127, 128, 129, 159, 160, 255}
	for range 60000 {
		l := random(source, valid()[:1+source.Intn(len(valid()))], 8)
		b := append(slowWrite(l), corners[source.Intn(len(corners))])
		for range source.Intn(4) {
			at := source.Intn(len(b))
			switch source.Intn(3) {
			case 0:
				b[at] = corners[source.Intn(len(corners))]
			case 1:
				b = slices.Insert(b, at, corners[source.Intn(len(corners))])
			default:
				b = append(slices.Delete(b, at, at+1), 0)
			}
		}
		compare(t, b, len(l))
		compare(t, b, source.Intn(10)-1)
		compare(t, b[:source.Intn(len(b)+1)], len(l))
	}
}

func TestReadOfAllShortBytes(t *testing.T) {
	// All strings of up to six of these bytes, and all second runs of them.
	some := []byte{0, 1, 2, 'a', 128}
	first := fiveOf(1, api.Cell{Rune: 'a'}).bytes()
	level := [][]byte{nil}
	for range 7 {
		var next [][]byte
		for _, b := range level {
			for n := range 4 {
				compare(t, b, n)
				compare(t, slices.Concat(first, b), n)
			}
			for _, x := range some {
				next = append(next, append(slices.Clone(b), x))
			}
		}
		level = next
	}
}

func TestReadIsOfOneForm(t *testing.T) {
	// What is read is written with the same bytes, so there are no other bytes for the same cells.
	source := rand.New(rand.NewSource(97))
	found := 0
	for range 200000 {
		b := make([]byte, 5+source.Intn(8))
		for i := range b {
			b[i] = []byte{0, 1, 1, 1, 2, 'a', 'a', 'b', 128, 130}[source.Intn(10)]
		}
		n := 1 + source.Intn(3)
		r := codec.NewReader(b)
		l := Read(r, n)
		if r.Err() != api.OK {
			continue
		}
		found++
		if again, e := written(func(w *codec.Writer) { Write(w, l) }); e != api.OK || len(l) != n || !bytes.Equal(again, b[:len(b)-r.Left()]) {
			t.Fatalf("%v is read as %v, which is written as %v, %d", b, l, again, e)
		}
	}
	if found < 100 {
		t.Errorf("only %d of the samples could be read", found)
	}
}

// P9.3

func TestWrittenCellsAreReadBack(t *testing.T) {
	source := rand.New(rand.NewSource(98))
	for _, l := range append(randoms(500, 99), slices.Repeat(valid(), 500), slices.Repeat(plain("x"), api.MaxRows*api.MaxCols)) {
		b, e := written(func(w *codec.Writer) { Write(w, l) })
		if e != api.OK {
			t.Fatalf("Write(%v): error %d", l, e)
		}
		behind := [][]byte{nil, {0}, {1}, {128}, {255, 255, 255}, b, slices.Repeat([]byte{128}, 9), make([]byte, 20)}
		for range 5 {
			x := make([]byte, source.Intn(20))
			source.Read(x)
			behind = append(behind, x)
		}
		if len(l) > 0 {
			// One more of the last cell, which a list of more cells would have in its last run.
			behind = append(behind, fiveOf(1, l[len(l)-1]).bytes())
		}
		for _, x := range behind {
			r := codec.NewReader(slices.Concat(b, x))
			if got := Read(r, len(l)); !slices.Equal(got, l) || r.Err() != api.OK || r.Left() != len(x) {
				t.Fatalf("%v with %v behind it is read as %v, error %d, %d left", l, x, got, r.Err(), r.Left())
			}
			for i := range x {
				if r.Byte() != x[i] {
					t.Fatalf("%v with %v behind it: byte %d is another one", l, x, i)
				}
			}
		}
	}
}

func TestEveryValidRuneIsReadBack(t *testing.T) {
	var l []api.Cell
	for sign := 0; sign <= 0x10ffff; sign++ {
		if slowRight(sign, 0, 0, 0) {
			l = append(l, cellOf(rune(sign), sign%257, sign%255, sign%128))
		}
	}
	b, e := written(func(w *codec.Writer) { Write(w, l) })
	r := codec.NewReader(append(b, 7))
	if got := Read(r, len(l)); e != api.OK || !slices.Equal(got, l) || r.Left() != 1 {
		t.Errorf("written with the error %d, read are %d of %d cells, error %d, %d left", e, len(got), len(l), r.Err(), r.Left())
	}
}

func TestListsOneBehindTheOtherAreReadBack(t *testing.T) {
	lists := randoms(300, 990)
	w := codec.NewWriter()
	for _, l := range lists {
		Write(w, l)
	}
	b, e := w.Bytes()
	if e != api.OK {
		t.Fatalf("Write: error %d", e)
	}
	r := codec.NewReader(b)
	for i, l := range lists {
		if got := Read(r, len(l)); !slices.Equal(got, l) {
			t.Fatalf("list %d of %v is read as %v, error %d", i, l, got, r.Err())
		}
	}
	if r.Done() != api.OK {
		t.Errorf("behind all lists: error %d, %d left", r.Done(), r.Left())
	}
}

// P1 and P2

func TestReadOfMoreCellsThanMemoryHolds(t *testing.T) {
	// The announced cells must not be made ahead of the error that follows.
	a, b := api.Cell{Rune: 'a'}, api.Cell{Rune: 'b'}
	for _, n := range []int{1 << 33, 1 << 40, codec.MaxNumber, math.MaxInt} {
		refuses(t, fiveOf(min(n, codec.MaxNumber)-1, a).bytes(), n, api.ErrShort)
		refuses(t, encoded(fiveOf(min(n, codec.MaxNumber)-1, a), five{0, 'b', 0, 0, 0}), n, api.ErrForm)
		refuses(t, encoded(fiveOf(n/1000, a), fiveOf(n/1000, b), fiveOf(n/1000, b)), n, api.ErrForm)
		refuses(t, []byte{1, 'a', 0, 0, 0}, n, api.ErrShort)
	}
	// Behind 128 runs of the greatest number 127 cells are still required; nothing wraps round.
	var l []five
	for i := range 128 {
		l = append(l, fiveOf(codec.MaxNumber, []api.Cell{a, b}[i%2]))
	}
	refuses(t, encoded(l...), math.MaxInt, api.ErrShort)
	refuses(t, encoded(append(l, fiveOf(128, a))...), math.MaxInt, api.ErrForm)
	refuses(t, encoded(append(l, fiveOf(codec.MaxNumber, a))...), math.MaxInt, api.ErrForm)
	refuses(t, encoded(append(l, fiveOf(126, a))...), math.MaxInt, api.ErrShort)
	refuses(t, encoded(append(l, fiveOf(126, a), fiveOf(2, b))...), math.MaxInt, api.ErrForm)
}

func TestArgumentsAreNotChanged(t *testing.T) {
	for _, l := range append(randoms(200, 1), invalid(), plain("ab   ")) {
		backing := append(slices.Clone(l), plain("behind it")...)
		before := slices.Clone(backing)
		Runs(backing[:len(l)])
		Text(backing[:len(l)])
		Write(codec.NewWriter(), backing[:len(l)])
		if !slices.Equal(backing, before) {
			t.Errorf("an argument or what is behind it changed: %v", backing)
		}
		x := append(Runs(l), Run{3, api.Cell{Rune: 'x'}}, Run{-1, api.Cell{}})
		same := slices.Clone(x)
		Cells(x[:len(x)-2])
		Cells(x)
		if !slices.Equal(x, same) {
			t.Errorf("Cells changed its argument or what is behind it: %v", x)
		}
	}
}

func TestArgumentsAreNotKept(t *testing.T) {
	l := plain("aab")
	x := Runs(l)
	w := codec.NewWriter()
	Write(w, l)
	s := Text(l)
	clear(l)
	if !slices.Equal(x, []Run{{2, api.Cell{Rune: 'a'}}, {1, api.Cell{Rune: 'b'}}}) || s != "aab" {
		t.Errorf("a change of an argument changed Runs or Text: %v, %q", x, s)
	}
	if b, e := w.Bytes(); e != api.OK || !bytes.Equal(b, slowWrite(plain("aab"))) {
		t.Errorf("a change of an argument changed what was written: %v, %d", b, e)
	}
	c := Cells(x)
	clear(x)
	if !slices.Equal(c, plain("aab")) {
		t.Errorf("a change of an argument changed Cells: %v", c)
	}
}

// spoil overwrites a result with its spare capacity.
func spoil[T any](l []T, by T) {
	l = l[:cap(l)]
	for i := range l {
		l[i] = by
	}
}

func TestResultsAreNew(t *testing.T) {
	bad := cellOf('?', 7, 7, 7)
	for _, l := range randoms(200, 2) {
		mine := slices.Clone(l)
		x := Runs(mine)
		spoil(Runs(mine), Run{9, bad})
		spoil(Cells(x), bad)
		r := codec.NewReader(slices.Concat(slowWrite(l), slowWrite(l)))
		spoil(Read(r, len(l)), bad)
		if got := Read(r, len(l)); !slices.Equal(got, l) || r.Done() != api.OK {
			t.Errorf("a change of a result of Read changed the next one: %v", got)
		}
		if !slices.Equal(mine, l) || !slices.Equal(Cells(x), l) || !slices.Equal(Runs(mine), x) {
			t.Errorf("a change of a result changed something else: %v", mine)
		}
	}
}

func TestAnyBytesAreTaken(t *testing.T) {
	source := rand.New(rand.NewSource(3))
	for range 20000 {
		b := make([]byte, source.Intn(40))
		source.Read(b)
		n := source.Intn(300) - 10
		r := codec.NewReader(b)
		l := Read(r, n)
		if r.Err() != api.OK && len(l) != 0 || r.Err() == api.OK && len(l) != max(n, 0) || r.Left() > len(b) {
			t.Fatalf("Read(%v, %d) has %d cells, error %d", b, n, len(l), r.Err())
		}
		for _, c := range l {
			if !slowValid(c) {
				t.Fatalf("Read(%v, %d) has the cell %v", b, n, c)
			}
		}
	}
}

func TestAnyCellsAreTaken(t *testing.T) {
	source := rand.New(rand.NewSource(4))
	for range 20000 {
		l := make([]api.Cell, source.Intn(10))
		for i := range l {
			l[i] = cellOf(rune(source.Uint32()), source.Int()-source.Int(), source.Intn(400)-100, source.Intn(200)-50)
			if source.Intn(2) == 0 {
				l[i] = valid()[source.Intn(len(valid()))]
			}
		}
		isShortest(t, l, Runs(l))
		Text(l)
		all := !slices.ContainsFunc(l, func(c api.Cell) bool { return !slowValid(c) })
		b, e := written(func(w *codec.Writer) { Write(w, l) })
		if all && (e != api.OK || !bytes.Equal(b, slowWrite(l))) || !all && (e != api.ErrArg || len(b) != 0) {
			t.Fatalf("Write(%v) = %v, %d", l, b, e)
		}
	}
}
