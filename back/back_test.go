package back

import (
	"math"
	"math/rand"
	"slices"
	"strings"
	"testing"

	"baton/api"
	"baton/cell"
)

// The slow functions are the chapter's sentences, read one by one: all lines since New or Clear are kept in one list, the newest last, and the oldest are taken off it.

// slowCut looks for the shortest beginning behind which there is nothing but blanks.
func slowCut(row []api.Cell) []api.Cell {
	for n := range row {
		blanks := 0
		for _, c := range row[n:] {
			if c.Rune == 32 && c.Pen.Fg == 0 && c.Pen.Bg == 0 && c.Pen.Marks == 0 {
				blanks++
			}
		}
		if blanks == len(row)-n {
			return append([]api.Cell{}, row[:n]...)
		}
	}
	return append([]api.Cell{}, row...)
}

type slowLines struct {
	most, lost int
	rows       [][]api.Cell
}

func (s *slowLines) push(row []api.Cell) {
	s.rows = append(s.rows, slowCut(row))
	if len(s.rows) > s.most {
		s.rows = s.rows[1:]
		s.lost++
	}
}

func (s *slowLines) line(n int) []api.Cell {
	for i := len(s.rows) - 1; i >= 0; i-- {
		if n == 0 {
			return s.rows[i]
		}
		n--
	}
	return nil
}

func (s *slowLines) clear() {
	s.rows = nil
}

// signs returns the cells of a text, with the zero pen.
func signs(text string) []api.Cell {
	out := []api.Cell{}
	for _, c := range text {
		out = append(out, api.Cell{Rune: c})
	}
	return out
}

// made returns what New makes where it makes something.
func made(t *testing.T, most int) *Lines {
	t.Helper()
	l, e := New(most)
	if e != api.OK || l == nil {
		t.Fatalf("New(%d): %v, %d", most, l, e)
	}
	return l
}

// holds checks all that can be asked of l. The texts are those of the lines, the newest first.
func holds(t *testing.T, l *Lines, lost int, texts ...string) {
	t.Helper()
	if l.Len() != len(texts) || l.Lost() != lost {
		t.Fatalf("%d lines, %d lost; want %d, %d", l.Len(), l.Lost(), len(texts), lost)
	}
	for n, text := range texts {
		if !slices.Equal(l.Line(n), signs(text)) {
			t.Fatalf("Line(%d) of %d: %v, want %q", n, len(texts), l.Line(n), text)
		}
		if want := strings.TrimRight(text, " "); l.Text(n) != want {
			t.Fatalf("Text(%d) of %d: %q, want %q", n, len(texts), l.Text(n), want)
		}
	}
	for _, n := range []int{len(texts), len(texts) + 1, 99, 100, 101, math.MaxInt, -1, -2, -99, -100, -101, -len(texts), math.MinInt} {
		if n >= 0 && n < len(texts) {
			continue
		}
		if len(l.Line(n)) != 0 || l.Text(n) != "" {
			t.Fatalf("Line(%d) of %d: %v, %q", n, len(texts), l.Line(n), l.Text(n))
		}
	}
}

// same checks l against the model.
func same(t *testing.T, l *Lines, s *slowLines) {
	t.Helper()
	if l.Len() != len(s.rows) || l.Lost() != s.lost {
		t.Fatalf("most %d: %d lines, %d lost; want %d, %d", s.most, l.Len(), l.Lost(), len(s.rows), s.lost)
	}
	for n := -2; n < s.most+3; n++ {
		want := []api.Cell(nil)
		if n >= 0 {
			want = s.line(n)
		}
		if !slices.Equal(l.Line(n), want) {
			t.Fatalf("most %d, %d lost: Line(%d) is %v, want %v", s.most, s.lost, n, l.Line(n), want)
		}
		if l.Text(n) != cell.Text(want) {
			t.Fatalf("most %d, %d lost: Text(%d) is %q, want %q", s.most, s.lost, n, l.Text(n), cell.Text(want))
		}
	}
}

// number returns the text of the nth row of a test: each has its own.
func number(n int) string {
	return strings.Repeat("x", n%7) + string(rune('A'+n%26)) + string(rune(0x4e00+n))
}

// newest returns the texts of the rows from first to last, the newest first.
func newest(first, last int) []string {
	out := []string{}
	for n := last; n >= first; n-- {
		out = append(out, number(n))
	}
	return out
}

// P15.1

func TestNew(t *testing.T) {
	for _, most := range []int{0, 1, 2, 50, 99, 100} {
		holds(t, made(t, most), 0)
	}
	for _, most := range []int{-1, -2, -100, 101, 102, 200, 256, 1 << 32, 1<<32 + 1, math.MinInt, math.MinInt + 1, math.MaxInt, math.MaxInt - 1} {
		if l, e := New(most); l != nil || e != api.ErrSize {
			t.Errorf("New(%d): %v, %d", most, l, e)
		}
	}
	for most := -300; most <= 300; most++ {
		l, e := New(most)
		right := most >= 0 && most <= api.MaxBack
		if (e == api.OK) != right || (l != nil) != right || !right && e != api.ErrSize {
			t.Errorf("New(%d): %v, %d", most, l, e)
		}
	}
}

// cuts are rows, each with the number of cells that remain of it.
func cuts() []struct {
	row  []api.Cell
	left int
} {
	blank := api.Cell{Rune: ' '}
	a := api.Cell{Rune: 'a'}
	pen := func(p api.Pen) api.Cell { return api.Cell{Rune: ' ', Pen: p} }
	many := slices.Repeat([]api.Cell{blank}, 1000)
	return []struct {
		row  []api.Cell
		left int
	}{
		{nil, 0},
		{[]api.Cell{}, 0},
		{signs("a"), 1},
		{signs("abc"), 3},
		{signs(" "), 0},
		{signs("  "), 0},
		{many, 0},
		{signs("a b"), 3},
		{signs("  a"), 3},
		{signs("  a  b"), 6},
		{signs("a "), 1},
		{signs("ab "), 2},
		{signs("a      "), 1},
		{signs(" a "), 2},
		{signs("  a  b   "), 6},
		{append(signs("ab"), many...), 2},
		{append(slices.Clone(many), a, blank), 1001},
		{append(slices.Clone(many), many...), 0},
		{[]api.Cell{a, pen(api.Pen{Fg: 1})}, 2},
		{[]api.Cell{a, pen(api.Pen{Bg: 1})}, 2},
		{[]api.Cell{a, pen(api.Pen{Marks: 1})}, 2},
		{[]api.Cell{a, pen(api.Pen{Fg: -1})}, 2},
		{[]api.Cell{a, pen(api.Pen{Bg: math.MinInt})}, 2},
		{[]api.Cell{a, pen(api.Pen{Marks: math.MaxInt})}, 2},
		{[]api.Cell{a, pen(api.Pen{Fg: 1 << 32})}, 2},
		{[]api.Cell{a, pen(api.Pen{Fg: 256, Bg: 256, Marks: 127})}, 2},
		{[]api.Cell{a, pen(api.Pen{Fg: 1}), blank}, 2},
		{[]api.Cell{pen(api.Pen{Bg: 1}), blank, blank}, 1},
		{[]api.Cell{blank, pen(api.Pen{Marks: api.Strike}), blank}, 2},
		{[]api.Cell{blank, pen(api.Pen{Marks: api.Bold})}, 2},
		{[]api.Cell{blank, {Rune: 'a', Pen: api.Pen{Fg: 1}}, blank}, 2},
		{[]api.Cell{a, {}}, 2},
		{[]api.Cell{{}}, 1},
		{[]api.Cell{{}, blank, {}, blank}, 3},
		{[]api.Cell{a, {Rune: 9}}, 2},
		{[]api.Cell{a, {Rune: 31}}, 2},
		{[]api.Cell{a, {Rune: 33}}, 2},
		{[]api.Cell{a, {Rune: 160}}, 2},
		{[]api.Cell{a, {Rune: 0x2003}}, 2},
		{[]api.Cell{a, {Rune: 0x3000}}, 2},
		{[]api.Cell{a, {Rune: -32}}, 2},
		{[]api.Cell{a, {Rune: -1}}, 2},
		{[]api.Cell{a, {Rune: 0xd800}}, 2},
		{[]api.Cell{a, {Rune: math.MaxInt32}}, 2},
		{[]api.Cell{a, {Rune: math.MinInt32}, blank}, 2},
	}
}

func TestCut(t *testing.T) {
	for i, x := range cuts() {
		if got := Cut(x.row); !slices.Equal(got, x.row[:x.left]) {
			t.Errorf("Cut %d: %v, want %v", i, got, x.row[:x.left])
		}
		if x.left < len(x.row) && x.row[x.left] != cell.Blank(api.Pen{}) {
			t.Errorf("Cut %d: the test expects that more than blanks are cut", i)
		}
	}
}

// kinds are a few cells: the blank that is cut, some that differ from it in one field, and others.
func kinds() []api.Cell {
	return []api.Cell{{Rune: ' '}, {Rune: 'a'}, {}, {Rune: ' ', Pen: api.Pen{Fg: 1}}, {Rune: ' ', Pen: api.Pen{Bg: 1}}, {Rune: ' ', Pen: api.Pen{Marks: 1}}}
}

// rows calls do with each row of up to n of those cells.
func rows(n int, do func([]api.Cell)) {
	var more func(row []api.Cell)
	more = func(row []api.Cell) {
		do(row)
		if len(row) == n {
			return
		}
		for _, c := range kinds() {
			more(append(slices.Clone(row), c))
		}
	}
	more(nil)
}

func TestCutAsWritten(t *testing.T) {
	rows(5, func(row []api.Cell) {
		if got, want := Cut(row), slowCut(row); !slices.Equal(got, want) {
			t.Fatalf("Cut(%v): %v, want %v", row, got, want)
		}
	})
}

func TestPushCuts(t *testing.T) {
	one := made(t, 1)
	for i, x := range cuts() {
		one.Push(x.row)
		if got := one.Line(0); !slices.Equal(got, x.row[:x.left]) || one.Len() != 1 || one.Lost() != i {
			t.Errorf("Push %d: %v, %d, %d; want %v", i, got, one.Len(), one.Lost(), x.row[:x.left])
		}
		if got, want := one.Text(0), cell.Text(x.row[:x.left]); got != want {
			t.Errorf("Text %d: %q, want %q", i, got, want)
		}
	}
	all := made(t, 100)
	for _, x := range cuts() {
		all.Push(x.row)
	}
	for i, x := range cuts() {
		if got := all.Line(len(cuts()) - 1 - i); !slices.Equal(got, x.row[:x.left]) {
			t.Errorf("of all, Push %d: %v, want %v", i, got, x.row[:x.left])
		}
	}
}

// TestPush looks at everything behind each Push: until there are most lines, one more, and many more.
func TestPush(t *testing.T) {
	for _, most := range []int{1, 2, 3, 7, 99, 100} {
		l := made(t, most)
		for n := range 3*most + 10 {
			l.Push(signs(number(n)))
			first := max(0, n+1-most)
			holds(t, l, first, newest(first, n)...)
		}
	}
}

func TestPushToNone(t *testing.T) {
	l := made(t, 0)
	for n := range 250 {
		l.Push(signs(number(n)))
		holds(t, l, n+1)
	}
	l.Push(nil)
	l.Push(signs("   "))
	holds(t, l, 252)
	l.Clear()
	holds(t, l, 252)
	l.Push(signs("a"))
	holds(t, l, 253)
}

// A line without cells is a line.
func TestPushOfNothing(t *testing.T) {
	l := made(t, 3)
	l.Push(nil)
	holds(t, l, 0, "")
	l.Push(signs("a"))
	holds(t, l, 0, "a", "")
	l.Push(signs("    "))
	holds(t, l, 0, "", "a", "")
	l.Push([]api.Cell{})
	holds(t, l, 1, "", "", "a")
	l.Push(nil)
	holds(t, l, 2, "", "", "")
	l.Push(nil)
	holds(t, l, 3, "", "", "")
	l.Push(signs("b"))
	holds(t, l, 4, "b", "", "")
	hundred := made(t, 100)
	for n := range 130 {
		hundred.Push(nil)
		holds(t, hundred, max(0, n-99), make([]string, min(n+1, 100))...)
	}
}

func TestClear(t *testing.T) {
	for _, most := range []int{0, 1, 2, 5, 100} {
		for _, pushed := range []int{0, 1, 2, most / 2, most - 1, most, most + 1, most + most/2, 2 * most, 2*most + 1} {
			if pushed < 0 {
				continue
			}
			l := made(t, most)
			for n := range pushed {
				l.Push(signs(number(n)))
			}
			lost := max(0, pushed-most)
			for range 2 {
				l.Clear()
				holds(t, l, lost)
			}
			for n := range 2*most + 3 {
				l.Push(signs(number(n)))
				first := max(0, n+1-most)
				holds(t, l, lost+first, newest(first, n)...)
			}
		}
	}
}

// Lines that were removed are not kept, and come back by no number.
func TestClearLeavesNothing(t *testing.T) {
	l := made(t, 100)
	for n := range 150 {
		l.Push(signs(number(n)))
	}
	l.Clear()
	for n := -300; n <= 300; n++ {
		if len(l.Line(n)) != 0 || l.Text(n) != "" {
			t.Errorf("Line(%d): %v", n, l.Line(n))
		}
	}
	for i, row := range l.ring {
		if row != nil {
			t.Errorf("place %d still has %v", i, row)
		}
	}
	l.Push(signs("a"))
	holds(t, l, 50, "a")
}

// P15.2

func TestLine(t *testing.T) {
	l := made(t, 3)
	bold := api.Pen{Marks: api.Bold}
	l.Push([]api.Cell{{Rune: 'a', Pen: bold}, {Rune: ' ', Pen: bold}, {Rune: ' '}})
	l.Push(signs("b c "))
	l.Push([]api.Cell{{Rune: 0xe9}, {Rune: -1}, {}})
	want := [][]api.Cell{{{Rune: 0xe9}, {Rune: -1}, {}}, signs("b c"), {{Rune: 'a', Pen: bold}, {Rune: ' ', Pen: bold}}}
	texts := []string{"\u00e9\ufffd\x00", "b c", "a"}
	for n := range want {
		if !slices.Equal(l.Line(n), want[n]) || l.Text(n) != texts[n] {
			t.Errorf("Line(%d): %v, %q; want %v, %q", n, l.Line(n), l.Text(n), want[n], texts[n])
		}
	}
	l.Push(signs("d"))
	for n, text := range []string{"d", texts[0], texts[1], ""} {
		if l.Text(n) != text {
			t.Errorf("Text(%d): %q, want %q", n, l.Text(n), text)
		}
	}
}

// Text leaves runes 32 out that Cut leaves in.
func TestTextOfPens(t *testing.T) {
	l := made(t, 1)
	for _, p := range []api.Pen{{Fg: 1}, {Bg: 1}, {Marks: 1}, {Fg: -1, Bg: 300, Marks: 1 << 20}} {
		l.Push([]api.Cell{{Rune: ' ', Pen: p}, {Rune: 'x', Pen: p}, {Rune: ' ', Pen: p}, {Rune: ' ', Pen: p}})
		if len(l.Line(0)) != 4 || l.Text(0) != " x" {
			t.Errorf("%v: %v, %q", p, l.Line(0), l.Text(0))
		}
		l.Push([]api.Cell{{Rune: ' ', Pen: p}})
		if len(l.Line(0)) != 1 || l.Text(0) != "" {
			t.Errorf("%v: %v, %q", p, l.Line(0), l.Text(0))
		}
	}
}

// P15.3

func TestExample(t *testing.T) {
	l := made(t, 1)
	l.Push(signs("a"))
	holds(t, l, 0, "a")
	l.Push(signs("b"))
	holds(t, l, 1, "b")
}

func TestNewestAreKept(t *testing.T) {
	for most := range api.MaxBack + 1 {
		l := made(t, most)
		for n := range 537 {
			l.Push(signs(number(n)))
		}
		holds(t, l, 537-most, newest(537-most, 536)...)
	}
	l := made(t, 100)
	for n := range 20000 {
		l.Push(signs(number(n)))
	}
	holds(t, l, 19900, newest(19900, 19999)...)
}

// TestAsWritten pushes and clears at random, and holds all answers against the model's.
func TestAsWritten(t *testing.T) {
	r := rand.New(rand.NewSource(15))
	for round := range 300 {
		most := r.Intn(12)
		if round%50 == 0 {
			most = r.Intn(101)
		}
		l, s := made(t, most), &slowLines{most: most}
		for range 60 + most {
			if r.Intn(25) == 0 {
				l.Clear()
				s.clear()
			} else {
				row := make([]api.Cell, r.Intn(9))
				for i := range row {
					row[i] = kinds()[r.Intn(6)]
				}
				l.Push(row)
				s.push(row)
			}
			same(t, l, s)
		}
	}
}

// P1 and P2

// spare returns the cells with more behind them, in one piece of memory, and a check that none of it changed.
func spare(t *testing.T, row []api.Cell) ([]api.Cell, func()) {
	t.Helper()
	all := append(slices.Clone(row), signs("spare")...)
	was := slices.Clone(all)
	return all[:len(row)], func() {
		t.Helper()
		if !slices.Equal(all, was) {
			t.Errorf("the row or what is behind it changed: %v, was %v", all, was)
		}
	}
}

// spoil overwrites the cells and all that there is room for behind them.
func spoil(row []api.Cell) {
	row = row[:cap(row)]
	for i := range row {
		row[i] = api.Cell{Rune: '#', Pen: api.Pen{Fg: 9, Bg: 9, Marks: 9}}
	}
}

func TestCutIsACopy(t *testing.T) {
	for i, x := range cuts() {
		row, unchanged := spare(t, x.row)
		got := Cut(row)
		unchanged()
		spoil(got)
		_ = append(got[:0], signs("overwritten")...)
		unchanged()
		got = Cut(row)
		again := Cut(row)
		want := slices.Clone(x.row[:x.left])
		spoil(got)
		spoil(row)
		if !slices.Equal(again, want) {
			t.Errorf("Cut %d: %v, want %v", i, again, want)
		}
	}
}

func TestPushKeepsNothing(t *testing.T) {
	for _, most := range []int{0, 1, 2, 100} {
		l, s := made(t, most), &slowLines{most: most}
		for _, x := range cuts() {
			row, unchanged := spare(t, x.row)
			l.Push(row)
			unchanged()
			s.push(x.row)
			spoil(row)
			same(t, l, s)
		}
	}
}

// One row that is changed and pushed again and again is a new line each time.
func TestPushOfOneRow(t *testing.T) {
	l := made(t, 4)
	row := signs("a  ")
	l.Push(row)
	row[1].Rune = 'b'
	l.Push(row)
	row[0] = api.Cell{Rune: ' '}
	l.Push(row[:2])
	row[1].Rune = ' '
	l.Push(row)
	holds(t, l, 0, "", " b", "ab", "a")
}

func TestLineIsACopy(t *testing.T) {
	l, s := made(t, 5), &slowLines{most: 5}
	for n := range 8 {
		l.Push(signs(number(n)))
		s.push(signs(number(n)))
	}
	for n := range 5 {
		got, again := l.Line(n), l.Line(n)
		spoil(got)
		_ = append(got, signs("behind")...)
		if !slices.Equal(again, s.line(n)) {
			t.Errorf("Line(%d): two answers share memory", n)
		}
		same(t, l, s)
	}
	// What was taken out of one may be pushed again, to the same lines and to others.
	row := l.Line(4)
	l.Push(row)
	s.push(slices.Clone(row))
	spoil(row)
	same(t, l, s)
}

// What was answered stays as it was, whatever is done afterwards.
func TestAnswersStay(t *testing.T) {
	l := made(t, 3)
	want, got, texts := [][]api.Cell{}, [][]api.Cell{}, []string{}
	keep := func() {
		for n := range l.Len() {
			got = append(got, l.Line(n))
			want = append(want, slices.Clone(l.Line(n)))
			texts = append(texts, l.Text(n))
		}
	}
	for n := range 10 {
		l.Push(signs(number(n)))
		keep()
	}
	cut := Cut(signs("ab  "))
	l.Clear()
	for n := range 10 {
		l.Push(signs(number(100 + n)))
		keep()
	}
	l.Clear()
	for i := range got {
		if !slices.Equal(got[i], want[i]) || texts[i] != cell.Text(want[i]) {
			t.Errorf("answer %d: %v, %q; was %v", i, got[i], texts[i], want[i])
		}
	}
	if !slices.Equal(cut, signs("ab")) {
		t.Errorf("Cut: %v", cut)
	}
}

func TestLinesShareNothing(t *testing.T) {
	a, b := made(t, 3), made(t, 3)
	row := signs("one row")
	a.Push(row)
	b.Push(row)
	b.Push(a.Line(0))
	a.Push(signs("of a"))
	holds(t, a, 0, "of a", "one row")
	holds(t, b, 0, "one row", "one row")
	a.Clear()
	holds(t, a, 0)
	holds(t, b, 0, "one row", "one row")
	for range 4 {
		a.Push(nil)
	}
	holds(t, a, 1, "", "", "")
	holds(t, b, 0, "one row", "one row")
	if x, e := New(101); x != nil || e != api.ErrSize {
		t.Errorf("New(101): %v, %d", x, e)
	}
	holds(t, made(t, 3), 0)
}

// Asking changes nothing.
func TestAskingChangesNothing(t *testing.T) {
	for _, pushed := range []int{0, 2, 5, 12} {
		l := made(t, 5)
		for n := range pushed {
			l.Push(signs(number(n)))
		}
		first := max(0, pushed-5)
		for range 3 {
			holds(t, l, first, newest(first, pushed-1)...)
		}
		l.Push(signs("next"))
		first = max(0, pushed+1-5)
		holds(t, l, first, append([]string{"next"}, newest(first, pushed-1)...)...)
	}
}

func TestLong(t *testing.T) {
	row := slices.Repeat([]api.Cell{{Rune: 'a'}, {Rune: ' '}}, 500000)
	l := made(t, 2)
	for range 3 {
		l.Push(row)
	}
	if got := l.Line(1); !slices.Equal(got, row[:len(row)-1]) || l.Lost() != 1 {
		t.Errorf("%d cells of %d", len(got), len(row))
	}
	if text := l.Text(0); text != strings.TrimRight(strings.Repeat("a ", 500000), " ") {
		t.Errorf("a text of %d bytes", len(text))
	}
	blanks := slices.Repeat([]api.Cell{{Rune: ' '}}, 1000000)
	l.Push(blanks)
	if len(l.Line(0)) != 0 || len(Cut(blanks)) != 0 {
		t.Errorf("%d blanks remain", len(l.Line(0)))
	}
	for range 200000 {
		l.Push(row[:3])
	}
	if l.Len() != 2 || l.Lost() != 200002 || l.Text(1) != "a a" {
		t.Errorf("%d, %d, %q", l.Len(), l.Lost(), l.Text(1))
	}
}
