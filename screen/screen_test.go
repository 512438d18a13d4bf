package screen

import (
	"math"
	"slices"
	"strconv"
	"strings"
	"testing"

	"baton/api"
	"baton/caret"
	"baton/cell"
	"baton/tabs"
)

// of returns a screen of a valid size that was given these bytes.
func of(t *testing.T, rows, cols int, in string) *Screen {
	t.Helper()
	s, e := New(rows, cols)
	if e != api.OK || s == nil {
		t.Fatalf("New(%d, %d): %v, %d", rows, cols, s, e)
	}
	s.Feed([]byte(in))
	return s
}

// rowsOf returns the rows as text without blanks at their ends, with a / between.
func rowsOf(s *Screen) string {
	g := s.Image().Grid
	out := []string{}
	for row := range g.Rows {
		out = append(out, cell.Text(g.Cells[row*g.Cols:(row+1)*g.Cols]))
	}
	return strings.Join(out, "/")
}

// show returns the rows and the place of the caret, with a w if it waits.
func show(s *Screen) string {
	x := s.Image()
	out := rowsOf(s) + " " + strconv.Itoa(x.Row) + "," + strconv.Itoa(x.Col)
	if s.at.Wait {
		out += "w"
	}
	return out
}

// backs returns the background of each cell as a digit, with a / between rows.
func backs(s *Screen) string {
	g := s.Image().Grid
	var out strings.Builder
	for i, c := range g.Cells {
		if i > 0 && i%g.Cols == 0 {
			out.WriteByte('/')
		}
		out.WriteString(strconv.Itoa(c.Pen.Bg))
	}
	return out.String()
}

// offs returns the lines that went off as text, the newest first, with a / between.
func offs(s *Screen) string {
	out := []string{}
	for n := range s.Gone() {
		out = append(out, cell.Text(s.Off(n)))
	}
	return strings.Join(out, "/")
}

type shown struct {
	rows, cols int
	in, want   string
}

func checkShown(t *testing.T, l []shown) {
	t.Helper()
	for _, x := range l {
		if got := show(of(t, x.rows, x.cols, x.in)); got != x.want {
			t.Errorf("%d x %d, %q: %q, want %q", x.rows, x.cols, x.in, got, x.want)
		}
	}
}

// unchanged checks that some bytes change nothing at all that a screen tells, nor what it does with further bytes.
func unchanged(t *testing.T, rows, cols int, before, in string) {
	t.Helper()
	for _, after := range []string{"", "x", "x\ny\tz", "\x1b[3bq", "\x1b8p", "\x1b[9;9Hvw", "\x1b[?47lm\x1b8n", "\x1b[?47hm\x1b8n", "\x1b[6n"} {
		equal(t, of(t, rows, cols, before+after), of(t, rows, cols, before+in+after), strconv.Quote(before)+" and "+strconv.Quote(in)+" and "+strconv.Quote(after))
	}
	a, b := of(t, rows, cols, before), of(t, rows, cols, before+in)
	if a.at != b.at {
		t.Errorf("%q and %q: the caret is %v, not %v", before, in, b.at, a.at)
	}
}

// befores are streams that leave a screen of 4 rows and 5 columns in different states.
var befores = []string{
	"",
	"ab",
	"\x1b[44mabcde",
	"ab\r\ncd\r\nef\r\ngh\r\nijklm",
	"ab\r\ncd\x1b[2;3r\x1b[31;42m\x1b[?6hxyz\x1b7\x1b[4h",
	"ab\x1b[?1049h\x1b[45mcd\r\nefghi",
	"ab\x1b[?7labcde\x1b[?25l\x1b]2;title\x07\x07",
}

// ints are numbers at and around the limits.
var ints = []int{0, 1, 2, 59, 60, 61, 131, 132, 133, -1, -2, -60, math.MaxInt, math.MinInt, math.MaxInt32, math.MinInt32, 1 << 40}

// P16.1

func TestNew(t *testing.T) {
	for _, rows := range ints {
		for _, cols := range ints {
			s, e := New(rows, cols)
			if rows >= 1 && rows <= 60 && cols >= 1 && cols <= 132 {
				if e != api.OK || s == nil {
					t.Errorf("New(%d, %d): %v, %d", rows, cols, s, e)
				}
			} else if e != api.ErrSize || s != nil {
				t.Errorf("New(%d, %d): %v, %d", rows, cols, s, e)
			}
		}
	}
}

// isNew checks each part of a new screen that it tells without being given bytes.
func isNew(t *testing.T, s *Screen, rows, cols int) {
	t.Helper()
	x := s.Image()
	want := api.Image{Grid: api.Grid{Rows: rows, Cols: cols, Cells: slices.Repeat([]api.Cell{{Rune: 32}}, rows*cols)}}
	if !sameImage(x, want) {
		t.Errorf("the image is\n%s", tell(x))
	}
	if s.Area() != (caret.Area{Rows: rows, Cols: cols, Top: 0, Bottom: rows - 1}) {
		t.Errorf("the area is %v", s.Area())
	}
	if s.Pen() != (api.Pen{}) || s.Alt() || s.Gone() != 0 || len(s.Off(0)) != 0 || len(s.Answers()) != 0 {
		t.Errorf("pen %v, alternate %v, %d lines, answers %q", s.Pen(), s.Alt(), s.Gone(), s.Answers())
	}
}

// stopsOf returns the columns that tabs go to, up to the last one.
func stopsOf(s *Screen) []int {
	s.Feed([]byte("\r"))
	out := []int{}
	for {
		s.Feed([]byte("\t"))
		col := s.Image().Col
		if col == s.Image().Grid.Cols-1 {
			return append(out, col)
		}
		out = append(out, col)
	}
}

func TestNewScreens(t *testing.T) {
	for _, x := range [][2]int{{1, 1}, {60, 132}, {1, 132}, {60, 1}, {24, 80}, {2, 3}, {1, 8}, {1, 9}, {1, 10}} {
		rows, cols := x[0], x[1]
		isNew(t, of(t, rows, cols, ""), rows, cols)
		stops, _ := tabs.New(cols)
		want := []int{}
		for _, col := range stops.List() {
			if col < cols-1 {
				want = append(want, col)
			}
		}
		if got := stopsOf(of(t, rows, cols, "")); !slices.Equal(got, append(want, cols-1)) {
			t.Errorf("%d columns: tabs go to %v", cols, got)
		}
	}
	if got := stopsOf(of(t, 1, 20, "")); !slices.Equal(got, []int{8, 16, 19}) {
		t.Errorf("tabs go to %v", got)
	}
	checkShown(t, []shown{
		{2, 3, "", "/ 0,0"},
		// Wrapping is on.
		{2, 3, "abcd", "abc/d 1,1"},
		// Insert mode is off.
		{2, 3, "ab\rx", "xb/ 0,1"},
		// Nothing is saved.
		{2, 3, "ab\n\x1b8", "ab/ 0,0"},
		{2, 3, "\x1b[?1049hab\n\x1b8", "ab/ 0,0"},
		// There is no last rune.
		{2, 3, "\x1b[2b", "/ 0,0"},
		// The parser is in its initial state.
		{2, 5, "[2J", "[2J/ 0,3"},
		{2, 3, "\xac", "\ufffd/ 0,1"},
	})
	s := of(t, 2, 3, "\x1b[31;42m\x1b[?6h\x1b8")
	if s.Pen() != (api.Pen{}) || s.Area().Origin {
		t.Errorf("a restore of nothing yields %v, %v", s.Pen(), s.Area())
	}
}

func TestScreensShareNothing(t *testing.T) {
	a, b := of(t, 2, 3, ""), of(t, 2, 3, "")
	a.Feed([]byte("abcdefghi\a\x1b[31m\x1b[?1049h\x1b[c\x1b]2;x\x07\x1b[3g\x1b["))
	isNew(t, b, 2, 3)
	b.Feed([]byte("2J"))
	if got := show(b); got != "2J/ 0,2" {
		t.Errorf("%q", got)
	}
}

func TestFeedInOrder(t *testing.T) {
	checkShown(t, []shown{
		{2, 3, "abcd", "abc/d 1,1"}, // the chapter's example
		{3, 4, "ab\x1b[Dc", "ac// 0,2"},
		{3, 4, "a\x1b[2;2Hb\x1b[Hc", "c/ b/ 0,1"},
		{3, 4, "\xc3\xa9\xe2\x82\xac\U0001f600", "é€\U0001f600// 0,3"},
		{3, 4, "\xe2\x82A", "\ufffdA// 0,2"},
		{3, 4, "a\xffb", "a\ufffdb// 0,3"},
		{3, 4, "a\u0080\u009fb\x7fc", "abc// 0,3"},
		{3, 4, "a\u00a0b", "a\u00a0b// 0,3"},
		{3, 4, "a\x1b[3", "a// 0,1"},
		{3, 4, "a\x1b[3\x18b", "ab// 0,2"},
	})
	s := of(t, 3, 4, "")
	s.Feed(nil)
	s.Feed([]byte{})
	isNew(t, s, 3, 4)
	s.Feed([]byte("a\x1b["))
	s.Feed(nil)
	s.Feed([]byte("2Cb"))
	if got := show(s); got != "a  b// 0,3w" {
		t.Errorf("%q", got)
	}
}

func TestScrollUp(t *testing.T) {
	three := "a\r\nb\r\nc"
	for _, x := range []struct{ in, rows, off string }{
		{three, "a/b/c", ""},
		{three + "\n", "b/c/", "a"},
		{three + "\n\n", "c//", "b/a"},
		{three + "\n\n\n", "//", "c/b/a"},
		{three + "\n\n\n\n", "//", "/c/b/a"},
		{three + "\x1b[S", "b/c/", "a"},
		{three + "\x1b[1S", "b/c/", "a"},
		{three + "\x1b[2S", "c//", "b/a"},
		{three + "\x1b[3S", "//", "c/b/a"},
		{three + "\x1b[4S", "//", "c/b/a"},
		{three + "\x1b[9999S", "//", "c/b/a"},
		{three + "\x1b[2S\x1b[2S", "//", "/c/b/a"},
		// a region from the first row on
		{three + "\x1b[1;2r\x1b[S", "b//c", "a"},
		{three + "\x1b[1;2r\x1b[2S", "//c", "b/a"},
		{three + "\x1b[1;2r\x1b[3S", "//c", "b/a"},
		{three + "\x1b[1;2r\x1b[9999S", "//c", "b/a"},
		{three + "\x1b[1;2r\x1b[2;1H\n\n", "//c", "b/a"},
		// another region
		{three + "\x1b[2;3r\x1b[S", "a/c/", ""},
		{three + "\x1b[2;3r\x1b[2S", "a//", ""},
		{three + "\x1b[2;3r\x1b[3S", "a//", ""},
		{three + "\x1b[2;3r\x1b[9999S", "a//", ""},
		{three + "\x1b[2;3r\x1b[3;1H\n", "a/c/", ""},
		// the alternate board
		{"\x1b[?47h\x1b[H" + three + "\x1b[S", "b/c/", ""},
		{"\x1b[?47h\x1b[H" + three + "\x1b[3S", "//", ""},
		{"\x1b[?47h\x1b[H" + three + "\x1b[4S", "//", ""},
		{"\x1b[?47h\x1b[H" + three + "\n\n", "c//", ""},
		{"\x1b[?47h\x1b[H" + three + "\x1b[1;2r\x1b[S", "b//c", ""},
		{three + "\n\x1b[?47h\x1b[3;1Hx\n\x1b[?47l", "b/c/", "a"},
		// what moves without scrolling up
		{three + "\x1b[H\x1b[M", "b/c/", ""},
		{three + "\x1b[T", "/a/b", ""},
		{three + "\x1b[H\x1bM", "/a/b", ""},
	} {
		s := of(t, 3, 4, x.in)
		if rowsOf(s) != x.rows || offs(s) != x.off {
			t.Errorf("%q: %q, off %q; want %q, %q", x.in, rowsOf(s), offs(s), x.rows, x.off)
		}
	}
	checkShown(t, []shown{
		{1, 2, "abc", "c 0,1"},
		{1, 2, "a\n\n", " 0,1"},
	})
	if s := of(t, 1, 2, "abc\x1b[S"); offs(s) != "c/ab" {
		t.Errorf("one row: off %q", offs(s))
	}
}

func TestScrollUpFillsWithBlank(t *testing.T) {
	for _, x := range []struct{ in, backs string }{
		{"\x1b[43mab\x1b[42m\x1b[3;1H\n", "000/000/333"},
		{"\x1b[43m\x1b[2;1Hab\x1b[42m\x1b[3;1H\n", "440/000/333"},
		{"\x1b[3;1H\x1b[42m\n", "000/000/333"},
		{"\x1b[42m\x1b[2S", "000/333/333"},
		{"\x1b[42m\x1b[3S", "333/333/333"},
		{"\x1b[2;3r\x1b[42m\x1b[9S", "000/333/333"},
		{"\x1b[1;2r\x1b[42;1;31m\x1b[S", "000/333/000"},
	} {
		if got := backs(of(t, 3, 3, x.in)); got != x.backs {
			t.Errorf("%q: %q, want %q", x.in, got, x.backs)
		}
	}
	s := of(t, 2, 3, "\x1b[42;1;31m\x1b[S")
	if got := s.Image().Grid.Cells[5]; got != (api.Cell{Rune: 32, Pen: api.Pen{Bg: 3}}) {
		t.Errorf("Blank is %v", got)
	}
}

func TestScrollback(t *testing.T) {
	for _, n := range []int{1, 2, 98, 99, 100, 101, 102, 150, 199, 200, 201, 1000} {
		s := of(t, 2, 8, "")
		for i := range n + 1 {
			s.Feed([]byte("line" + strconv.Itoa(i) + "\r\n"))
		}
		if want := min(n, 100); s.Gone() != want {
			t.Fatalf("%d lines: %d are there, want %d", n, s.Gone(), want)
		}
		for i := range s.Gone() {
			if got, want := cell.Text(s.Off(i)), "line"+strconv.Itoa(n-1-i); got != want {
				t.Errorf("%d lines: Off(%d) is %q, want %q", n, i, got, want)
			}
		}
	}
	s := of(t, 60, 3, "\x1b[Hab")
	for range 3 {
		s.Feed([]byte("\x1b[9999S"))
	}
	if s.Gone() != 100 || cell.Text(s.Off(99)) != "" {
		t.Errorf("%d lines, the last is %q", s.Gone(), cell.Text(s.Off(99)))
	}
	// Cut takes blanks of the zero pen only.
	s = of(t, 2, 4, "a\x1b[42m b\x1b[K\x1b[m\r\nc \x1b[2S")
	if got := len(s.Off(1)); got != 4 {
		t.Errorf("the first row has %d cells", got)
	}
	if got := s.Off(0); !slices.Equal(got, []api.Cell{{Rune: 'c'}}) {
		t.Errorf("the second row is %v", got)
	}
}

func TestFeedMovesDown(t *testing.T) {
	three := "a\r\nb\r\nc"
	for _, feed := range []string{"\n", "\v", "\f", "\x1bD"} {
		checkShown(t, []shown{
			{3, 4, "ab" + feed, "ab// 1,2"},
			{3, 4, three + "\x1b[2;3H" + feed, "a/b/c 2,2"},
			{3, 4, three + "\x1b[3;3H" + feed, "b/c/ 2,2"},
			// within a region, at its end, and below it
			{3, 4, three + "\x1b[1;2r\x1b[1;3H" + feed, "a/b/c 1,2"},
			{3, 4, three + "\x1b[1;2r\x1b[2;3H" + feed, "b//c 1,2"},
			{3, 4, three + "\x1b[1;2r\x1b[3;3H" + feed, "a/b/c 2,2"},
			{4, 4, three + "\x1b[1;2r\x1b[3;3H" + feed, "a/b/c/ 3,2"},
			// above it
			{4, 4, three + "\x1b[2;3r\x1b[1;3H" + feed, "a/b/c/ 1,2"},
			// Wait is gone, in the next row and in the same one.
			{3, 4, "abcd" + feed, "abcd// 1,3"},
			{3, 4, "\x1b[3;1Habcd" + feed, "/abcd/ 2,3"},
			{3, 4, "\x1b[1;2r\x1b[3;1Habcd" + feed, "//abcd 2,3"},
			{1, 2, "ab" + feed, " 0,1"},
		})
	}
}

// P16.2

func TestPrint(t *testing.T) {
	off := "\x1b[?7l"
	checkShown(t, []shown{
		{3, 4, "a", "a// 0,1"},
		{3, 4, "abc", "abc// 0,3"},
		{3, 4, "abcd", "abcd// 0,3w"},
		{3, 4, "abcde", "abcd/e/ 1,1"},
		{3, 4, "abcdefgh", "abcd/efgh/ 1,3w"},
		{3, 4, "abcdefghi", "abcd/efgh/i 2,1"},
		{3, 4, "abcdefghijklm", "efgh/ijkl/m 2,1"},
		// in the last column without Wait
		{3, 4, "\x1b[1;4Hx", "   x// 0,3w"},
		{3, 4, "\x1b[1;4Hxy", "   x/y/ 1,1"},
		{3, 4, "abcd\x1b[1;4Hx", "abcx// 0,3w"},
		// wrapping is off
		{3, 4, off + "abcd", "abcd// 0,3"},
		{3, 4, off + "abcde", "abce// 0,3"},
		{3, 4, off + "abcdefgh", "abch// 0,3"},
		{3, 4, off + "\x1b[3;4Hxy", "//   y 2,3"},
		{3, 4, off + "abcde\x1b[?7hf", "abcf// 0,3w"},
		{3, 4, off + "abcde\x1b[?7hfg", "abcf/g/ 1,1"},
		// A restored caret waits even if wrapping is off, and then has no effect.
		{3, 4, "abcd\x1b7" + off + "\x1b8", "abcd// 0,3w"},
		{3, 4, "abcd\x1b7" + off + "\x1b8x", "abcx// 0,3"},
		{3, 4, "abcd\x1b7" + off + "\x1b8xy", "abcy// 0,3"},
		// in the last row of the board and of a region, and below it
		{2, 3, "\x1b[2;1Habcd", "abc/d 1,1"},
		{4, 3, "\x1b[2;3r\x1b[3;1Habcd", "/abc/d/ 2,1"},
		{4, 3, "\x1b[1;2r\x1b[3;1Habcd", "//abc/d 3,1"},
		{4, 3, "\x1b[1;2r\x1b[4;1Habcd", "///dbc 3,1"},
		{4, 3, "x\x1b[1;2r\x1b[2;1Habcd", "abc/d// 1,1"},
		// one column, one row, one cell
		{3, 1, "a", "a// 0,0w"},
		{3, 1, "ab", "a/b/ 1,0w"},
		{3, 1, "abcd", "b/c/d 2,0w"},
		{3, 1, off + "abcd", "d// 0,0"},
		{1, 3, "abcd", "d 0,1"},
		{1, 1, "abc", "c 0,0w"},
		{1, 1, off + "abc", "c 0,0"},
	})
}

func TestPrintInInsertMode(t *testing.T) {
	in := "\x1b[4h"
	checkShown(t, []shown{
		{2, 4, "abc\r" + in + "x", "xabc/ 0,1"},
		{2, 4, "abc\r" + in + "xy", "xyab/ 0,2"},
		{2, 4, "abcd\r" + in + "xy", "xyab/ 0,2"},
		{2, 4, "abcd\x1b[1;2H" + in + "xy", "axyb/ 0,3"},
		{2, 4, "abcd\x1b[1;4H" + in + "x", "abcx/ 0,3w"},
		{2, 4, "abcd" + in + "x", "abcd/x 1,1"},
		{2, 4, "\x1b[2;1Hefgh\x1b[1;1Habcd" + in + "x", "abcd/xefg 1,1"},
		{2, 4, "\x1b[?7labcd" + in + "xy", "abcy/ 0,3"},
		{2, 4, "abc\r" + in + "x\x1b[4ly", "xybc/ 0,2"},
		{1, 1, in + "ab", "b 0,0w"},
	})
}

func TestPrintStoresThePen(t *testing.T) {
	s := of(t, 2, 4, "a\x1b[1;31;42mb\x1b[4hc\x1b[md")
	pen := api.Pen{Fg: 2, Bg: 3, Marks: api.Bold}
	if got, want := s.Image().Grid.Cells[:4], []api.Cell{{Rune: 'a'}, {Rune: 'b', Pen: pen}, {Rune: 'c', Pen: pen}, {Rune: 'd'}}; !slices.Equal(got, want) {
		t.Errorf("%v, want %v", got, want)
	}
	// A row that comes in by wrapping is Blank of the pen of then.
	if got := backs(of(t, 2, 3, "abcdef\x1b[42mg")); got != "000/333" {
		t.Errorf("%q", got)
	}
	// Each rune that is printable is stored.
	s = of(t, 1, 4, "\U0010ffff\ue000\ud7ff~")
	if got := rowsOf(s); got != "\U0010ffff\ue000\ud7ff~" {
		t.Errorf("%q", got)
	}
}

func TestLastRune(t *testing.T) {
	checkShown(t, []shown{
		{1, 9, "a\x1b[b", "aa 0,2"},
		{1, 9, "ab\x1b[b", "abb 0,3"},
		{1, 9, "a\x1b[2Cx\x1b[H\x1b[2b", "xx x 0,2"},
		{1, 9, "a\x1b[!p\x1b[b", "aa 0,2"},
		{1, 9, "a\x1b[?1049h\x1b[H\x1b[b", "a 0,1"},
		{1, 9, "a\x1bc\x1b[b", " 0,0"},
		{1, 9, "é\x1b[b", "éé 0,2"},
		{1, 9, "a\x07\r\x1b[2;2r\x1b[31m\x1b[b", "a 0,1"},
	})
}

// P16.3

func TestBell(t *testing.T) {
	for _, n := range []int{0, 1, 2, 7, 300} {
		if got := of(t, 2, 3, strings.Repeat("\a", n)).Image().Bells; got != n {
			t.Errorf("%d bells: %d", n, got)
		}
	}
	// So many bells take too long to be given one by one.
	s := of(t, 2, 3, "\a")
	s.bells = MaxBells - 2
	for _, want := range []int{MaxBells - 1, MaxBells, MaxBells, MaxBells} {
		s.Feed([]byte("\a"))
		if got := s.Image().Bells; got != want {
			t.Errorf("%d bells, want %d", got, want)
		}
	}
	if MaxBells != 1<<30 || MaxAnswers != 256 {
		t.Errorf("MaxBells %d, MaxAnswers %d", MaxBells, MaxAnswers)
	}
	// A bell that ends a string is none.
	if got := of(t, 2, 3, "\x1b]2;x\a\x1bPy\a\x1b\\").Image().Bells; got != 0 {
		t.Errorf("%d bells of strings", got)
	}
	checkShown(t, []shown{
		{2, 3, "abc\a", "abc/ 0,2w"},
		{2, 3, "ab\a", "ab/ 0,2"},
	})
}

func TestControls(t *testing.T) {
	checkShown(t, []shown{
		{3, 4, "\b", "// 0,0"},
		{3, 4, "ab\b", "ab// 0,1"},
		{3, 4, "ab\b\b\b", "ab// 0,0"},
		{3, 4, "abcd\b", "abcd// 0,2"},
		{3, 4, "\r\b", "// 0,0"},
		{1, 20, "\t", " 0,8"},
		{1, 20, "1234567\t", "1234567 0,8"},
		{1, 20, "\t\t", " 0,16"},
		{1, 20, "\t\t\t", " 0,19"},
		{1, 20, "\t\t\t\t", " 0,19"},
		{1, 20, "12345678\t", "12345678 0,16"},
		{2, 4, "abcd\t", "abcd/ 0,3"},
		{2, 4, "abcd\tx", "abcx/ 0,3w"},
		{1, 20, "\x1b[3g\t", " 0,19"},
		{1, 20, "\x1b[1;4H\x1bH\r\t", " 0,3"},
		{3, 4, "ab\r", "ab// 0,0"},
		{3, 4, "abcd\r", "abcd// 0,0"},
		{3, 4, "abcd\rx", "xbcd// 0,1"},
		{3, 4, "\r", "// 0,0"},
		{3, 4, "\x1b[2;2H\r", "// 1,0"},
		{3, 1, "a\b", "a// 0,0"},
		{3, 1, "a\t", "a// 0,0"},
		{3, 1, "a\r", "a// 0,0"},
	})
}

func TestOtherControls(t *testing.T) {
	for _, before := range befores {
		for b := range 0x20 {
			if b < 7 || b > 13 && b != 0x1b {
				unchanged(t, 4, 5, before, string(rune(b)))
			}
		}
		unchanged(t, 4, 5, before, "\x7f")
	}
}

// P16.4

func TestEscapes(t *testing.T) {
	checkShown(t, []shown{
		{3, 4, "abcd\x1b7", "abcd// 0,3w"},
		{3, 4, "abcd\x1b8", "abcd// 0,0"},
		{3, 4, "abcd\x1bE", "abcd// 1,0"},
		{3, 4, "abcd\x1bM", "/abcd/ 0,3"},
		{3, 4, "abcd\x1bH", "abcd// 0,3w"},
		{3, 4, "abcd\x1bc", "// 0,0"},
		// E
		{3, 4, "ab\x1bE", "ab// 1,0"},
		{3, 4, "a\r\nb\r\ncd\x1bE", "b/cd/ 2,0"},
		{4, 4, "\x1b[1;2r\x1b[3;2Hx\x1bE", "// x/ 3,0"},
		{3, 4, "\x1b[1;2r\x1b[3;2Hx\x1bE", "// x 2,0"},
		{3, 1, "a\x1bE", "a// 1,0"},
		// M
		{3, 4, "a\r\nb\r\nc\x1bM", "a/b/c 1,1"},
		{3, 4, "a\r\nb\r\nc\x1bM\x1bM\x1bM", "/a/b 0,1"},
		{3, 4, "a\r\nb\r\nc\x1b[2;3r\x1b[2;2H\x1bM", "a//b 1,1"},
		{3, 4, "a\r\nb\r\nc\x1b[2;3r\x1b[3;2H\x1bM", "a/b/c 1,1"},
		{3, 4, "a\r\nb\r\nc\x1b[2;3r\x1b[1;2H\x1bM", "a/b/c 0,1"},
		{4, 4, "a\r\nb\r\nc\x1b[3;4r\x1b[2;2H\x1bM", "a/b/c/ 0,1"},
		{4, 4, "a\r\nb\r\nc\x1b[1;2r\x1b[4;2H\x1bM", "a/b/c/ 2,1"},
		{4, 4, "a\r\nb\r\nc\x1b[1;2r\x1b[H\x1bM", "/a/c/ 0,0"},
		{3, 4, "\x1b[2;1Habcd\x1bM", "/abcd/ 0,3"},
		{3, 4, "\x1b[2;3r\x1b[1;1Habcd\x1bM", "abcd// 0,3"},
		// H
		{2, 12, "\x1b[1;4H\x1bH\r\tx", "   x/ 0,4"},
		{2, 12, "\x1b[1;4H\x1bH\r\t\t", "/ 0,8"},
		{2, 12, "\x1b[1;1H\x1bH\x1b[1;3H\x1b[Z", "/ 0,0"},
		{2, 12, "\x1b[1;12H\x1bH\r\t\t", "/ 0,11"},
	})
	if got := backs(of(t, 3, 2, "\x1b[42m\x1bM")); got != "33/00/00" {
		t.Errorf("M fills with %q", got)
	}
	if got := backs(of(t, 3, 2, "\x1b[42m\x1b[2;3r\x1b[2;1H\x1bM")); got != "00/33/00" {
		t.Errorf("M fills with %q", got)
	}
}

func TestReset(t *testing.T) {
	all := "\x1b[3ga\r\nb\r\nc\r\nd\a\a\x1b[c\x1b]2;title\x07\x1b[4h\x1b[?25l\x1b[?7l\x1b[2;3r\x1b[?6h\x1b[1;31;42mxy\x1b7"
	for _, in := range []string{all, all + "\x1b[?1049h" + all, all + "\x1b[?47h\x1b[2;3H\x1b7", "", "abc"} {
		s, other := of(t, 3, 20, in), of(t, 3, 20, in)
		s.Feed([]byte("\x1bc"))
		if s.Image().Bells != other.Image().Bells || offs(s) != offs(other) || string(s.Answers()) != string(other.Answers()) {
			t.Errorf("%q: a reset leaves %d bells, off %q", in, s.Image().Bells, offs(s))
		}
		s.bells = 0
		s.Feed([]byte("\x1b[3J"))
		isNew(t, s, 3, 20)
		// What is not told is new as well.
		for _, after := range []string{"\x1b[2b", "\x1b8x", "\x1b[?47h\x1b8x", "abcdefghijklmnopqrstuvwxyz", "ab\rc", "\t\tx", "\x1b[?1049lx"} {
			again := of(t, 3, 20, in+"\x1bc\x1b[3J"+after)
			again.bells = 0
			again.Answers()
			equal(t, of(t, 3, 20, after), again, strconv.Quote(in)+", a reset and "+strconv.Quote(after))
		}
	}
	// The size is that of the screen, not that of New.
	s := of(t, 3, 4, "abc")
	s.Resize(2, 30)
	s.Feed([]byte("\x1b[3g\x1bc"))
	isNew(t, s, 2, 30)
	if got := stopsOf(s); !slices.Equal(got, []int{8, 16, 24, 29}) {
		t.Errorf("after a reset tabs go to %v", got)
	}
}

func TestOtherEscapes(t *testing.T) {
	for _, before := range befores {
		for b := 0x30; b <= 0x7e; b++ {
			if !strings.ContainsRune("78DEMHc[]PX^_", rune(b)) {
				unchanged(t, 4, 5, before, "\x1b"+string(rune(b)))
			}
		}
		for _, b := range "78DEMHc" {
			for inter := 0x20; inter < 0x30; inter++ {
				unchanged(t, 4, 5, before, "\x1b"+string(rune(inter))+string(b))
			}
			unchanged(t, 4, 5, before, "\x1b ("+string(b))
		}
	}
}
