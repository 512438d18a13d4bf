package screen

import (
	"math/rand"
	"strconv"
	"strings"
	"testing"

	"baton/api"
	"baton/pen"
)

// P16.5

// ones are numbers of which the first counts as 1, and the second is not used.
var ones = []string{"", "0", "1", ";", ";7", "0;9", "1;9", "1;2;3;4", "0000", "00001", ";;;;;;;;;;;;;;;;;;"}

// checkOnes checks that a sequence does the same with each of these numbers.
func checkOnes(t *testing.T, rows, cols int, before string, final byte, want string) {
	t.Helper()
	for _, n := range ones {
		in := before + "\x1b[" + n + string(final)
		if got := show(of(t, rows, cols, in)); got != want {
			t.Errorf("%q: %q, want %q", in, got, want)
		}
	}
}

// far are numbers that are beyond every border.
var far = []string{"60", "61", "132", "133", "9998", "9999", "10000", "4294967297", "99999999999999999999"}

func checkFar(t *testing.T, rows, cols int, before string, final byte, want string) {
	t.Helper()
	for _, n := range far {
		for _, more := range []string{"", ";", ";1", ";7;8"} {
			in := before + "\x1b[" + n + more + string(final)
			if got := show(of(t, rows, cols, in)); got != want {
				t.Errorf("%q: %q, want %q", in, got, want)
			}
		}
	}
}

func TestMoves(t *testing.T) {
	// Each starts in row 3 of 6 and column 4 of 9 (from 0), and then in places where it waits.
	middle, waiting, region := "\x1b[4;5H", "\x1b[4;1Habcdefghi", "\x1b[3;5r\x1b[4;5H"
	for _, x := range []struct {
		final                                       byte
		one, two, great, waits, inRegion, greatThen string
	}{
		{'A', "2,4", "1,4", "0,4", "2,8", "2,4", "2,4"},
		{'B', "4,4", "5,4", "5,4", "4,8", "4,4", "4,4"},
		{'C', "3,5", "3,6", "3,8", "3,8", "3,5", "3,8"},
		{'D', "3,3", "3,2", "3,0", "3,7", "3,3", "3,0"},
		{'E', "4,0", "5,0", "5,0", "4,0", "4,0", "4,0"},
		{'F', "2,0", "1,0", "0,0", "2,0", "2,0", "2,0"},
		{'G', "3,0", "3,1", "3,8", "3,0", "3,0", "3,8"},
		{'`', "3,0", "3,1", "3,8", "3,0", "3,0", "3,8"},
		{'d', "0,4", "1,4", "5,4", "0,8", "0,4", "5,4"},
		{'I', "3,8", "3,8", "3,8", "3,8", "3,8", "3,8"},
		{'Z', "3,0", "3,0", "3,0", "3,0", "3,0", "3,0"},
	} {
		if x.final == 'Z' {
			// The one stop is that of the last column.
			x.waits = "3,0"
		}
		checkOnes(t, 6, 9, middle, x.final, "///// "+x.one)
		checkFar(t, 6, 9, middle, x.final, "///// "+x.great)
		checkOnes(t, 6, 9, waiting, x.final, "///abcdefghi// "+x.waits)
		checkOnes(t, 6, 9, region, x.final, "///// "+x.inRegion)
		checkFar(t, 6, 9, region, x.final, "///// "+x.greatThen)
		checkShown(t, []shown{{6, 9, middle + "\x1b[2" + string(x.final), "///// " + x.two}})
	}
}

func TestMovesAtTheBorders(t *testing.T) {
	checkShown(t, []shown{
		// at the border itself
		{3, 4, "\x1b[A", "// 0,0"},
		{3, 4, "\x1b[D", "// 0,0"},
		{3, 4, "\x1b[3;4H\x1b[B", "// 2,3"},
		{3, 4, "\x1b[3;4H\x1b[C", "// 2,3"},
		{3, 4, "\x1b[2;2H\x1b[F", "// 0,0"},
		{3, 4, "\x1b[3;2H\x1b[E", "// 2,0"},
		{3, 4, "\x1b[1;2H\x1b[F", "// 0,0"},
		{3, 4, "abcd\x1b[C", "abcd// 0,3"},
		{3, 4, "abcd\x1b[A", "abcd// 0,3"},
		{3, 4, "abcd\x1b[Cx", "abcx// 0,3w"},
		// exactly to it, and one less
		{6, 9, "\x1b[4;5H\x1b[3A", "///// 0,4"},
		{6, 9, "\x1b[4;5H\x1b[2A", "///// 1,4"},
		{6, 9, "\x1b[4;5H\x1b[4C", "///// 3,8"},
		{6, 9, "\x1b[4;5H\x1b[3C", "///// 3,7"},
		{6, 9, "\x1b[4;5H\x1b[4D", "///// 3,0"},
		{6, 9, "\x1b[4;5H\x1b[3D", "///// 3,1"},
		{6, 9, "\x1b[3;5H\x1b[3B", "///// 5,4"},
		{6, 9, "\x1b[3;5H\x1b[2B", "///// 4,4"},
		// above and below the region
		{6, 9, "\x1b[3;5r\x1b[2;2H\x1b[9A", "///// 0,1"},
		{6, 9, "\x1b[3;5r\x1b[2;2H\x1b[9B", "///// 4,1"},
		{6, 9, "\x1b[3;5r\x1b[6;2H\x1b[9A", "///// 2,1"},
		{6, 9, "\x1b[3;4r\x1b[5;2H\x1b[9B", "///// 5,1"},
		{6, 9, "\x1b[3;5r\x1b[2;2H\x1b[9E", "///// 4,0"},
		{6, 9, "\x1b[3;5r\x1b[6;2H\x1b[9F", "///// 2,0"},
		// columns
		{2, 4, "\x1b[3G", "/ 0,2"},
		{2, 4, "\x1b[4G", "/ 0,3"},
		{2, 4, "\x1b[5G", "/ 0,3"},
		{2, 4, "\x1b[4`", "/ 0,3"},
		{2, 4, "\x1b[5`", "/ 0,3"},
		{2, 4, "abcd\x1b[4G", "abcd/ 0,3"},
		{2, 4, "abcd\x1b[4Gx", "abcx/ 0,3w"},
		{2, 4, "abcd\x1b[9`", "abcd/ 0,3"},
	})
}

func TestGoto(t *testing.T) {
	region := "\x1b[2;3r"
	for _, final := range []string{"H", "f"} {
		for _, x := range []struct{ numbers, place, inRegion string }{
			{"", "0,0", "1,0"},
			{"0", "0,0", "1,0"},
			{";", "0,0", "1,0"},
			{"0;0", "0,0", "1,0"},
			{"1;1", "0,0", "1,0"},
			{"2", "1,0", "2,0"},
			{"2;", "1,0", "2,0"},
			{";3", "0,2", "1,2"},
			{"0;3", "0,2", "1,2"},
			{"2;3", "1,2", "2,2"},
			{"2;3;4;5", "1,2", "2,2"},
			{"3;5", "2,4", "2,4"},
			{"4;5", "3,4", "2,4"},
			{"5;6", "3,4", "2,4"},
			{"9999;9999", "3,4", "2,4"},
			{"99999999999999999999;1", "3,0", "2,0"},
			{"1;99999999999999999999", "0,4", "1,4"},
		} {
			in := "\x1b[" + x.numbers + final
			checkShown(t, []shown{
				{4, 5, "\x1b[3;3H" + in, "/// " + x.place},
				{4, 5, "abcde" + in, "abcde/// " + x.place},
				{4, 5, region + in, "/// " + x.place},
				{4, 5, region + "\x1b[?6h\x1b[2;2H" + in, "/// " + x.inRegion},
			})
		}
	}
}

func TestRowOnly(t *testing.T) {
	checkShown(t, []shown{
		{4, 5, "\x1b[3;3H\x1b[d", "/// 0,2"},
		{4, 5, "\x1b[3;3H\x1b[2d", "/// 1,2"},
		{4, 5, "\x1b[3;3H\x1b[2;5d", "/// 1,2"},
		{4, 5, "\x1b[3;3H\x1b[4d", "/// 3,2"},
		{4, 5, "\x1b[3;3H\x1b[5d", "/// 3,2"},
		{4, 5, "abcde\x1b[d", "abcde/// 0,4"},
		{4, 5, "abcde\x1b[2d", "abcde/// 1,4"},
		{4, 5, "\x1b[2;3r\x1b[?6h\x1b[2;2H\x1b[d", "/// 1,1"},
		{4, 5, "\x1b[2;3r\x1b[?6h\x1b[1;2H\x1b[2d", "/// 2,1"},
		{4, 5, "\x1b[2;3r\x1b[?6h\x1b[1;2H\x1b[3d", "/// 2,1"},
		{4, 5, "\x1b[2;3r\x1b[?6h\x1b[1;2H\x1b[9999d", "/// 2,1"},
		{4, 5, "\x1b[2;3r\x1b[3;2H\x1b[4d", "/// 3,1"},
	})
}

func TestTabs(t *testing.T) {
	checkShown(t, []shown{
		{1, 30, "\x1b[I", " 0,8"},
		{1, 30, "\x1b[0I", " 0,8"},
		{1, 30, "\x1b[;9I", " 0,8"},
		{1, 30, "\x1b[1I", " 0,8"},
		{1, 30, "\x1b[2I", " 0,16"},
		{1, 30, "\x1b[3I", " 0,24"},
		{1, 30, "\x1b[4I", " 0,29"},
		{1, 30, "\x1b[5I", " 0,29"},
		{1, 30, "\x1b[9999I", " 0,29"},
		{1, 30, "\x1b[9G\x1b[I", " 0,16"},
		{1, 30, "\x1b[8G\x1b[I", " 0,8"},
		{1, 30, "\x1b[30G\x1b[I", " 0,29"},
		{1, 30, "\x1b[30G\x1b[Z", " 0,24"},
		{1, 30, "\x1b[30G\x1b[0Z", " 0,24"},
		{1, 30, "\x1b[30G\x1b[2Z", " 0,16"},
		{1, 30, "\x1b[30G\x1b[3Z", " 0,8"},
		{1, 30, "\x1b[30G\x1b[4Z", " 0,0"},
		{1, 30, "\x1b[30G\x1b[9999Z", " 0,0"},
		{1, 30, "\x1b[17G\x1b[Z", " 0,8"},
		{1, 30, "\x1b[18G\x1b[Z", " 0,16"},
		{1, 30, "\x1b[Z", " 0,0"},
		{1, 30, "\x1b[3g\x1b[2I", " 0,29"},
		{1, 30, "\x1b[3g\x1b[30G\x1b[2Z", " 0,0"},
		{1, 4, "abcd\x1b[I", "abcd 0,3"},
		{1, 4, "abcd\x1b[Z", "abcd 0,0"},
		// g
		{1, 30, "\x1b[9G\x1b[g\r\x1b[I", " 0,16"},
		{1, 30, "\x1b[9G\x1b[0g\r\x1b[I", " 0,16"},
		{1, 30, "\x1b[9G\x1b[;3g\r\x1b[I", " 0,16"},
		{1, 30, "\x1b[10G\x1b[g\r\x1b[I", " 0,8"},
		{1, 30, "\x1b[9G\x1b[1g\r\x1b[I", " 0,8"},
		{1, 30, "\x1b[9G\x1b[2g\r\x1b[I", " 0,8"},
		{1, 30, "\x1b[9G\x1b[4g\r\x1b[I", " 0,8"},
		{1, 30, "\x1b[9G\x1b[9999g\r\x1b[I", " 0,8"},
		{1, 30, "\x1b[3g\r\x1b[I", " 0,29"},
		{1, 30, "\x1b[3;0g\r\x1b[I", " 0,29"},
		{1, 30, "\x1b[9G\x1b[1;3g\r\x1b[2I", " 0,16"},
		{1, 4, "abcd\x1b[g", "abcd 0,3w"},
		{1, 4, "abcd\x1b[3g", "abcd 0,3w"},
	})
}

func TestMargins(t *testing.T) {
	for _, x := range []struct {
		numbers     string
		top, bottom int // -1: none
	}{
		{"", 0, 4},
		{"0;0", 0, 4},
		{";", 0, 4},
		{"1;5", 0, 4},
		{"2", 1, 4},
		{"2;0", 1, 4},
		{";2", 0, 1},
		{"0;2", 0, 1},
		{"2;3", 1, 2},
		{"2;3;4", 1, 2},
		{"4;5", 3, 4},
		{"4;6", 3, 4},
		{"4;9999", 3, 4},
		{"1;99999999999999999999", 0, 4},
		{"2;2", -1, 0},
		{"3;2", -1, 0},
		{"5", -1, 0},
		{"5;5", -1, 0},
		{"6;7", -1, 0},
		{"9999;9999", -1, 0},
		{";1", -1, 0},
		{"1;1", -1, 0},
	} {
		for _, origin := range []bool{false, true} {
			s := of(t, 5, 3, "\x1b[3;4r")
			if origin {
				s.Feed([]byte("\x1b[?6h"))
			}
			s.Feed([]byte("\x1b[3;1Habc\x1b[" + x.numbers + "r"))
			row, col := x.top, 0
			top, bottom := x.top, x.bottom
			if !origin {
				row = 0
			}
			if x.top < 0 {
				top, bottom, row, col = 2, 3, 2, 2
				if origin {
					row = 3
				}
			}
			a, at := s.Area(), s.at
			if a.Rows != 5 || a.Cols != 3 || a.Top != top || a.Bottom != bottom || a.Origin != origin {
				t.Errorf("%q: the area is %v, want %d to %d", x.numbers, a, top, bottom)
			}
			if at.Row != row || at.Col != col || at.Wait != (x.top < 0) {
				t.Errorf("%q, origin %v: the caret is %v, want %d, %d", x.numbers, origin, at, row, col)
			}
		}
	}
	checkShown(t, []shown{{1, 3, "abc\x1b[r", "abc 0,2w"}, {1, 3, "abc\x1b[1;1r", "abc 0,2w"}, {2, 3, "abc\x1b[1;2r", "abc/ 0,0"}})
}

func TestSaveAndRestoreBySequences(t *testing.T) {
	checkShown(t, []shown{
		{3, 4, "abcd\x1b[s", "abcd// 0,3w"},
		{3, 4, "abcd\x1b[s\x1b[H\x1b[u", "abcd// 0,3w"},
		{3, 4, "abcd\x1b[s\x1b[H\x1b8", "abcd// 0,3w"},
		{3, 4, "abcd\x1b7\x1b[H\x1b[u", "abcd// 0,3w"},
		{3, 4, "abcd\x1b[u", "abcd// 0,0"},
		{3, 4, "ab\x1b[2;3s\x1b[3;3H\x1b[5;6u", "ab// 0,2"},
		{3, 4, "ab\x1b[s\x1b[3;3H\x1b[s\x1b[H\x1b[u", "ab// 2,2"},
	})
	s := of(t, 3, 4, "\x1b[31m\x1b[?6h\x1b[s\x1b[m\x1b[?6l\x1b[u")
	if s.Pen() != (api.Pen{Fg: 2}) || !s.Area().Origin {
		t.Errorf("%v, %v", s.Pen(), s.Area())
	}
	s = of(t, 3, 4, "\x1b[31m\x1b[?6h\x1b[u")
	if s.Pen() != (api.Pen{}) || s.Area().Origin {
		t.Errorf("%v, %v", s.Pen(), s.Area())
	}
}

func TestInsertMode(t *testing.T) {
	for _, numbers := range []string{"4", "4;2", "2;4", ";4", "1;2;3;4;5", "4;4", ";;;;;;;;;;;;;;;4", "04"} {
		checkShown(t, []shown{
			{1, 5, "ab\r\x1b[" + numbers + "hx", "xab 0,1"},
			{1, 5, "ab\r\x1b[4h\x1b[" + numbers + "lx", "xb 0,1"},
			{1, 5, "ab\r\x1b[" + numbers + "lx", "xb 0,1"},
			{1, 3, "abc\x1b[" + numbers + "h", "abc 0,2w"},
			{1, 3, "abc\x1b[" + numbers + "l", "abc 0,2w"},
		})
	}
	for _, numbers := range []string{"", "0", "3", "5", "14", "40", "44", "7", "25;7;6", ";", "9999", ";;;;;;;;;;;;;;;;4", "1;2;3;4:"} {
		for _, before := range befores {
			unchanged(t, 4, 5, before, "\x1b["+numbers+"h")
			unchanged(t, 4, 5, before, "\x1b["+numbers+"l")
		}
		checkShown(t, []shown{
			{1, 5, "ab\r\x1b[" + numbers + "hx", "xb 0,1"},
			{1, 5, "ab\r\x1b[4h\x1b[" + numbers + "lx", "xab 0,1"},
		})
	}
}

func TestPen(t *testing.T) {
	full := api.Pen{Fg: 6, Bg: 7, Marks: api.Bold | api.Under}
	for _, x := range []struct {
		in     string
		params []int
	}{
		{"", nil},
		{"0", []int{0}},
		{";", []int{-1, -1}},
		{"1", []int{1}},
		{"22", []int{22}},
		{"1;31;42", []int{1, 31, 42}},
		{"38;5;200;7", []int{38, 5, 200, 7}},
		{"48;5;256;3", []int{48, 5, 256, 3}},
		{"38;2;1;2;3;9", []int{38, 2, 1, 2, 3, 9}},
		{"39;49;24", []int{39, 49, 24}},
		{"1;;3", []int{1, -1, 3}},
		{"9999", []int{9999}},
		{"2;3;4;5;7;9;90;100;1;1;1;1;1;1;1;31;32", []int{2, 3, 4, 5, 7, 9, 90, 100, 1, 1, 1, 1, 1, 1, 1, 31}},
	} {
		s := of(t, 2, 4, "\x1b[1;4;35;46mabcd\x1b["+x.in+"m")
		if want := pen.Apply(full, x.params); s.Pen() != want {
			t.Errorf("%q: %v, want %v", x.in, s.Pen(), want)
		}
		if show(s) != "abcd/ 0,3w" || backs(s) != "7777/0000" {
			t.Errorf("%q: %q, %q", x.in, show(s), backs(s))
		}
	}
	if s := of(t, 2, 4, "\x1b[1;31m"); s.Pen() != (api.Pen{Fg: 2, Marks: api.Bold}) {
		t.Errorf("%v", s.Pen())
	}
}

func TestPrintAgain(t *testing.T) {
	checkShown(t, []shown{
		{2, 3, "a\x1b[b", "aa/ 0,2"},
		{2, 3, "a\x1b[0b", "aa/ 0,2"},
		{2, 3, "a\x1b[;5b", "aa/ 0,2"},
		{2, 3, "a\x1b[1b", "aa/ 0,2"},
		{2, 3, "a\x1b[1;4b", "aa/ 0,2"},
		{2, 3, "a\x1b[2b", "aaa/ 0,2w"},
		{2, 3, "a\x1b[3b", "aaa/a 1,1"},
		{2, 3, "a\x1b[5b", "aaa/aaa 1,2w"},
		{2, 3, "a\x1b[6b", "aaa/a 1,1"},
		{2, 3, "a\x1b[7b", "aaa/a 1,1"},
		{2, 3, "a\x1b[9999b", "aaa/a 1,1"},
		{2, 3, "\x1b[?7la\x1b[9b", "aaa/ 0,2"},
		{1, 5, "bc\r\x1b[4ha\x1b[b", "aabc 0,2"},
		{2, 3, "\x1b[b", "/ 0,0"},
		{2, 3, "\x1b[3b", "/ 0,0"},
		{2, 3, "\n\x1b[9999b", "/ 1,0"},
		{2, 3, "a\x1b[b\x1b[b", "aaa/ 0,2w"},
	})
	// The most that is printed is as many as the board has cells, as the lines that go off tell.
	if s := of(t, 2, 3, "a\x1b[9999b"); offs(s) != "aaa" {
		t.Errorf("off %q", offs(s))
	}
	if s := of(t, 60, 132, "a\x1b[9999b"); s.Gone() != 1 || s.Image().Row != 59 || s.Image().Col != 1 {
		t.Errorf("%d lines went off, the caret is at %d, %d", s.Gone(), s.Image().Row, s.Image().Col)
	}
	// The pen is the current one.
	if got := backs(of(t, 1, 4, "a\x1b[42m\x1b[2b")); got != "0330" {
		t.Errorf("%q", got)
	}
}

func TestAnswers(t *testing.T) {
	for _, x := range []struct{ in, want string }{
		{"", ""},
		{"\x1b[c", "\x1b[?6c"},
		{"\x1b[0c", "\x1b[?6c"},
		{"\x1b[;1c", "\x1b[?6c"},
		{"\x1b[0;5;6c", "\x1b[?6c"},
		{"\x1b[1c", ""},
		{"\x1b[5c", ""},
		{"\x1b[6c", ""},
		{"\x1b[9999c", ""},
		{"\x1b[5n", "\x1b[0n"},
		{"\x1b[5;6n", "\x1b[0n"},
		{"\x1b[6n", "\x1b[1;1R"},
		{"\x1b[6;5n", "\x1b[1;1R"},
		{"\x1b[n", ""},
		{"\x1b[0n", ""},
		{"\x1b[1n", ""},
		{"\x1b[4n", ""},
		{"\x1b[7n", ""},
		{"\x1b[;5n", ""},
		{"\x1b[9999n", ""},
		{"\x1b[?6n", ""},
		{"\x1b[>c", ""},
		{"\x1b[ c", ""},
		{"\x1b[3;4H\x1b[6n", "\x1b[3;4R"},
		{"\x1b[6;12H\x1b[6n", "\x1b[6;12R"},
		{"\x1b[6;1Habcdefghijkl\x1b[6n", "\x1b[6;12R"},
		{"\x1b[2;4r\x1b[3;4H\x1b[6n", "\x1b[3;4R"},
		// with Origin: within the region, at its ends
		{"\x1b[2;4r\x1b[?6h\x1b[6n", "\x1b[1;1R"},
		{"\x1b[2;4r\x1b[?6h\x1b[2;4H\x1b[6n", "\x1b[2;4R"},
		{"\x1b[2;4r\x1b[?6h\x1b[9;4H\x1b[6n", "\x1b[3;4R"},
		// with Origin: far above it, in the row above it, and below it
		{"\x1b[?6h\x1b[1;4H\x1b7\x1b[3;5r\x1b8\x1b[6n", "\x1b[0;4R"},
		{"\x1b[?6h\x1b[2;4H\x1b7\x1b[3;5r\x1b8\x1b[6n", "\x1b[0;4R"},
		{"\x1b[?6h\x1b[3;4H\x1b7\x1b[3;5r\x1b8\x1b[6n", "\x1b[1;4R"},
		{"\x1b[?6h\x1b[6;4H\x1b7\x1b[3;5r\x1b8\x1b[6n", "\x1b[4;4R"},
		{"\x1b[6;4H\x1b7\x1b[3;5r\x1b8\x1b[6n", "\x1b[6;4R"},
		// several, in order
		{"\x1b[c\x1b[5n\x1b[2;3H\x1b[6n\x1b[c", "\x1b[?6c\x1b[0n\x1b[2;3R\x1b[?6c"},
	} {
		s := of(t, 6, 12, x.in)
		before := s.Image()
		if got := string(s.Answers()); got != x.want {
			t.Errorf("%q: %q, want %q", x.in, got, x.want)
		}
		if got := s.Answers(); len(got) != 0 {
			t.Errorf("%q: then %q", x.in, got)
		}
		if !sameImage(before, s.Image()) {
			t.Errorf("%q: Answers changed the image", x.in)
		}
	}
	checkShown(t, []shown{{1, 3, "abc\x1b[c\x1b[5n\x1b[6n\x1b[7n", "abc 0,2w"}})
	if got := string(of(t, 60, 132, "\x1b[60;132H\x1b[6n").Answers()); got != "\x1b[60;132R" {
		t.Errorf("%q", got)
	}
}

func TestPendingAnswers(t *testing.T) {
	four, five, six := "\x1b[5n", "\x1b[c", "\x1b[6n" // what they ask for has 4, 5 and 6 bytes
	for _, x := range []struct {
		in   string
		want int
	}{
		{strings.Repeat(four, 63), 252},
		{strings.Repeat(four, 64), 256},
		{strings.Repeat(four, 65), 256},
		{strings.Repeat(four, 200), 256},
		{strings.Repeat(four, 64) + five + six, 256},
		{strings.Repeat(four, 63) + five, 252},
		{strings.Repeat(four, 63) + six, 252},
		{strings.Repeat(four, 63) + five + four, 256},
		{strings.Repeat(four, 62) + five, 253},
		{strings.Repeat(four, 62) + five + four, 253},
		{strings.Repeat(five, 51), 255},
		{strings.Repeat(five, 52), 255},
		{strings.Repeat(five, 48) + four + four + four + four, 256},
		{strings.Repeat(five, 48) + four + four + four + five, 252},
		{strings.Repeat(six, 42) + four, 256},
		{strings.Repeat(six, 41) + five + five, 256},
		{strings.Repeat(six, 41) + five + six, 251},
		{strings.Repeat(six, 43), 252},
	} {
		s := of(t, 3, 9, x.in)
		if got := s.Answers(); len(got) != x.want {
			t.Errorf("%d bytes ask for answers of %d bytes, want %d", len(x.in), len(got), x.want)
		}
		// Then there is room again.
		s.Feed([]byte(four))
		if got := string(s.Answers()); got != "\x1b[0n" {
			t.Errorf("then %q", got)
		}
	}
	// An answer of 6 bytes is discarded, the next one of 4 is not.
	s := of(t, 3, 9, strings.Repeat(four, 63)+six+four)
	if got := string(s.Answers()); got != strings.Repeat("\x1b[0n", 64) {
		t.Errorf("%q", got)
	}
	// Those that were discarded do not come back.
	s = of(t, 3, 9, strings.Repeat(four, 100))
	s.Answers()
	if got := s.Answers(); len(got) != 0 {
		t.Errorf("%q", got)
	}
}

// P16.6

// letters fills 4 rows of 5 columns with different letters.
const letters = "abcdefghijklmnopqrst"

func TestErase(t *testing.T) {
	for _, x := range []struct{ place, in, rows, backs string }{
		// first position
		{"1;1", "J", "///", "33333/33333/33333/33333"},
		{"1;1", "1J", " bcde/fghij/klmno/pqrst", "30000/00000/00000/00000"},
		{"1;1", "2J", "///", "33333/33333/33333/33333"},
		{"1;1", "K", "/fghij/klmno/pqrst", "33333/00000/00000/00000"},
		{"1;1", "1K", " bcde/fghij/klmno/pqrst", "30000/00000/00000/00000"},
		{"1;1", "2K", "/fghij/klmno/pqrst", "33333/00000/00000/00000"},
		// a middle one
		{"2;3", "J", "abcde/fg//", "00000/00333/33333/33333"},
		{"2;3", "0J", "abcde/fg//", "00000/00333/33333/33333"},
		{"2;3", ";1J", "abcde/fg//", "00000/00333/33333/33333"},
		{"2;3", "1J", "/   ij/klmno/pqrst", "33333/33300/00000/00000"},
		{"2;3", "1;2J", "/   ij/klmno/pqrst", "33333/33300/00000/00000"},
		{"2;3", "2J", "///", "33333/33333/33333/33333"},
		{"2;3", "K", "abcde/fg/klmno/pqrst", "00000/00333/00000/00000"},
		{"2;3", "0K", "abcde/fg/klmno/pqrst", "00000/00333/00000/00000"},
		{"2;3", ";1K", "abcde/fg/klmno/pqrst", "00000/00333/00000/00000"},
		{"2;3", "1K", "abcde/   ij/klmno/pqrst", "00000/33300/00000/00000"},
		{"2;3", "1;2K", "abcde/   ij/klmno/pqrst", "00000/33300/00000/00000"},
		{"2;3", "2K", "abcde//klmno/pqrst", "00000/33333/00000/00000"},
		// last position
		{"4;5", "J", "abcde/fghij/klmno/pqrs", "00000/00000/00000/00003"},
		{"4;5", "1J", "///", "33333/33333/33333/33333"},
		{"4;5", "2J", "///", "33333/33333/33333/33333"},
		{"4;5", "K", "abcde/fghij/klmno/pqrs", "00000/00000/00000/00003"},
		{"4;5", "1K", "abcde/fghij/klmno/", "00000/00000/00000/33333"},
		{"4;5", "2K", "abcde/fghij/klmno/", "00000/00000/00000/33333"},
	} {
		in := letters + "\x1b[1;31;42m\x1b[" + x.place + "H\x1b[" + x.in
		s := of(t, 4, 5, in)
		at := strings.Split(x.place, ";")
		row, _ := strconv.Atoi(at[0])
		col, _ := strconv.Atoi(at[1])
		if rowsOf(s) != x.rows || backs(s) != x.backs || s.at.Row != row-1 || s.at.Col != col-1 || s.Gone() != 0 {
			t.Errorf("%q: %q, %q, %v, %d lines", in, rowsOf(s), backs(s), s.at, s.Gone())
		}
		// Blank has only the background of the pen.
		for _, c := range s.Image().Grid.Cells {
			if c.Pen != (api.Pen{}) && c != (api.Cell{Rune: 32, Pen: api.Pen{Bg: 3}}) {
				t.Errorf("%q: %v", in, c)
			}
		}
	}
	for _, before := range befores {
		for _, p := range []string{"4", "5", "10", "9999", "4;0", "99999999999999999999"} {
			unchanged(t, 4, 5, before, "\x1b["+p+"J")
			unchanged(t, 4, 5, before, "\x1b["+p+"K")
		}
		unchanged(t, 4, 5, before, "\x1b[3K")
	}
}

func TestEraseKeepsTheCaret(t *testing.T) {
	for _, in := range []string{"J", "1J", "2J", "3J", "9J", "K", "1K", "2K", "3K"} {
		s := of(t, 2, 3, "abc\x1b["+in)
		if s.at.Row != 0 || s.at.Col != 2 || !s.at.Wait {
			t.Errorf("%q: %v", in, s.at)
		}
	}
	checkShown(t, []shown{
		{2, 3, "abc\x1b[2Jx", "/x 1,1"},
		{2, 3, "abc\x1b[K", "ab/ 0,2w"},
		{2, 3, "abc\x1b[1K", "/ 0,2w"},
		{3, 2, "abcdef\x1b[2;3r\x1b[?6h\x1b[1J", "/ d/ef 1,0"},
		{3, 2, "abcdef\x1b[1;2r\x1b[J", "// 0,0"},
		{3, 2, "\x1b[?47h\x1b[Habcdef\x1b[2;1H\x1b[J", "ab// 1,0"},
	})
}

func TestClearScrollback(t *testing.T) {
	s := of(t, 2, 3, "a\r\nb\r\nc\r\nd\x1b[3J")
	if s.Gone() != 0 || len(s.Off(0)) != 0 || show(s) != "c/d 1,1" {
		t.Errorf("%d lines, %q", s.Gone(), show(s))
	}
	s.Feed([]byte("\n"))
	if offs(s) != "c" {
		t.Errorf("off %q", offs(s))
	}
	// So it is on the alternate board, and no other number does it.
	s = of(t, 2, 3, "a\r\nb\r\nc\r\nd\x1b[?47h\x1b[J\x1b[1J\x1b[2J\x1b[4J\x1b[3K")
	if offs(s) != "b/a" {
		t.Errorf("off %q", offs(s))
	}
	s.Feed([]byte("\x1b[3;1J\x1b[?47l"))
	if s.Gone() != 0 || rowsOf(s) != "c/d" {
		t.Errorf("off %q, %q", offs(s), rowsOf(s))
	}
}

func TestInsertAndDeleteRows(t *testing.T) {
	for _, n := range ones {
		checkShown(t, []shown{
			{4, 5, letters + "\x1b[2;3H\x1b[" + n + "L", "abcde//fghij/klmno 1,0"},
			{4, 5, letters + "\x1b[2;3H\x1b[" + n + "M", "abcde/klmno/pqrst/ 1,0"},
		})
	}
	for _, n := range far {
		checkShown(t, []shown{
			{4, 5, letters + "\x1b[2;3H\x1b[" + n + "L", "abcde/// 1,0"},
			{4, 5, letters + "\x1b[2;3H\x1b[" + n + "M", "abcde/// 1,0"},
		})
	}
	checkShown(t, []shown{
		{4, 5, letters + "\x1b[2;3H\x1b[2L", "abcde///fghij 1,0"},
		{4, 5, letters + "\x1b[2;3H\x1b[3L", "abcde/// 1,0"},
		{4, 5, letters + "\x1b[2;3H\x1b[2M", "abcde/pqrst// 1,0"},
		{4, 5, letters + "\x1b[2;3H\x1b[3M", "abcde/// 1,0"},
		{4, 5, letters + "\x1b[H\x1b[L", "/abcde/fghij/klmno 0,0"},
		{4, 5, letters + "\x1b[H\x1b[M", "fghij/klmno/pqrst/ 0,0"},
		{4, 5, letters + "\x1b[L", "abcde/fghij/klmno/ 3,0"},
		{4, 5, letters + "\x1b[M", "abcde/fghij/klmno/ 3,0"},
		// Wait is gone, if there is an effect.
		{4, 5, letters + "\x1b[2;5Hx\x1b[L", "abcde//fghix/klmno 1,0"},
		{4, 5, letters + "\x1b[2;5Hx\x1b[M", "abcde/klmno/pqrst/ 1,0"},
		// in the region: its first row, its last one
		{4, 5, letters + "\x1b[2;3r\x1b[2;3H\x1b[L", "abcde//fghij/pqrst 1,0"},
		{4, 5, letters + "\x1b[2;3r\x1b[2;3H\x1b[M", "abcde/klmno//pqrst 1,0"},
		{4, 5, letters + "\x1b[2;3r\x1b[3;3H\x1b[L", "abcde/fghij//pqrst 2,0"},
		{4, 5, letters + "\x1b[2;3r\x1b[3;3H\x1b[M", "abcde/fghij//pqrst 2,0"},
		{4, 5, letters + "\x1b[2;3r\x1b[2;3H\x1b[9L", "abcde///pqrst 1,0"},
		{4, 5, letters + "\x1b[2;3r\x1b[2;3H\x1b[9M", "abcde///pqrst 1,0"},
		// above it, below it
		{4, 5, letters + "\x1b[2;3r\x1b[1;3H\x1b[L", "abcde/fghij/klmno/pqrst 0,2"},
		{4, 5, letters + "\x1b[2;3r\x1b[1;3H\x1b[M", "abcde/fghij/klmno/pqrst 0,2"},
		{4, 5, letters + "\x1b[2;3r\x1b[4;3H\x1b[L", "abcde/fghij/klmno/pqrst 3,2"},
		{4, 5, letters + "\x1b[2;3r\x1b[4;3H\x1b[M", "abcde/fghij/klmno/pqrst 3,2"},
		{4, 5, letters + "\x1b[2;3r\x1b[1;5Hx\x1b[2L", "abcdx/fghij/klmno/pqrst 0,4w"},
		{4, 5, letters + "\x1b[2;3r\x1b[4;5Hx\x1b[2M", "abcde/fghij/klmno/pqrsx 3,4w"},
	})
	for _, x := range []struct{ in, backs string }{
		{"\x1b[2;2H\x1b[42;31;1m\x1b[L", "000/333/000"},
		{"\x1b[2;2H\x1b[42;31;1m\x1b[M", "000/000/333"},
		{"\x1b[42m\x1b[2L", "333/333/000"},
		{"\x1b[42m\x1b[2M", "000/333/333"},
		{"\x1b[42m\x1b[9M", "333/333/333"},
	} {
		s := of(t, 3, 3, x.in)
		if backs(s) != x.backs || s.Gone() != 0 {
			t.Errorf("%q: %q, want %q; %d lines went off", x.in, backs(s), x.backs, s.Gone())
		}
	}
}

func TestInsertDeleteAndFillInRow(t *testing.T) {
	at := letters + "\x1b[2;3H\x1b["
	for _, n := range ones {
		checkShown(t, []shown{
			{4, 5, at + n + "@", "abcde/fg hi/klmno/pqrst 1,2"},
			{4, 5, at + n + "P", "abcde/fgij/klmno/pqrst 1,2"},
			{4, 5, at + n + "X", "abcde/fg ij/klmno/pqrst 1,2"},
		})
	}
	for _, n := range append([]string{"3", "4", "5"}, far...) {
		for _, final := range "@PX" {
			checkShown(t, []shown{{4, 5, at + n + string(final), "abcde/fg/klmno/pqrst 1,2"}})
		}
	}
	checkShown(t, []shown{
		{4, 5, at + "2@", "abcde/fg  h/klmno/pqrst 1,2"},
		{4, 5, at + "2P", "abcde/fgj/klmno/pqrst 1,2"},
		{4, 5, at + "2X", "abcde/fg  j/klmno/pqrst 1,2"},
		// in the first and in the last column
		{1, 3, "abc\r\x1b[@", " ab 0,0"},
		{1, 3, "abc\r\x1b[P", "bc 0,0"},
		{1, 3, "abc\r\x1b[X", " bc 0,0"},
		{1, 3, "abc\r\x1b[3@", " 0,0"},
		{1, 3, "abc\r\x1b[3P", " 0,0"},
		{1, 3, "abc\r\x1b[3X", " 0,0"},
		{1, 3, "abc\x1b[3G\x1b[@", "ab 0,2"},
		{1, 3, "abc\x1b[3G\x1b[P", "ab 0,2"},
		{1, 3, "abc\x1b[3G\x1b[X", "ab 0,2"},
		// Wait stays.
		{1, 3, "abc\x1b[@", "ab 0,2w"},
		{1, 3, "abc\x1b[P", "ab 0,2w"},
		{1, 3, "abc\x1b[X", "ab 0,2w"},
		{1, 3, "abc\x1b[9@", "ab 0,2w"},
		{1, 3, "abc\x1b[9P", "ab 0,2w"},
		{1, 3, "abc\x1b[9X", "ab 0,2w"},
		// Margins do not matter.
		{3, 3, "abcdefghi\x1b[2;3r\x1b[1;2H\x1b[@", "a b/def/ghi 0,1"},
		{3, 3, "abcdefghi\x1b[2;3r\x1b[1;2H\x1b[P", "ac/def/ghi 0,1"},
		{3, 3, "abcdefghi\x1b[2;3r\x1b[1;2H\x1b[X", "a c/def/ghi 0,1"},
	})
	for _, x := range []struct{ in, backs string }{
		{"@", "0030/0000"},
		{"2@", "0033/0000"},
		{"9@", "0033/0000"},
		{"P", "0003/0000"},
		{"2P", "0033/0000"},
		{"9P", "0033/0000"},
		{"X", "0030/0000"},
		{"2X", "0033/0000"},
		{"9X", "0033/0000"},
	} {
		if got := backs(of(t, 2, 4, "\x1b[1;3H\x1b[42;31;1m\x1b["+x.in)); got != x.backs {
			t.Errorf("%q: %q, want %q", x.in, got, x.backs)
		}
	}
}

func TestScroll(t *testing.T) {
	at := letters + "\x1b[2;5Hx\x1b["
	for _, n := range ones {
		checkShown(t, []shown{
			{4, 5, at + n + "S", "fghix/klmno/pqrst/ 1,4w"},
			{4, 5, at + n + "T", "/abcde/fghix/klmno 1,4w"},
		})
	}
	for _, n := range append([]string{"4", "5"}, far...) {
		checkShown(t, []shown{
			{4, 5, at + n + "S", "/// 1,4w"},
			{4, 5, at + n + "T", "/// 1,4w"},
		})
		if s := of(t, 4, 5, at+n+"S"); offs(s) != "pqrst/klmno/fghix/abcde" {
			t.Errorf("%s S: off %q", n, offs(s))
		}
		if s := of(t, 4, 5, at+n+"T"); s.Gone() != 0 {
			t.Errorf("%s T: off %q", n, offs(s))
		}
	}
	checkShown(t, []shown{
		{4, 5, at + "2S", "klmno/pqrst// 1,4w"},
		{4, 5, at + "3S", "pqrst/// 1,4w"},
		{4, 5, at + "2T", "//abcde/fghix 1,4w"},
		{4, 5, at + "3T", "///abcde 1,4w"},
		{4, 5, letters + "\x1b[2;3r\x1b[4;2H\x1b[S", "abcde/klmno//pqrst 3,1"},
		{4, 5, letters + "\x1b[2;3r\x1b[4;2H\x1b[2S", "abcde///pqrst 3,1"},
		{4, 5, letters + "\x1b[2;3r\x1b[4;2H\x1b[T", "abcde//fghij/pqrst 3,1"},
		{4, 5, letters + "\x1b[2;3r\x1b[4;2H\x1b[2T", "abcde///pqrst 3,1"},
		{4, 5, letters + "\x1b[1;2r\x1b[4;2H\x1b[3T", "//klmno/pqrst 3,1"},
	})
	if got := backs(of(t, 3, 2, "\x1b[42;31;1m\x1b[T")); got != "33/00/00" {
		t.Errorf("T fills with %q", got)
	}
	if got := backs(of(t, 3, 2, "\x1b[42m\x1b[2;3r\x1b[9T")); got != "00/33/33" {
		t.Errorf("T fills with %q", got)
	}
}

func TestOtherSequences(t *testing.T) {
	r := rand.New(rand.NewSource(1))
	numbers := []string{"", "0", "1", "4", "6", "2;3"}
	for _, before := range befores {
		for b := 0x40; b <= 0x7e; b++ {
			if strings.ContainsRune("ABCDEFG`HfdIZsurghlmbcnJKLM@PXST", rune(b)) {
				continue
			}
			for _, n := range numbers {
				unchanged(t, 4, 5, before, "\x1b["+n+string(rune(b)))
			}
		}
		// No Inter: each byte has an effect with some number, but none with an Inter.
		for b := 0x40; b <= 0x7e; b++ {
			for inter := 0x20; inter < 0x30; inter++ {
				if inter != '!' || b != 'p' {
					unchanged(t, 4, 5, before, "\x1b["+numbers[r.Intn(len(numbers))]+string(rune(inter))+string(rune(b)))
				}
			}
		}
	}
}
