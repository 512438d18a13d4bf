package screen

import (
	"bytes"
	"math"
	"slices"
	"strconv"
	"strings"
	"testing"

	"baton/api"
	"baton/caret"
)

// P16.7

func TestOriginMode(t *testing.T) {
	for _, x := range []struct {
		in, want string
		origin   bool
	}{
		{"ab\x1b[?6h", "ab/// 0,0", true},
		{"ab\x1b[?6l", "ab/// 0,0", false},
		{"\x1b[2;3r\x1b[1;2Ha\x1b[?6h", " a/// 1,0", true},
		{"\x1b[2;3r\x1b[?6h\x1b[?6l", "/// 0,0", false},
		{"\x1b[2;3r\x1b[?6h\x1b[9;9H", "/// 2,4", true},
		{"\x1b[2;3r\x1b[?6h\x1b[?6l\x1b[9;9H", "/// 3,4", false},
		{"abcde\x1b[?6h", "abcde/// 0,0", true},
		{"abcde\x1b[?6l", "abcde/// 0,0", false},
		{"\x1b[?6;6h", "/// 0,0", true},
	} {
		s := of(t, 4, 5, x.in)
		if show(s) != x.want || s.Area().Origin != x.origin {
			t.Errorf("%q: %q, %v", x.in, show(s), s.Area())
		}
	}
}

func TestWrapMode(t *testing.T) {
	checkShown(t, []shown{
		{2, 3, "\x1b[?7labcd", "abd/ 0,2"},
		{2, 3, "\x1b[?7l\x1b[?7habcd", "abc/d 1,1"},
		{2, 3, "\x1b[?7habcd", "abc/d 1,1"},
		{2, 3, "abc\x1b[?7h", "abc/ 0,2"},
		{2, 3, "abc\x1b[?7l", "abc/ 0,2"},
		{2, 3, "abc\x1b[?7hd", "abd/ 0,2w"},
		{2, 3, "abc\x1b[?7ld", "abd/ 0,2"},
		{2, 3, "a\x1b[?7l", "a/ 0,1"},
	})
}

func TestHiddenCaret(t *testing.T) {
	for _, x := range []struct {
		in     string
		hidden bool
	}{
		{"", false},
		{"\x1b[?25l", true},
		{"\x1b[?25h", false},
		{"\x1b[?25l\x1b[?25h", false},
		{"\x1b[?25h\x1b[?25l", true},
		{"\x1b[?25;25l", true},
		{"\x1b[25l", false},
		{"\x1b[?25l\x1b[25h", true},
		{"\x1b[?25l\x1b7\x1b[?25h\x1b8", false},
		{"\x1b[?25l\x1b[?1049h", true},
		{"\x1b[?1049h\x1b[?25l\x1b[?1049l", true},
		{"\x1b[?25l\x1b[!p", false},
		{"\x1b[?25l\x1bc", false},
	} {
		if got := of(t, 2, 3, x.in).Image().Hidden; got != x.hidden {
			t.Errorf("%q: %v", x.in, got)
		}
	}
	checkShown(t, []shown{{2, 3, "abc\x1b[?25l", "abc/ 0,2w"}, {2, 3, "abc\x1b[?25h", "abc/ 0,2w"}})
}

func TestSeveralModes(t *testing.T) {
	for _, x := range []struct {
		in, want           string
		origin, hidden, on bool
	}{
		{"\x1b[?6;25;7labc", "abc// 0,2", false, true, false},
		{"\x1b[?25;7;6labcd", "abd// 0,2", false, true, false},
		{"\x1b[?7l\x1b[?6;7habcd", "abc/d/ 1,1", true, false, false},
		{"\x1b[?7l\x1b[?7;6habcd", "abc/d/ 1,1", true, false, false},
		{"\x1b[?;25;9999l", "// 0,0", false, true, false},
		{"\x1b[?1;4;25l", "// 0,0", false, true, false},
		// The area of the alternate board has no Origin; a later number sets it.
		{"ab\x1b[?6;47h", "// 0,0", false, false, true},
		{"ab\x1b[?47;6h", "// 0,0", true, false, true},
		// What 1049 saves is the caret ahead of 6 or behind it.
		{"ab\x1b[?1049;6h\x1b[?1049l", "ab// 0,2", false, false, false},
		{"ab\x1b[?6;1049h\x1b[3;3H\x1b[?1049l", "ab// 0,0", true, false, false},
		{"ab\x1b[?1049h\x1b[?6;1049l", "ab// 0,2", false, false, false},
		{"ab\x1b[?1049h\x1b[?1049;6l", "ab// 0,0", false, false, false},
		// The second one finds the board switched already.
		{"ab\x1b[?47;1049h\x1b[?1049l", "ab// 0,0", false, false, false},
		{"ab\x1b[?1049;47h\x1b[2;2H\x1b[?1049l", "ab// 0,2", false, false, false},
		{"ab\x1b[?1049h\x1b[?1047;1049lc", "abc// 0,2w", false, false, false},
		// 7 drops Wait ahead of a save, and behind it.
		{"abc\x1b[?7;1049h\x1b[?1049l", "abc// 0,2", false, false, false},
		{"abc\x1b[?1049;7h\x1b[?1049l", "abc// 0,2w", false, false, false},
		// Sixteen numbers count.
		{"\x1b[?;;;;;;;;;;;;;;;25l", "// 0,0", false, true, false},
		{"\x1b[?;;;;;;;;;;;;;;;;25l", "// 0,0", false, false, false},
	} {
		s := of(t, 3, 3, x.in)
		if show(s) != x.want || s.Area().Origin != x.origin || s.Image().Hidden != x.hidden || s.Alt() != x.on {
			t.Errorf("%q: %q, %v, hidden %v, alternate %v", x.in, show(s), s.Area(), s.Image().Hidden, s.Alt())
		}
	}
}

func TestOtherModes(t *testing.T) {
	for _, before := range befores {
		for _, final := range "hl" {
			for _, n := range []string{"", "0", "1", "2", "3", "4", "5", "8", "9", "12", "24", "26", "46", "48", "66", "67", "77", "1046", "1048", "1050", "2004", "9999", ";", "4;1048"} {
				unchanged(t, 4, 5, before, "\x1b[?"+n+string(final))
			}
			for _, n := range []string{"6", "7", "25", "47", "1047", "1049", "4", "6;7;25;47"} {
				for _, mark := range "<=>" {
					unchanged(t, 4, 5, before, "\x1b["+string(mark)+n+string(final))
				}
				for _, inter := range " !\"$'/" {
					unchanged(t, 4, 5, before, "\x1b[?"+n+string(inter)+string(final))
					unchanged(t, 4, 5, before, "\x1b["+n+string(inter)+string(final))
				}
				if !strings.Contains(n, "4") || len(n) > 1 {
					unchanged(t, 4, 5, before, "\x1b["+n+string(final))
				}
			}
		}
		for b := 0x40; b <= 0x7e; b++ {
			for _, n := range []string{"", "4", "6", "25", "1049"} {
				for _, mark := range "<=>?" {
					if mark == '?' && (b == 'h' || b == 'l') {
						continue
					}
					unchanged(t, 4, 5, before, "\x1b["+string(mark)+n+string(rune(b)))
				}
			}
		}
		for _, in := range []string{"\x1b[?!p", "\x1b[>!p", "\x1b[=!p", "\x1b[<!p", "\x1b[ p", "\x1b[p", "\x1b[\"p", "\x1b[!!p", "\x1b[!q", "\x1b[!o", "\x1b[?p"} {
			unchanged(t, 4, 5, before, in)
		}
	}
}

func TestSoftReset(t *testing.T) {
	all := "a\r\nb\r\nc\r\nd\a\x1b[c\x1b]2;title\x07\x1b[4h\x1b[?25l\x1b[?7l\x1b[2;3r\x1b[?6h\x1b[1;31;42mxy\x1b7\x1b[2;4H"
	for _, reset := range []string{"\x1b[!p", "\x1b[0!p", "\x1b[1;2;3!p", "\x1b[!\x07p"} {
		s := of(t, 3, 5, all)
		before := s.Image()
		s.Feed([]byte(reset))
		x := s.Image()
		before.Hidden = false
		before.Bells = x.Bells
		if !sameImage(x, before) || x.Row != 2 || x.Col != 3 || x.Title != "title" {
			t.Errorf("%q: the image is\n%s, it was\n%s", reset, tell(x), tell(before))
		}
		if s.Pen() != (api.Pen{}) || s.Area() != (caret.Area{Rows: 3, Cols: 5, Bottom: 2}) {
			t.Errorf("%q: %v, %v", reset, s.Pen(), s.Area())
		}
		if offs(s) != "a" || string(s.Answers()) != "\x1b[?6c" {
			t.Errorf("%q: off %q", reset, offs(s))
		}
	}
	checkShown(t, []shown{
		// Wrapping is on, insert mode off, the last rune and the tab stops stay.
		{2, 3, "\x1b[?7l\x1b[!pabcd", "abc/d 1,1"},
		{2, 3, "ab\r\x1b[4h\x1b[!px", "xb/ 0,1"},
		{2, 5, "a\x1b[!p\x1b[b", "aa/ 0,2"},
		{1, 20, "\x1b[3g\x1b[!p\t", " 0,19"},
		// Wait is gone.
		{2, 3, "abc\x1b[!p", "abc/ 0,2"},
		{2, 3, "abc\x1b[!pd", "abd/ 0,2w"},
		// Nothing is saved on this board,
		{3, 3, "ab\x1b7\x1b[3;3H\x1b[!p\x1b8", "ab// 0,0"},
		{3, 3, "\x1b[?47h\x1b[2;2H\x1b7\x1b[!p\x1b8", "// 0,0"},
		// but on the other one.
		{3, 3, "ab\x1b7\x1b[?47h\x1b[3;3H\x1b[!p\x1b[?47l\x1b8", "ab// 0,2"},
		{3, 3, "ab\x1b[?1049h\x1b[3;3H\x1b[!p\x1b[?1049l", "ab// 0,2"},
		{3, 3, "\x1b[?47h\x1b[2;2H\x1b7\x1b[?47l\x1b[!p\x1b[?47h\x1b8", "// 1,1"},
	})
	if s := of(t, 2, 3, "\x1b[?47ha\x1b[!p"); !s.Alt() {
		t.Error("a soft reset leaves the alternate board")
	}
}

// P16.8

func TestSaveAndRestore(t *testing.T) {
	checkShown(t, []shown{
		{3, 4, "ab\x1b7\x1b[3;3H\x1b8", "ab// 0,2"},
		{3, 4, "ab\x1b7\x1b[3;3H\x1b8\x1b[2;2H\x1b8", "ab// 0,2"},
		{3, 4, "ab\x1b7\x1b[3;3H\x1b7\x1b[H\x1b8", "ab// 2,2"},
		{3, 4, "\x1b[3;3H\x1b8", "// 0,0"},
		{3, 4, "abcd\x1b7\x1b[H\x1b8", "abcd// 0,3w"},
		{3, 4, "abcd\x1b7\x1b[H\x1b8e", "abcd/e/ 1,1"},
		{3, 4, "abc\x1b7d\x1b8", "abcd// 0,3"},
		// Each board has its own.
		{3, 4, "ab\x1b7\x1b[?47h\x1b[3;3H\x1b8", "// 0,0"},
		{3, 4, "ab\x1b7\x1b[?47h\x1b[3;3H\x1b7\x1b[?47l\x1b[H\x1b8", "ab// 0,2"},
		{3, 4, "\x1b[?47h\x1b[3;3H\x1b7\x1b[H\x1b8", "// 2,2"},
		// What was saved for the alternate board stays when it is left and entered again.
		{3, 4, "\x1b[?47h\x1b[3;3H\x1b7\x1b[?47l\x1b[H\x1b8", "// 0,0"},
		{3, 4, "\x1b[?47h\x1b[3;3H\x1b7\x1b[?47l\x1b[H\x1b[?47h\x1b8", "// 2,2"},
		{3, 4, "\x1b[?1049h\x1b[3;3H\x1b7\x1b[?1049l\x1b[?1049h\x1b[H\x1b8", "// 2,2"},
		{3, 4, "\x1b[?47h\x1b[3;3H\x1b7\x1bc\x1b[?47h\x1b8", "// 0,0"},
		// A restored caret above the region stays there.
		{4, 4, "\x1b[1;2H\x1b7\x1b[2;3r\x1b[?6h\x1b8", "/// 0,1"},
	})
	// The pen and Origin belong to it.
	for _, x := range []struct {
		in     string
		pen    api.Pen
		origin bool
	}{
		{"\x1b[31m\x1b[?6h\x1b7\x1b[42m\x1b[?6l\x1b8", api.Pen{Fg: 2}, true},
		{"\x1b[31m\x1b7\x1b[42m\x1b[?6h\x1b8", api.Pen{Fg: 2}, false},
		{"\x1b[31m\x1b[?6h\x1b8", api.Pen{}, false},
		{"\x1b[31m\x1b[?6h\x1b7\x1b[?47h\x1b[32m\x1b[?6h\x1b8", api.Pen{}, false},
		{"\x1b[31m\x1b[?6h\x1b7\x1b[?47h\x1b[32m\x1b7\x1b[?47l\x1b8", api.Pen{Fg: 2}, true},
		{"\x1b[?47h\x1b[32m\x1b[?6h\x1b7\x1b[?47l\x1b[m\x1b[?47h\x1b8", api.Pen{Fg: 3}, true},
		{"\x1b[31m\x1b[?6h\x1b[?1049h\x1b[m\x1b[?1049l", api.Pen{Fg: 2}, true},
	} {
		s := of(t, 4, 5, x.in)
		if s.Pen() != x.pen || s.Area().Origin != x.origin {
			t.Errorf("%q: %v, %v; want %v, %v", x.in, s.Pen(), s.Area(), x.pen, x.origin)
		}
	}
	// Margins, wrapping, insert mode and whether the caret is hidden do not.
	s := of(t, 4, 5, "\x1b7\x1b[2;3r\x1b[?7l\x1b[4h\x1b[?25l\x1b8abcde\x1b[3D!!!!")
	if a := s.Area(); a.Top != 1 || a.Bottom != 2 || !s.Image().Hidden || show(s) != "a!!!!/// 0,4" {
		t.Errorf("%v, %q", a, show(s))
	}
}

func TestRestoreBehindAResize(t *testing.T) {
	for _, x := range []struct {
		in         string
		rows, cols int
		want       string
	}{
		{"\x1b[4;5H\x1b7\x1b[H", 2, 3, "/ 1,2"},
		{"\x1b[4;5H\x1b7\x1b[H", 6, 7, "///// 3,4"},
		{"\x1b[4;5H\x1b7\x1b[H", 2, 7, "/ 1,4"},
		{"\x1b[4;5H\x1b7\x1b[H", 6, 3, "///// 3,2"},
		// A caret that waited in the last column does so only if that is the last one still.
		{"abcde\x1b7\x1b[H", 4, 6, "abcde/// 0,4"},
		{"abcde\x1b7\x1b[H", 4, 3, "abc/// 0,2"},
		{"abcde\x1b7\x1b[H", 2, 5, "abcde/ 0,4w"},
		{"\x1b[4;1Habcde\x1b7\x1b[H", 2, 5, "/ 1,4w"},
		{"\x1b[?47habcde\x1b7\x1b[H", 2, 5, "abcde/ 0,4w"},
	} {
		s := of(t, 4, 5, x.in)
		if e := s.Resize(x.rows, x.cols); e != api.OK {
			t.Fatal(e)
		}
		s.Feed([]byte("\x1b8"))
		if show(s) != x.want {
			t.Errorf("%q, %d x %d: %q, want %q", x.in, x.rows, x.cols, show(s), x.want)
		}
	}
	// What is saved is itself not changed by a resize.
	s := of(t, 4, 5, "\x1b[4;5H\x1b7")
	s.Resize(1, 1)
	s.Feed([]byte("\x1b8"))
	s.Resize(6, 7)
	s.Feed([]byte("\x1b8"))
	if show(s) != "///// 3,4" {
		t.Errorf("%q", show(s))
	}
}

func TestSwitch(t *testing.T) {
	start := "abcde\r\nf\x1b[31;42m\x1b[2;3r\x1b[?6h\x1b[2;4Hz"
	for _, x := range []struct{ in, want string }{
		{start, "abcde/f/   z/ 2,4"},
		{start + "\x1b[?47h", "/// 2,4"},
		{start + "\x1b[?1047h", "/// 2,4"},
		{start + "\x1b[?1049h", "/// 2,4"},
		{start + "\x1b[?47hx\x1b[?47h", "//    x/ 2,4w"},
		{start + "\x1b[?47h\x1b[Hx\x1b[?47h", "x/// 0,1"},
		{start + "\x1b[?1047h\x1b[Hx\x1b[?1047h", "x/// 0,1"},
		{start + "\x1b[?1049h\x1b[Hx\x1b[?1049h", "x/// 0,1"},
		{start + "\x1b[?47h\x1b[Hx\x1b[?1049h", "x/// 0,1"},
		{start + "\x1b[?47h\x1b[Hx\x1b[?47l", "abcde/f/   z/ 0,1"},
		{start + "\x1b[?1047h\x1b[Hx\x1b[?1047l", "abcde/f/   z/ 0,1"},
		{start + "\x1b[?1049h\x1b[Hx\x1b[?1049l", "abcde/f/   z/ 2,4"},
		{start + "\x1b[?1049h\x1b[Hx\x1b[?47l", "abcde/f/   z/ 0,1"},
		{start + "\x1b[?47h\x1b[Hx\x1b[?1049l", "abcde/f/   z/ 0,0"},
		// A new board each time.
		{start + "\x1b[?47h\x1b[Hx\x1b[?47l\x1b[?47h", "/// 0,1"},
		// The main board is current.
		{"ab\x1b[?47l", "ab/// 0,2"},
		{"ab\x1b[?1047l", "ab/// 0,2"},
		{"ab\x1b[?1049l", "ab/// 0,2"},
		{"ab\x1b7\x1b[3;3H\x1b[?1049l", "ab/// 2,2"},
		{"abcde\x1b[?47l", "abcde/// 0,4w"},
		{"abcde\x1b[?1049l", "abcde/// 0,4w"},
		// Wait is gone.
		{"abcde\x1b[?47h", "/// 0,4"},
		{"abcde\x1b[?1047h", "/// 0,4"},
		{"abcde\x1b[?1049h", "/// 0,4"},
		{"\x1b[?47habcde\x1b[?47l", "/// 0,4"},
		{"\x1b[?47habcde\x1b[?1047l", "/// 0,4"},
		// A restore brings it back.
		{"abcde\x1b[?1049h\x1b[?1049l", "abcde/// 0,4w"},
		// Switching to the board that is current saves and restores nothing.
		{"ab\x1b[?1049h\x1b[3;3H\x1b[?1049h\x1b[2;2H\x1b[?1049l", "ab/// 0,2"},
		{"\x1b[?47h\x1b[3;3H\x1b[?1049h\x1b[H\x1b8", "/// 0,0"},
		{"\x1b[?47habcde\x1b[?1049h", "abcde/// 0,4w"},
	} {
		if got := show(of(t, 4, 5, x.in)); got != x.want {
			t.Errorf("%q: %q, want %q", x.in, got, x.want)
		}
	}
}

func TestSwitchOfAreaAndPen(t *testing.T) {
	whole := caret.Area{Rows: 4, Cols: 5, Bottom: 3}
	start := "\x1b[31;42m\x1b[2;3r\x1b[?6h\x1b[4h\x1b[?7l\x1b[?25l"
	for _, x := range []struct {
		in   string
		area caret.Area
		pen  api.Pen
		alt  bool
	}{
		{start, caret.Area{Rows: 4, Cols: 5, Top: 1, Bottom: 2, Origin: true}, api.Pen{Fg: 2, Bg: 3}, false},
		{start + "\x1b[?47h", whole, api.Pen{Fg: 2, Bg: 3}, true},
		{start + "\x1b[?1047h", whole, api.Pen{Fg: 2, Bg: 3}, true},
		{start + "\x1b[?1049h", whole, api.Pen{Fg: 2, Bg: 3}, true},
		{start + "\x1b[?47h\x1b[m\x1b[1;2r\x1b[?6h\x1b[?47h", caret.Area{Rows: 4, Cols: 5, Bottom: 1, Origin: true}, api.Pen{}, true},
		{start + "\x1b[?47h\x1b[m\x1b[1;2r\x1b[?6h\x1b[?1049h", caret.Area{Rows: 4, Cols: 5, Bottom: 1, Origin: true}, api.Pen{}, true},
		{start + "\x1b[?47h\x1b[m\x1b[1;2r\x1b[?6h\x1b[?47l", whole, api.Pen{}, false},
		{start + "\x1b[?1047h\x1b[m\x1b[1;2r\x1b[?6h\x1b[?1047l", whole, api.Pen{}, false},
		// A restore comes last, so Origin is as it was saved, and the region all rows.
		{start + "\x1b[?1049h\x1b[m\x1b[1;2r\x1b[?1049l", caret.Area{Rows: 4, Cols: 5, Bottom: 3, Origin: true}, api.Pen{Fg: 2, Bg: 3}, false},
		{start + "\x1b[?47h\x1b[?1049l", whole, api.Pen{}, false},
		{start + "\x1b[?47l", caret.Area{Rows: 4, Cols: 5, Top: 1, Bottom: 2, Origin: true}, api.Pen{Fg: 2, Bg: 3}, false},
		{start + "\x1b[?1049l", caret.Area{Rows: 4, Cols: 5, Top: 1, Bottom: 2, Origin: true}, api.Pen{Fg: 2, Bg: 3}, false},
	} {
		s := of(t, 4, 5, x.in)
		if s.Area() != x.area || s.Pen() != x.pen || s.Alt() != x.alt || !s.Image().Hidden {
			t.Errorf("%q: %v, %v, alternate %v, hidden %v", x.in, s.Area(), s.Pen(), s.Alt(), s.Image().Hidden)
		}
		// Wrapping is off and insert mode on, whatever the board.
		s.Feed([]byte("\x1b[?6l\x1b[2J\x1b[Habcdefg\rx"))
		if got := show(s); got != "xabcd/// 0,1" {
			t.Errorf("%q: then %q", x.in, got)
		}
	}
	// The new board has blanks of the zero pen.
	if got := backs(of(t, 2, 3, "\x1b[42m\x1b[?1049h")); got != "000/000" {
		t.Errorf("%q", got)
	}
	// The title, the tab stops and the scrollback belong to no board.
	s := of(t, 2, 20, "a\r\nb\r\nc\x1b]2;t\x07\x1b[3g\x1b[?47h\n\n\n")
	if s.Image().Title != "t" || offs(s) != "a" || !slices.Equal(stopsOf(s), []int{19}) {
		t.Errorf("%q, off %q", s.Image().Title, offs(s))
	}
}

func TestTitle(t *testing.T) {
	longest := strings.Repeat("x", 64)
	for _, x := range []struct{ in, want string }{
		{"0;new", "new"},
		{"2;new", "new"},
		{"2;", ""},
		{"0;", ""},
		{"2;a;b", "a;b"},
		{"2;;", ";"},
		{"2;2;x", "2;x"},
		{"0;" + longest, longest},
		{"2;" + longest, longest},
		{"2;" + longest[:63], longest[:63]},
		{"2;" + longest[:62] + "é", longest[:62] + "é"},
		{"2;é€\U0001f600", "é€\U0001f600"},
		{"2; \u00a0\u0080", " \u00a0\u0080"},
		// what has no effect
		{"2;" + longest + "x", "old"},
		{"0;" + longest + "x", "old"},
		{"2;" + longest[:63] + "é", "old"},
		{"2;" + strings.Repeat("x", 254), "old"},
		{"2;" + strings.Repeat("x", 255), "old"},
		{"2;" + strings.Repeat("x", 1000), "old"},
		{"2;\xff", "old"},
		{"2;a\xc3", "old"},
		{"2;\xe2\x82x", "old"},
		{"2;\xc0\x80", "old"},
		{"2;\xed\xa0\x80", "old"},
		{"2;\xf4\x90\x80\x80", "old"},
		{"", "old"},
		{"0", "old"},
		{"2", "old"},
		{"new", "old"},
		{";new", "old"},
		{"1;new", "old"},
		{"3;new", "old"},
		{"02;new", "old"},
		{"20;new", "old"},
		{"22;new", "old"},
		{"-2;new", "old"},
		{" 2;new", "old"},
		{"2 ;new", "old"},
		{"2:new", "old"},
		{"52;c;x", "old"},
	} {
		for _, end := range []string{"\x07", "\x1b\\", "\x1b[m"} {
			s := of(t, 2, 3, "abc\x1b]2;old\x07\x1b]"+x.in+end)
			if got := s.Image().Title; got != x.want || show(s) != "abc/ 0,2w" || s.Image().Bells != 0 {
				t.Errorf("%q: %q, %q", x.in+end, got, show(s))
			}
		}
	}
	// Strings that are aborted, ignored or open yet are no titles.
	for _, in := range []string{"\x1b]2;new", "\x1b]2;new\x18", "\x1b]2;new\x1a", "\x1bP2;new\x1b\\", "\x1bX2;new\x1b\\", "\x1b^2;new\x1b\\", "\x1b_2;new\x07\x1b\\", "\x1b2;new\x07"} {
		if got := of(t, 2, 3, "\x1b]2;old\x07"+in).Image().Title; got != "old" {
			t.Errorf("%q: %q", in, got)
		}
	}
	if got := of(t, 2, 3, "").Image().Title; got != "" {
		t.Errorf("a new screen has the title %q", got)
	}
}

// P16.9

func TestOff(t *testing.T) {
	s := of(t, 2, 3, "a\r\nb\r\nc\r\n\r\nd")
	if s.Gone() != 3 || offs(s) != "c/b/a" {
		t.Errorf("%d lines, %q", s.Gone(), offs(s))
	}
	for _, n := range []int{3, 4, 99, 100, 101, -1, -2, -3, math.MaxInt, math.MinInt} {
		if got := s.Off(n); len(got) != 0 {
			t.Errorf("Off(%d): %v", n, got)
		}
	}
	if got := s.Off(2); !slices.Equal(got, []api.Cell{{Rune: 'a'}}) {
		t.Errorf("Off(2): %v", got)
	}
}

func TestImage(t *testing.T) {
	s := of(t, 2, 3, "a\x1b[31mb\x1b]0;t\x07\a\a\x1b[?25l\n")
	want := api.Image{
		Grid:   api.Grid{Rows: 2, Cols: 3, Cells: []api.Cell{{Rune: 'a'}, {Rune: 'b', Pen: api.Pen{Fg: 2}}, {Rune: 32}, {Rune: 32}, {Rune: 32}, {Rune: 32}}},
		Row:    1,
		Col:    2,
		Hidden: true,
		Title:  "t",
		Bells:  2,
	}
	if !sameImage(s.Image(), want) {
		t.Errorf("the image is\n%s", tell(s.Image()))
	}
	// The image of a screen that shows the alternate board.
	s.Feed([]byte("\x1b[?47hx"))
	if got := show(s); got != "/  x 1,2w" {
		t.Errorf("%q", got)
	}
}

func TestResize(t *testing.T) {
	for _, x := range []struct {
		in         string
		rows, cols int
		want       string
	}{
		{letters + "\x1b[2;2H", 3, 5, "abcde/fghij/klmno 1,1"},
		{letters + "\x1b[2;2H", 5, 5, "abcde/fghij/klmno/pqrst/ 1,1"},
		{letters + "\x1b[2;2H", 4, 4, "abcd/fghi/klmn/pqrs 1,1"},
		{letters + "\x1b[2;2H", 4, 6, "abcde/fghij/klmno/pqrst 1,1"},
		{letters + "\x1b[2;2H", 2, 2, "ab/fg 1,1"},
		{letters + "\x1b[2;2H", 2, 7, "abcde/fghij 1,1"},
		{letters + "\x1b[2;2H", 5, 3, "abc/fgh/klm/pqr/ 1,1"},
		{letters + "\x1b[2;2H", 1, 1, "a 0,0"},
		{letters + "\x1b[2;2H", 6, 6, "abcde/fghij/klmno/pqrst// 1,1"},
		{letters + "\x1b[4;4H", 2, 9, "abcde/fghij 1,3"},
		{letters + "\x1b[4;4H", 9, 2, "ab/fg/kl/pq///// 3,1"},
		{letters + "\x1b[4;4H", 3, 3, "abc/fgh/klm 2,2"},
		{letters + "\x1b[4;4H", 4, 4, "abcd/fghi/klmn/pqrs 3,3"},
		// Wait
		{letters, 5, 5, "abcde/fghij/klmno/pqrst/ 3,4w"},
		{letters, 3, 5, "abcde/fghij/klmno 2,4w"},
		{letters, 4, 6, "abcde/fghij/klmno/pqrst 3,4"},
		{letters, 4, 4, "abcd/fghi/klmn/pqrs 3,3"},
		{letters, 4, 5, "abcde/fghij/klmno/pqrst 3,4w"},
		// the alternate board, and the main one below it
		{"\x1b[?47h\x1b[H" + letters + "\x1b[2;2H", 3, 3, "abc/fgh/klm 1,1"},
		{"\x1b[?47h\x1b[H" + letters, 5, 5, "abcde/fghij/klmno/pqrst/ 3,4w"},
		{"\x1b[?47h\x1b[H" + letters, 6, 6, "abcde/fghij/klmno/pqrst// 3,4"},
	} {
		s := of(t, 4, 5, x.in)
		if e := s.Resize(x.rows, x.cols); e != api.OK || show(s) != x.want {
			t.Errorf("%q, %d x %d: %d, %q, want %q", x.in, x.rows, x.cols, e, show(s), x.want)
		}
	}
}

func TestResizeOfBothBoards(t *testing.T) {
	s := of(t, 2, 3, "abcdef\x1b[?1049h\x1b[Hxy")
	s.Resize(3, 2)
	if got := show(s); got != "xy// 0,1" {
		t.Errorf("%q", got)
	}
	s.Feed([]byte("\x1b[3;2Hz\x1b[?1049l"))
	if got := show(s); got != "ab/de/ 1,1" {
		t.Errorf("%q", got)
	}
	s.Resize(2, 4)
	if got := show(s); got != "ab/de 1,1" {
		t.Errorf("%q", got)
	}
	s.Feed([]byte("\x1b[?47h\x1b[2;4Hw"))
	if got := show(s); got != "/   w 1,3w" {
		t.Errorf("%q", got)
	}
}

func TestResizeOfTheArea(t *testing.T) {
	for _, origin := range []bool{false, true} {
		for _, alt := range []string{"", "\x1b[?47h"} {
			in := alt + "\x1b[2;3r\x1b[4h\x1b[31m"
			if origin {
				in += "\x1b[?6h"
			}
			s := of(t, 4, 5, in)
			for _, x := range [][2]int{{4, 6}, {5, 6}, {5, 4}, {3, 4}, {1, 1}, {60, 132}} {
				s.Feed([]byte("\x1b[1;2r"))
				if s.Resize(x[0], x[1]) != api.OK || s.Area() != (caret.Area{Rows: x[0], Cols: x[1], Bottom: x[0] - 1, Origin: origin}) {
					t.Errorf("%q, %v: %v", in, x, s.Area())
				}
				if s.Pen() != (api.Pen{Fg: 2}) || s.Alt() != (alt != "") {
					t.Errorf("%q, %v: %v, %v", in, x, s.Pen(), s.Alt())
				}
			}
		}
	}
	// The scrollback and the rest stay; cells that are new are Blank of the zero pen, whatever the pen.
	s := of(t, 2, 3, "a\r\nb\r\nc\x1b]2;t\x07\a\x1b[5n\x1b[?25l\x1b[42m")
	s.Resize(3, 4)
	x := s.Image()
	if offs(s) != "a" || x.Title != "t" || x.Bells != 1 || !x.Hidden || backs(s) != "0000/0000/0000" || string(s.Answers()) != "\x1b[0n" {
		t.Errorf("off %q, %s", offs(s), tell(x))
	}
	s.Feed([]byte("\x1b[b"))
	if got := show(s); got != "b/cc/ 1,2" {
		t.Errorf("%q", got)
	}
}

func TestResizeOfTheStops(t *testing.T) {
	for _, x := range []struct {
		cols int
		in   string
		to   []int
		want []int
	}{
		{20, "", []int{30}, []int{8, 16, 24, 29}},
		{20, "", []int{10}, []int{8, 9}},
		{20, "", []int{8, 30}, []int{8, 16, 24, 29}},
		{20, "", []int{9, 30}, []int{8, 16, 24, 29}},
		{20, "\x1b[3g", []int{30}, []int{24, 29}},
		{20, "\x1b[3g", []int{10, 30}, []int{16, 24, 29}},
		{20, "\x1b[3g", []int{10, 15}, []int{14}},
		{20, "\x1b[1;19H\x1bH", []int{10, 30}, []int{8, 16, 24, 29}},
		{20, "\x1b[1;19H\x1bH", []int{30}, []int{8, 16, 18, 24, 29}},
		{20, "\x1b[1;20H\x1bH", []int{19, 30}, []int{8, 16, 24, 29}},
		{20, "\x1b[1;20H\x1bH", []int{30}, []int{8, 16, 19, 24, 29}},
		{3, "\x1b[1;2H\x1bH", []int{132}, []int{1, 8, 16, 24, 32, 40, 48, 56, 64, 72, 80, 88, 96, 104, 112, 120, 128, 131}},
	} {
		for _, alt := range []string{"", "\x1b[?47h"} {
			s := of(t, 2, x.cols, alt+x.in)
			for _, cols := range x.to {
				s.Resize(2, cols)
			}
			if got := stopsOf(s); !slices.Equal(got, x.want) {
				t.Errorf("%q, %v: %v, want %v", alt+x.in, x.to, got, x.want)
			}
		}
	}
}

func TestResizeWithoutEffect(t *testing.T) {
	for _, before := range append(befores, "\x1b[2;3r\x1b[4;1Habcde", "\x1b[?1049h\x1b[1;2r\x1b[4;1Habcde\x1b[3g", "ab\x1b[1", "\xe2\x82") {
		s := of(t, 4, 5, before)
		for _, rows := range ints {
			for _, cols := range ints {
				if rows >= 1 && rows <= 60 && cols >= 1 && cols <= 132 {
					continue
				}
				if e := s.Resize(rows, cols); e != api.ErrSize {
					t.Errorf("Resize(%d, %d): %d", rows, cols, e)
				}
			}
		}
		if e := s.Resize(4, 5); e != api.OK {
			t.Errorf("Resize to the same size: %d", e)
		}
		if other := of(t, 4, 5, before); s.at != other.at {
			t.Errorf("%q: the caret is %v, not %v", before, s.at, other.at)
		}
		s.Feed([]byte("5Cx\n\t\x1b8y\x1b[6n"))
		equal(t, of(t, 4, 5, before+"5Cx\n\t\x1b8y\x1b[6n"), s, strconv.Quote(before)+" and resizes without effect")
	}
}

func TestSizesOfResize(t *testing.T) {
	for _, rows := range []int{1, 2, 59, 60} {
		for _, cols := range []int{1, 2, 131, 132} {
			s := of(t, 3, 4, "")
			if e := s.Resize(rows, cols); e != api.OK {
				t.Errorf("Resize(%d, %d): %d", rows, cols, e)
			}
			isNew(t, s, rows, cols)
		}
	}
}

// P1 and P2

func TestFeedLeavesItsBytes(t *testing.T) {
	for _, in := range append(slices.Clone(befores), "\x1b]2;title\x07", "\x1b]2;title", "\xe2\x82", "\x1b[1;2") {
		with := []byte(in + "spare")
		b := with[:len(in)]
		s := of(t, 4, 5, "")
		s.Feed(b)
		if string(with) != in+"spare" {
			t.Errorf("%q became %q", in+"spare", with)
		}
		// Nothing of them is kept.
		for i := range with {
			with[i] = 'Z'
		}
		s.Feed([]byte("\x07x"))
		equal(t, of(t, 4, 5, in+"\x07x"), s, strconv.Quote(in)+" whose bytes were changed later")
	}
}

func TestResultsAreNewMemory(t *testing.T) {
	in := "a\r\nb\r\nc\r\nd\x1b[c\x1b]2;title\x07"
	spoil := func(s *Screen) {
		for range 2 {
			x := s.Image()
			for _, cells := range [][]api.Cell{x.Grid.Cells[:cap(x.Grid.Cells)], s.Off(0), s.Off(1)} {
				for i := range cells {
					cells[i] = api.Cell{Rune: 'Z', Pen: api.Pen{Fg: 9}}
				}
			}
		}
	}
	for _, more := range []string{"", "\x1b[?47h\x1b[Hab"} {
		s := of(t, 2, 3, in+more)
		spoil(s)
		equal(t, of(t, 2, 3, in+more), s, "results that were changed")
		answers := s.Answers()
		s.Feed([]byte("\x1b[6n"))
		for i := range answers[:cap(answers)] {
			answers[:cap(answers)][i] = 'Z'
		}
		if got, want := string(s.Answers()), string(of(t, 2, 3, more+"\x1b[6n").Answers()); len(got) != len(want) || strings.Contains(got, "Z") {
			t.Errorf("answers %q", got)
		}
	}
	s := of(t, 2, 3, "\x1b[5n")
	answers := s.Answers()
	for i := range answers {
		answers[i] = 'Z'
	}
	s.Feed([]byte("\x1b[c\x1b[5n"))
	if got := string(s.Answers()); got != "\x1b[?6c\x1b[0n" {
		t.Errorf("answers %q", got)
	}
}

func TestEarlierResultsStay(t *testing.T) {
	s := of(t, 2, 3, "a\r\nb\r\nc\x1b[c\x1b]2;title\x07")
	image, line, answers := s.Image(), s.Off(0), s.Answers()
	cells, first := slices.Clone(image.Grid.Cells), bytes.Clone(answers)
	for _, later := range []string{"xyz", "\x1b[2J", "\x1b[3J", "\r\nq\r\nr\r\ns", "\x1b[6n\x1b[6n", "\x1b[?1049h\x1b[42m\x1b[2J", "\x1bc", strings.Repeat("w\r\n", 200), "\x1b]2;other\x07"} {
		s.Feed([]byte(later))
		s.Resize(3, 4)
		s.Answers()
		s.Resize(2, 3)
		if !slices.Equal(image.Grid.Cells, cells) || !slices.Equal(line, []api.Cell{{Rune: 'a'}}) || !bytes.Equal(answers, first) || image.Title != "title" {
			t.Fatalf("%q changed %v, %v, %q", later, image, line, answers)
		}
	}
}

func TestAskingChangesNothing(t *testing.T) {
	for _, before := range append(slices.Clone(befores), "ab\x1b[1", "\xe2\x82") {
		s := of(t, 4, 5, before)
		for range 3 {
			s.Image()
			s.Area()
			s.Pen()
			s.Alt()
			s.Gone()
			for _, n := range []int{0, 1, -1, 200} {
				s.Off(n)
			}
		}
		s.Feed([]byte("1Cx\n\x1b8y"))
		equal(t, of(t, 4, 5, before+"1Cx\n\x1b8y"), s, strconv.Quote(before)+" and questions")
	}
}

func TestLongStreamsEnd(t *testing.T) {
	s := of(t, 60, 132, "")
	for _, in := range []string{
		strings.Repeat("x", 200000),
		strings.Repeat("\n", 50000),
		strings.Repeat("x\x1b[9999b", 20),
		"\x1b[4h" + strings.Repeat("x\x1b[9999b", 20) + "\x1b[4l",
		strings.Repeat("\x1b[9999S\x1b[9999T", 1000),
		strings.Repeat("\x1b[9999I\x1b[9999Z\x1b[9999A\x1b[9999B\x1b[9999@\x1b[9999P\x1b[9999X", 1000),
		strings.Repeat("\x1b[?1049h\x1b[?1049l", 2000),
		strings.Repeat("\x1b[6n", 5000),
		"\x1b]2;" + strings.Repeat("x", 100000),
		"\x07\x1b[" + strings.Repeat("1;", 50000) + "m",
		strings.Repeat("\x1bc", 2000),
		strings.Repeat("\xff\x1b\x18\xe2\x82", 20000),
	} {
		s.Feed([]byte(in))
		valid(t, s, strconv.Quote(in[:8])+" and so on")
	}
	if got := len(s.Answers()); got > MaxAnswers {
		t.Errorf("answers of %d bytes", got)
	}
}
