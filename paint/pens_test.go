package paint

import (
	"math"
	"math/rand"
	"reflect"
	"strconv"
	"strings"
	"testing"

	"baton/api"
	"baton/caret"
	"baton/screen"
	"baton/seqs"
)

// colours are those at the ends of each kind: none, the dark ones, the bright ones, and all others.
var colours = []int{0, 1, 2, 8, 9, 10, 16, 17, 18, 129, 255, 256}

// written returns bytes that make a pen from any one, with one sequence for each thing.
func written(p api.Pen) string {
	out := "\x1b[0m"
	for i, n := range []string{"1", "2", "3", "4", "5", "7", "9"} {
		if p.Marks>>i&1 == 1 {
			out += "\x1b[" + n + "m"
		}
	}
	if p.Fg != 0 {
		out += "\x1b[38;5;" + strconv.Itoa(p.Fg-1) + "m"
	}
	if p.Bg != 0 {
		out += "\x1b[48;5;" + strconv.Itoa(p.Bg-1) + "m"
	}
	return out
}

// somePens returns pens with each colour, each mark, several of them and all.
func somePens() []api.Pen {
	l := []api.Pen{{}, {Fg: 2, Bg: 5, Marks: 9}, {Fg: 256, Bg: 256, Marks: 127}, {Fg: 3, Bg: 3}, {Fg: 200, Bg: 13, Marks: 96}}
	for _, c := range colours {
		l = append(l, api.Pen{Fg: c}, api.Pen{Bg: c}, api.Pen{Fg: c, Bg: 17 - c%17, Marks: c % 128})
	}
	for i := range 7 {
		l = append(l, api.Pen{Marks: 1 << i}, api.Pen{Marks: 127 &^ (1 << i)}, api.Pen{Fg: 9, Marks: 3 << i % 128})
	}
	return l
}

// told is all that a screen tells.
type told struct {
	image   api.Image
	area    caret.Area
	pen     api.Pen
	alt     bool
	lines   [][]api.Cell
	answers string
}

// tell returns all that s tells, and takes its answers.
func tell(s *screen.Screen) told {
	var lines [][]api.Cell
	for n := range s.Gone() {
		lines = append(lines, s.Off(n))
	}
	return told{s.Image(), s.Area(), s.Pen(), s.Alt(), lines, string(s.Answers())}
}

// befores leave a screen of 3 rows and 5 columns in the plain state, each with something else in it.
var befores = []string{
	"",
	"ab",
	"abcde",
	"abcdefghijklmno",
	"ab\r\ncd\r\nef\r\ngh\r\nij",
	"\x1b[2;3rab\ncd\nef\ngh",
	"\x1b[2;3r\x1b[?6hab\x1b[9;9Hx",
	"abcde\x1b[H\x1b[4hx",
	"\x1b[?7labcdefg",
	"\x1b[?7labcdefg\x1b[?7h",
	"\x1b[?25lab",
	"\x1b[31;1mab\x1b7\x1b[H",
	"\x1b[31;1mabcde\x1b7\x1b[2;2H\x1b[44m",
	"ab\x1b[?6h\x1b7\x1b[?6l",
	"\x1b[?1049h\x1b[42mcd",
	"ab\x1b[?1049hcdefg",
	"ab\x1b[?1049h\x1b[2;2H\x1b[7m\x1b7\x1b[?1049lx",
	"ab\x1b[?47h\x1b[35mcd\x1b7\x1b[2;3r\x1b[?6hx",
	"\x1b]2;title\x07\x07\x07",
	"ab\x1b[6n\x1b[c",
	"\x1b[3g\x1b[3G\x1bHab",
	"\x1b[4h\x1b[?7l\x1b[?25l\x1b[2;3r\x1b[?6hab\x1b7\x1b[6n\x1b[45mcdefgh",
}

// afters tell a difference that a screen does not tell by itself.
var afters = []string{
	"", "x", "xyz", "x\x1b[2bq", "\x1b[2bq", "1mx", "m", ";x", "\x07x", "\xc3\xa9", "\n\n\n", "\x1b[2J", "\x1b[K", "\x1b[3Sq", "\x1b8q", "\x1b[uq", "\x1bcq", "\x1b[!pq",
	"\x1b[?1049lq\x1b8r", "\x1b[?1049hq\x1b8r", "\x1b[?47lq", "\x1b[?47hq\x1b8r", "\t\tq", "\x1b[6n\x1b[c", "\x1b[9;9Hqr", "\x1b[?7lxyzxyz", "\x1b[?7hxyzxyz", "\x1b[4hq", "\x1b[1mq", "\x1b[22mq",
}

// P17.2: Pens

func TestPensOfEqualPensIsNothing(t *testing.T) {
	for _, p := range somePens() {
		if b := Pens(p, p); len(b) != 0 {
			t.Errorf("Pens(%v, %v): %q", p, p, b)
		}
	}
}

func TestPensOfEachPenAndEachOther(t *testing.T) {
	l := somePens()
	s := newScreen(t, 1, 1)
	for _, from := range l {
		for _, to := range l {
			b := Pens(from, to)
			if (len(b) == 0) != (from == to) {
				t.Fatalf("Pens(%v, %v): %q", from, to, b)
			}
			s.Feed([]byte(written(from)))
			s.Feed(b)
			if s.Pen() != to {
				t.Fatalf("Pens(%v, %v): %q makes it %v", from, to, b, s.Pen())
			}
		}
	}
}

func TestPensOfAllColoursAndMarks(t *testing.T) {
	s := newScreen(t, 1, 1)
	check := func(from, to api.Pen) {
		t.Helper()
		s.Feed([]byte(written(from)))
		s.Feed(Pens(from, to))
		if s.Pen() != to {
			t.Fatalf("Pens(%v, %v) makes it %v", from, to, s.Pen())
		}
	}
	for n := range 257 {
		for _, other := range colours {
			check(api.Pen{Fg: n, Bg: 3}, api.Pen{Fg: other, Bg: 3})
			check(api.Pen{Fg: other, Bg: 3}, api.Pen{Fg: n, Bg: 3})
			check(api.Pen{Fg: 3, Bg: n}, api.Pen{Fg: 3, Bg: other})
			check(api.Pen{Fg: 3, Bg: other}, api.Pen{Fg: 3, Bg: n})
		}
	}
	for from := range 128 {
		for to := range 128 {
			check(api.Pen{Marks: from}, api.Pen{Marks: to})
		}
	}
}

func TestPensChangeThePenAndNothingElse(t *testing.T) {
	pens := []api.Pen{{}, {Fg: 1}, {Bg: 4}, {Marks: 127}, {Fg: 256, Bg: 200, Marks: 127}, {Fg: 12, Bg: 12, Marks: 64}, {Fg: 12, Bg: 12, Marks: 65}}
	for _, before := range befores {
		for _, from := range pens {
			for _, to := range pens {
				for _, after := range afters {
					what := strconv.Quote(before) + ", " + strconv.Quote(string(Pens(from, to))) + ", " + strconv.Quote(after)
					a := newScreen(t, 3, 5, before, written(from), string(Pens(from, to)), after)
					b := newScreen(t, 3, 5, before, written(to), after)
					if x, y := tell(a), tell(b); !reflect.DeepEqual(x, y) {
						t.Fatalf("%s:\n%v, want\n%v", what, x, y)
					}
				}
			}
		}
	}
}

func TestPensLeaveWhatWasSaved(t *testing.T) {
	from, to := api.Pen{Fg: 2}, api.Pen{Bg: 3, Marks: 5}
	s := newScreen(t, 3, 5, "abcde", written(from), "\x1b7", string(Pens(from, to)))
	if s.Pen() != to {
		t.Errorf("the pen is %v", s.Pen())
	}
	s.Feed([]byte("\x1b8x"))
	x := s.Image()
	if s.Pen() != from || x.Row != 1 || x.Col != 1 || x.Grid.Cells[5] != (api.Cell{Rune: 'x', Pen: from}) {
		t.Errorf("restored: %v, %v", s.Pen(), x)
	}
}

func TestPensLeaveNothingOpen(t *testing.T) {
	for _, from := range somePens() {
		for _, to := range somePens() {
			var p seqs.Parser
			for _, b := range Pens(from, to) {
				if x := p.Put(b); len(x) > 0 && x[0].Kind != seqs.Csi {
					t.Fatalf("Pens(%v, %v) yields %v", from, to, x)
				}
			}
			if p.Open() {
				t.Fatalf("Pens(%v, %v) leaves something open", from, to)
			}
		}
	}
}

// No screen has a pen that is not valid, so that only what all pens have in common is promised of it.
func TestPensOfInvalidPens(t *testing.T) {
	numbers := []int{-1, -2, 0, 5, 256, 257, 9999, 10000, 1 << 31, math.MaxInt, math.MinInt, math.MinInt + 1}
	var l []api.Pen
	for _, fg := range numbers {
		for _, bg := range []int{0, -1, 257, math.MaxInt} {
			for _, marks := range []int{0, 127, 128, -1, math.MinInt, math.MaxInt} {
				l = append(l, api.Pen{Fg: fg, Bg: bg, Marks: marks}, api.Pen{Fg: bg, Bg: fg, Marks: marks})
			}
		}
	}
	for _, x := range l {
		for _, from := range []api.Pen{x, {}, {Fg: 3}, {Fg: -7, Bg: 900, Marks: 1 << 20}} {
			b := Pens(from, x)
			if (len(b) == 0) != (from == x) {
				t.Fatalf("Pens(%v, %v): %q", from, x, b)
			}
			a := newScreen(t, 2, 3, "ab", string(b), "c")
			a.Feed([]byte("\x1b[m"))
			if c := a.Image().Grid.Cells; c[1] != (api.Cell{Rune: 'b'}) || c[2].Rune != 'c' || a.Image().Bells != 0 {
				t.Fatalf("Pens(%v, %v): %q does more than to change the pen", from, x, b)
			}
		}
		s := newScreen(t, 1, 1, string(Pens(x, api.Pen{Fg: 3, Marks: 9})))
		if s.Pen() != (api.Pen{Fg: 3, Marks: 9}) && x != (api.Pen{Fg: 3, Marks: 9}) {
			t.Fatalf("Pens(%v, ..) makes it %v", x, s.Pen())
		}
	}
}

func TestPensOfRandomPens(t *testing.T) {
	r := rand.New(rand.NewSource(17))
	s, other := newScreen(t, 2, 3), newScreen(t, 2, 3)
	var at api.Pen
	for range 20000 {
		to := randomPen(r)
		if r.Intn(4) == 0 {
			to = at
			to.Marks ^= 1 << r.Intn(7)
		}
		text := strings.Repeat(string(rune('a'+r.Intn(26))), r.Intn(3))
		s.Feed(Pens(at, to))
		other.Feed([]byte(written(to)))
		s.Feed([]byte(text))
		other.Feed([]byte(text))
		if s.Pen() != to || !alike(s.Image(), other.Image()) {
			t.Fatalf("Pens(%v, %v): %v", at, to, s.Pen())
		}
		at = to
	}
}
