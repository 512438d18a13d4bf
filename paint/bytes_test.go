package paint

import (
	"bytes"
	"math/rand"
	"slices"
	"strconv"
	"strings"
	"testing"

	"baton/api"
	"baton/seqs"
)

// someCells returns cells with each kind of rune that a cell may have, and with each kind of pen.
func someCells() []api.Cell {
	var l []api.Cell
	for _, c := range []rune{' ', '!', '0', ';', '[', 'm', '~', 0xa0, 0xa1, 0xe9, 0x7ff, 0x800, 0x20ac, 0xd7ff, 0xe000, 0xfffd, 0xfffe, 0xffff, 0x10000, 0x1f600, 0x10ffff} {
		l = append(l, api.Cell{Rune: c}, api.Cell{Rune: c, Pen: api.Pen{Fg: 3, Bg: 201, Marks: 5}})
	}
	for _, p := range somePens() {
		l = append(l, api.Cell{Rune: ' ', Pen: p}, api.Cell{Rune: 'x', Pen: p})
	}
	return l
}

// opens leave something open, or change what a screen does with what follows.
var opens = []string{
	"\x1b", "\x1b(", "\x1b((", "\x1b[", "\x1b[3", "\x1b[3;", "\x1b[?", "\x1b[?25", "\x1b[!", "\x1b[3 ", "\x1b[:", "\x1b[3\n",
	"\x1b]", "\x1b]2;", "\x1b]2;open", "\x1b]2;op\xc3", "\x1b]" + strings.Repeat("x", 300), "\x1bP", "\x1bPxyz", "\x1bX", "\x1b^a", "\x1b_b\x07",
	"\xc3", "\xe2", "\xe2\x82", "\xf0", "\xf0\x9f", "\xf0\x9f\x98", "abcd\xe2\x82", "\x18", "\x1a",
}

// stories are what a screen may have been given ahead of an image: each of befores, with and without something open behind it.
func stories() []string {
	l := slices.Concat(befores, opens)
	for _, x := range befores {
		for _, y := range opens {
			l = append(l, x+y)
		}
	}
	return l
}

// bytesOf returns the Bytes of a valid image.
func bytesOf(t *testing.T, g api.Image) []byte {
	t.Helper()
	b, e := Bytes(g)
	if e != api.OK || !bytes.HasPrefix(b, []byte{0x18, 0x1b, 'c'}) {
		t.Fatalf("Bytes(%v): %q, %d", g, b, e)
	}
	return b
}

// paints checks that g is displayed by a screen of its size that was given a story before, that the bells stay, and that nothing is open afterwards.
func paints(t *testing.T, g api.Image, story string) {
	t.Helper()
	s := newScreen(t, g.Grid.Rows, g.Grid.Cols, story)
	bells := s.Image().Bells
	s.Feed(bytesOf(t, g))
	want := g
	want.Bells = bells
	if x := s.Image(); !alike(x, want) {
		t.Fatalf("behind %q:\n%v, want\n%v", story, x, want)
	}
	// A rune is written where the caret is, a bell is counted, and a sequence that starts is one.
	s.Feed([]byte("\x07\xc3\xa9\x1b[31m"))
	x := s.Image()
	if c := x.Grid.Cells[g.Row*g.Grid.Cols+g.Col]; c.Rune != 0xe9 || x.Bells != bells+1 || s.Pen().Fg != 2 || x.Title != g.Title {
		t.Fatalf("behind %q and %v: %v, %v", story, g, x, s.Pen())
	}
}

// P17.2: Bytes

func TestBytesOfInvalidImages(t *testing.T) {
	for _, x := range invalid() {
		if b, e := Bytes(x.image); e != api.ErrArg || len(b) != 0 {
			t.Errorf("%s: Bytes(%v) is %q, %d", x.what, x.image, b, e)
		}
	}
}

func TestBytesOnANewScreen(t *testing.T) {
	sizes := [][2]int{{1, 1}, {1, 2}, {2, 1}, {1, 132}, {60, 1}, {60, 132}, {59, 131}, {3, 5}, {24, 80}, {2, 8}, {2, 9}, {1, 17}}
	for _, size := range sizes {
		rows, cols := size[0], size[1]
		for _, g := range []api.Image{blankOf(rows, cols), lettersOf(rows, cols)} {
			for _, at := range [][2]int{{0, 0}, {rows - 1, cols - 1}, {0, cols - 1}, {rows - 1, 0}, {rows / 2, cols / 2}} {
				g.Row, g.Col, g.Hidden = at[0], at[1], !g.Hidden
				paints(t, g, "")
			}
		}
	}
}

func TestBytesOfEachPosition(t *testing.T) {
	for _, hidden := range []bool{false, true} {
		for row := range 60 {
			for _, col := range []int{0, 1, 8, 9, 10, 98, 99, 100, 130, 131} {
				g := blankOf(60, 132)
				g.Row, g.Col, g.Hidden = row, col, hidden
				paints(t, g, "")
			}
		}
		for row := range 3 {
			for col := range 5 {
				for _, story := range befores {
					g := lettersOf(3, 5)
					g.Row, g.Col, g.Hidden = row, col, hidden
					paints(t, g, story)
				}
			}
		}
	}
}

func TestBytesOfEachCell(t *testing.T) {
	for _, c := range someCells() {
		for _, at := range []int{0, 1, 4, 5, 9, 13, 14} {
			g := blankOf(3, 5)
			g.Grid.Cells[at] = c
			paints(t, g, "")
			paints(t, g, "xyzxyz\x1b[?7l\x1b[7;42m\x1b]2;t")
			g = lettersOf(3, 5)
			g.Grid.Cells[at] = c
			paints(t, g, "")
		}
		all := blankOf(3, 5)
		all.Grid.Cells = slices.Repeat([]api.Cell{c}, 15)
		all.Row, all.Col = 2, 4
		paints(t, all, "")
		paints(t, all, "abc\x1b[?1049h\x1b[4h")
	}
}

func TestBytesOfBlanksWithAPen(t *testing.T) {
	for _, p := range somePens() {
		for _, n := range []int{0, 1, 5, 14, 15} {
			g := lettersOf(3, 5)
			for i := range g.Grid.Cells[:n] {
				g.Grid.Cells[i] = api.Cell{Rune: ' ', Pen: p}
			}
			paints(t, g, "")
			g = lettersOf(3, 5)
			for i := range g.Grid.Cells[n:] {
				g.Grid.Cells[n+i] = api.Cell{Rune: ' ', Pen: p}
			}
			paints(t, g, "ab\x1b[41m\x1b[2J")
		}
	}
}

func TestBytesOfEachTitle(t *testing.T) {
	for _, title := range rightTitles() {
		for _, story := range []string{"", "\x1b]2;before\x07", "\x1b]2;before", "\x1b]0;before\x07\x1bP", "\xe2\x82"} {
			g := lettersOf(2, 3)
			g.Title = title
			paints(t, g, story)
		}
	}
}

func TestBytesLeaveTheBells(t *testing.T) {
	for _, bells := range []int{0, 1, 7, 1<<30 - 1, 1 << 30} {
		g := lettersOf(2, 3)
		g.Bells, g.Title = bells, "ring"
		for _, story := range []string{"", "\x07", "\x07\x07\x07", "\x1b]2;x\x07\x07", "\x1b]2;x"} {
			paints(t, g, story)
		}
		other := g
		other.Bells = 3
		if !bytes.Equal(bytesOf(t, g), bytesOf(t, other)) {
			t.Errorf("%d bells: the bytes tell them", bells)
		}
	}
}

func TestBytesLeaveTheScrollbackAndTheAnswers(t *testing.T) {
	g := lettersOf(3, 5)
	for _, story := range befores {
		s, other := newScreen(t, 3, 5, story), newScreen(t, 3, 5, story)
		s.Feed(bytesOf(t, g))
		if x, y := string(s.Answers()), string(other.Answers()); x != y {
			t.Errorf("behind %q: answers %q, not %q", story, x, y)
		}
		if s.Gone() != other.Gone() {
			t.Errorf("behind %q: %d lines, not %d", story, s.Gone(), other.Gone())
		}
	}
}

func TestBytesLeaveNothingOpen(t *testing.T) {
	images := []api.Image{blankOf(1, 1), lettersOf(3, 5), lettersOf(60, 132)}
	for _, title := range rightTitles() {
		g := lettersOf(1, 2)
		g.Title, g.Hidden = title, true
		images = append(images, g)
	}
	for _, g := range images {
		b := bytesOf(t, g)
		for _, story := range append(opens, "") {
			var p seqs.Parser
			for _, x := range slices.Concat([]byte(story), b) {
				p.Put(x)
			}
			if p.Open() {
				t.Fatalf("behind %q: something is open after %q", story, b)
			}
		}
	}
}

func TestBytesActLikeAnythingInThePlainState(t *testing.T) {
	g := lettersOf(3, 5)
	g.Row, g.Col, g.Hidden, g.Title = 1, 4, true, "t"
	for _, story := range stories() {
		for _, after := range afters {
			s, other := newScreen(t, 3, 5), newScreen(t, 3, 5, story)
			other.Answers()
			bells := other.Image().Bells
			for _, x := range []interface{ Feed([]byte) }{s, other} {
				x.Feed(bytesOf(t, g))
				x.Feed([]byte(after))
			}
			a, b := s.Image(), other.Image()
			b.Bells -= bells
			if !alike(a, b) || s.Pen() != other.Pen() || s.Area() != other.Area() || s.Alt() != other.Alt() || !bytes.Equal(s.Answers(), other.Answers()) {
				t.Fatalf("behind %q, with %q fed afterwards:\n%v, not\n%v", story, after, b, a)
			}
		}
	}
}

// P17.3

func TestAnImageIsDisplayedWhateverWasFedBefore(t *testing.T) {
	blank, letters := blankOf(3, 5), lettersOf(3, 5)
	letters.Row, letters.Col, letters.Hidden, letters.Title = 2, 4, true, "new ; é"
	for _, story := range stories() {
		paints(t, blank, story)
		paints(t, letters, story)
	}
}

func TestAnImageBehindAnotherIsDisplayedAlone(t *testing.T) {
	images := []api.Image{blankOf(3, 5), lettersOf(3, 5)}
	for i, c := range someCells() {
		g := blankOf(3, 5)
		g.Grid.Cells[14] = c
		g.Row, g.Col, g.Hidden, g.Title = i%3, i%5, i%2 == 0, strings.Repeat("é", i%33)
		images = append(images, g)
	}
	for _, first := range images {
		before := string(bytesOf(t, first))
		for _, second := range images {
			paints(t, second, before)
		}
		// An image that is cut off anywhere is no more than something that was fed before.
		for i := range len(before) {
			paints(t, images[1], before[:i])
		}
	}
}

func randomPen(r *rand.Rand) api.Pen {
	colour := func() int {
		switch r.Intn(3) {
		case 0:
			return colours[r.Intn(len(colours))]
		case 1:
			return r.Intn(257)
		}
		return 0
	}
	return api.Pen{Fg: colour(), Bg: colour(), Marks: r.Intn(128) & r.Intn(128)}
}

// randomImage returns a valid image with runs of cells, many of them blank.
func randomImage(r *rand.Rand, rows, cols int) api.Image {
	g := blankOf(rows, cols)
	signs := []rune(" ~!xy;[0é€\u00a0\ufffd\U0001f600\U0010ffff")
	for i := range g.Grid.Cells {
		switch {
		case i > 0 && r.Intn(3) > 0:
			g.Grid.Cells[i] = g.Grid.Cells[i-1]
		case r.Intn(3) > 0:
			g.Grid.Cells[i] = api.Cell{Rune: signs[r.Intn(len(signs))], Pen: randomPen(r)}
		}
	}
	titles := rightTitles()
	g.Row, g.Col, g.Hidden, g.Bells = r.Intn(rows), r.Intn(cols), r.Intn(2) == 0, r.Intn(1<<30+1)
	g.Title = titles[r.Intn(len(titles))]
	return g
}

// randomStory returns bytes that mostly do something.
func randomStory(r *rand.Rand) string {
	var out strings.Builder
	for range r.Intn(12) {
		switch r.Intn(6) {
		case 0:
			out.WriteString(befores[r.Intn(len(befores))])
		case 1:
			out.WriteString(opens[r.Intn(len(opens))])
		case 2:
			out.WriteString(afters[r.Intn(len(afters))])
		case 3:
			out.WriteString("\x1b[" + strconv.Itoa(r.Intn(9)) + ";" + strconv.Itoa(r.Intn(9)) + string(rune(0x40+r.Intn(63))))
		case 4:
			out.WriteString("\x1b[?" + []string{"6", "7", "25", "47", "1047", "1049"}[r.Intn(6)] + []string{"h", "l"}[r.Intn(2)])
		case 5:
			b := make([]byte, r.Intn(9))
			r.Read(b)
			out.Write(b)
		}
	}
	return out.String()
}

func TestRandomImagesBehindRandomStories(t *testing.T) {
	for seed := range 4000 {
		r := rand.New(rand.NewSource(int64(seed)))
		rows, cols := 1+r.Intn(6), 1+r.Intn(12)
		if seed%100 == 0 {
			rows, cols = 1+r.Intn(60), 1+r.Intn(132)
		}
		g := randomImage(r, rows, cols)
		if !Right(g) {
			t.Fatalf("not Right: %v", g)
		}
		paints(t, g, randomStory(r))
		s := newScreen(t, rows, cols, randomStory(r), "\x1b[?1049h", "\x18")
		shown := s.Image()
		paints(t, shown, randomStory(r))
	}
}

func TestAResizedScreenDisplaysAnImageOfItsNewSize(t *testing.T) {
	for seed := range 300 {
		r := rand.New(rand.NewSource(int64(seed)))
		s := newScreen(t, 1+r.Intn(6), 1+r.Intn(12), randomStory(r))
		rows, cols := 1+r.Intn(6), 1+r.Intn(12)
		s.Resize(rows, cols)
		g := randomImage(r, rows, cols)
		g.Bells = s.Image().Bells
		s.Feed(bytesOf(t, g))
		if !alike(s.Image(), g) {
			t.Fatalf("%v, want %v", s.Image(), g)
		}
	}
}

// The chapter's example.
func TestANewScreenDisplaysWhatAnotherOneDisplays(t *testing.T) {
	for _, story := range stories() {
		g := newScreen(t, 3, 5, story).Image()
		s := newScreen(t, 3, 5, string(bytesOf(t, g)))
		want := g
		want.Bells = 0
		if x := s.Image(); !Same(x, want) || !alike(x, want) {
			t.Errorf("%q: %v, want %v", story, x, want)
		}
	}
}

func TestPiecesOfBytesDoNotMatter(t *testing.T) {
	g := lettersOf(3, 5)
	g.Title, g.Grid.Cells[3].Rune = "é€\U0001f600", 0x20ac
	b := bytesOf(t, g)
	for i := range b {
		s := newScreen(t, 3, 5, string(b[:i]), string(b[i:]))
		if !alike(s.Image(), g) {
			t.Fatalf("divided at %d: %v", i, s.Image())
		}
	}
}
