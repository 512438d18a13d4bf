package screen

import (
	"math/rand"
	"slices"
	"strconv"
	"strings"
	"testing"

	"baton/api"
	"baton/caret"
	"baton/grid"
	"baton/runes"
)

// pick returns one of the things that it is given.
func pick[T any](r *rand.Rand, l ...T) T {
	return l[r.Intn(len(l))]
}

// randomNumber returns a number of a sequence as it is written: none, a small one, one around a border, or a great one.
func randomNumber(r *rand.Rand, rows, cols int) string {
	switch r.Intn(8) {
	case 0:
		return ""
	case 1:
		return "0"
	case 2, 3:
		return strconv.Itoa(1 + r.Intn(3))
	case 4:
		return strconv.Itoa(rows - 1 + r.Intn(3))
	case 5:
		return strconv.Itoa(cols - 1 + r.Intn(3))
	case 6:
		return strconv.Itoa(r.Intn(rows + cols + 2))
	}
	return pick(r, "999", "9999", "10000", "99999999999999999999", "3", "4", "5", "6", "7920", "7921")
}

func randomNumbers(r *rand.Rand, rows, cols int) string {
	l := []string{}
	for range r.Intn(4) {
		l = append(l, randomNumber(r, rows, cols))
	}
	return strings.Join(l, ";")
}

func randomText(r *rand.Rand, most int) string {
	var out strings.Builder
	for range 1 + r.Intn(most) {
		switch r.Intn(12) {
		case 0:
			out.WriteRune(pick(r, 'é', '€', 0x1f600, 0xa0, 0xa1, 0x9f, 0x80, 0x7f, 0xfffd, 0x10ffff, 0xd7ff, 0xe000))
		case 1:
			out.WriteByte(' ')
		default:
			out.WriteByte(byte('a' + r.Intn(26)))
		}
	}
	return out.String()
}

func randomTitle(r *rand.Rand) string {
	text := pick(r, "", "x", "title", "é", "\xff", "\xc3", "\xe2\x82", strings.Repeat("y", 63), strings.Repeat("y", 64), strings.Repeat("y", 65), strings.Repeat("y", 300), "a;b", ";", "\xed\xa0\x80")
	return "\x1b]" + pick(r, "0;", "2;", "2;", "1;", "0", "2", "02;", "3;", "") + text + pick(r, "\a", "\x1b\\", "\x18", "")
}

func randomModes(r *rand.Rand) string {
	l := []string{}
	for range r.Intn(4) {
		l = append(l, pick(r, "6", "7", "7", "25", "47", "1047", "1049", "1049", "4", "", "1", "1048", "2004"))
	}
	return strings.Join(l, ";")
}

// randomPiece returns bytes that mostly do something.
func randomPiece(r *rand.Rand, rows, cols int) string {
	switch r.Intn(24) {
	case 0, 1, 2, 3:
		return randomText(r, 2*cols)
	case 4:
		return randomText(r, 3) + pick(r, "\r\n", "\n", "\r", "\b", "\t", "\v", "\f", "\a", "\x00", "\x0e", "\x1f")
	case 5:
		return strings.Repeat(pick(r, "\n", "\r\n", "x\n", "\t", "\b"), 1+r.Intn(rows+1))
	case 6:
		return "\x1b" + pick(r, "7", "8", "D", "E", "M", "H", "7", "8", "D", "M", "N", "(B", "#8", "=", "\\", " 7", "%c")
	case 7:
		if r.Intn(4) == 0 {
			return "\x1bc"
		}
		return "\x1bM\x1bM"
	case 8, 9:
		return "\x1b[?" + randomModes(r) + pick(r, "h", "l", "h", "l", "h", "l", "s", "m", "$h")
	case 10:
		return "\x1b[" + pick(r, "!p", "!p", "?!p", "!h", "1!p", ">c", "=c", "?6n", "<u", " p", "!q")
	case 11:
		return randomTitle(r)
	case 12:
		return "\x1b[" + pick(r, "", "0", "1", "1;31", "38;5;200", "48;5;17", "42", "7;44", "22", "39;49", "100;97", "48;5", "") + "m"
	case 13:
		return "\x1b[" + pick(r, "4h", "4l", "4h", "4l", "1;4h", "4;2l", "14h", ";h", "h", "l") + randomText(r, 3)
	case 14:
		return "\x1b[" + randomNumber(r, rows, cols) + ";" + randomNumber(r, rows, cols) + pick(r, "r", "r", "H", "f")
	case 15:
		return randomText(r, 2) + "\x1b[" + randomNumber(r, rows, cols) + "b"
	case 16:
		return "\x1b[" + pick(r, "5n", "6n", "c", "0c", "1c", "n", "5;6n", "6;5n")
	case 17:
		return "\x1b[" + pick(r, "s", "u", "g", "3g", "0g", "1g", "2g")
	case 18:
		return string([]byte{byte(r.Intn(256)), byte(r.Intn(256))})
	}
	return "\x1b[" + randomNumbers(r, rows, cols) + pick(r, strings.Split("A B C D E F G ` H f d I Z J J K K L L M M @ @ P P X X S S T T a e i j q y z ^", " ")...)
}

func randomSize(r *rand.Rand) (int, int) {
	switch r.Intn(12) {
	case 0:
		return 1, 1 + r.Intn(4)
	case 1:
		return 1 + r.Intn(4), 1
	case 2:
		return 1 + r.Intn(60), 1 + r.Intn(132)
	case 3:
		return 2 + r.Intn(3), 15 + r.Intn(12)
	}
	return 1 + r.Intn(6), 1 + r.Intn(10)
}

// P16.1 to P16.9, against the model

func TestScreenAsTheSentencesSay(t *testing.T) {
	for seed := range 6000 {
		r := rand.New(rand.NewSource(int64(seed)))
		rows, cols := randomSize(r)
		s, _ := New(rows, cols)
		m := newSlow(rows, cols)
		story := strconv.Itoa(rows) + " x " + strconv.Itoa(cols)
		for range 5 + r.Intn(40) {
			switch r.Intn(16) {
			case 0:
				rows, cols = randomSize(r)
				if r.Intn(4) == 0 {
					rows, cols = pick(r, 0, -1, 61, s.Area().Rows), pick(r, 0, -1, 133, s.Area().Cols)
				}
				story += ", resize " + strconv.Itoa(rows) + " x " + strconv.Itoa(cols)
				if e, want := s.Resize(rows, cols), m.resize(rows, cols); e != want {
					t.Fatalf("%s: %d, want %d", story, e, want)
				}
				rows, cols = m.rows, m.cols
			case 1:
				story += ", answers"
				agreeAnswers(t, s, m, story)
			default:
				piece := randomPiece(r, rows, cols)
				story += ", " + strconv.Quote(piece)
				s.Feed([]byte(piece))
				m.feedBytes([]byte(piece))
			}
			agree(t, s, m, story)
		}
		agreeAnswers(t, s, m, story)
	}
}

// P16.10

// valid checks that the image's grid is valid and its caret in the grid, and that nothing else is out of its bounds.
func valid(t *testing.T, s *Screen, what string) {
	t.Helper()
	x := s.Image()
	if !grid.Right(x.Grid) {
		t.Fatalf("%s: a grid of %d x %d with %d cells is not valid", what, x.Grid.Rows, x.Grid.Cols, len(x.Grid.Cells))
	}
	if x.Row < 0 || x.Row >= x.Grid.Rows || x.Col < 0 || x.Col >= x.Grid.Cols {
		t.Fatalf("%s: the caret is at %d, %d of %d x %d", what, x.Row, x.Col, x.Grid.Rows, x.Grid.Cols)
	}
	if len(x.Title) > api.MaxTitle || !runes.Valid(x.Title) || x.Bells < 0 || x.Bells > MaxBells {
		t.Fatalf("%s: title %q, %d bells", what, x.Title, x.Bells)
	}
	a := s.Area()
	if !caret.Right(a) || a.Rows != x.Grid.Rows || a.Cols != x.Grid.Cols {
		t.Fatalf("%s: the area is %v", what, a)
	}
	if s.Gone() < 0 || s.Gone() > api.MaxBack {
		t.Fatalf("%s: %d lines", what, s.Gone())
	}
}

// equal checks that two screens tell the same, and takes their answers.
func equal(t *testing.T, a, b *Screen, what string) {
	t.Helper()
	if !sameImage(a.Image(), b.Image()) {
		t.Fatalf("%s: the image is\n%s, and also\n%s", what, tell(a.Image()), tell(b.Image()))
	}
	if a.Area() != b.Area() || a.Pen() != b.Pen() || a.Alt() != b.Alt() || a.Gone() != b.Gone() {
		t.Fatalf("%s: %v, %v, %v, %d, and also %v, %v, %v, %d", what, a.Area(), a.Pen(), a.Alt(), a.Gone(), b.Area(), b.Pen(), b.Alt(), b.Gone())
	}
	for n := range a.Gone() {
		if !slices.Equal(a.Off(n), b.Off(n)) {
			t.Fatalf("%s: Off(%d) is %v, and also %v", what, n, a.Off(n), b.Off(n))
		}
	}
	if x, y := string(a.Answers()), string(b.Answers()); x != y {
		t.Fatalf("%s: answers %q, and also %q", what, x, y)
	}
}

func TestAnyBytesKeepTheImageValid(t *testing.T) {
	for seed := range 300 {
		r := rand.New(rand.NewSource(int64(seed)))
		rows, cols := randomSize(r)
		s, _ := New(rows, cols)
		for range 60 {
			b := make([]byte, r.Intn(40))
			for i := range b {
				b[i] = pick(r, byte(r.Intn(256)), 0x1b, '[', '?', byte('0'+r.Intn(12)), byte(0x40+r.Intn(63)))
			}
			if r.Intn(6) == 0 {
				s.Resize(randomSize(r))
				valid(t, s, "after a resize")
			}
			s.Feed(b)
			valid(t, s, strconv.Quote(string(b)))
		}
	}
}

// pieces are streams with sequences, strings and encodings that can be divided.
func streams(r *rand.Rand) []string {
	out := []string{
		"",
		"abcd",
		"é€\U0001f600",
		"\xe2\x82A\xf0\x9f\x98",
		"\x1b[1;31mx\x1b[2;2Hy\x1b[?1049hz\x1b[?1049lw",
		"\x1b]2;tïtle\x07a\x1b]0;other\x1b\\b",
		"\x1b[38;5;200;48;5;17mab\x1b[!pcd\x1b7\x1b[H\x1b8",
		"a\x1b[12\n3Cb\x1b[\x7f2D\x1b[3\x18D\x1b(Bx",
		"\x1bP ignored \x07 \x1b\\x\x1bXy\x1b^z\x1b_w\x1b\\v",
		"abc\x1b[6n\x1b[c\x1b[5nabc\x1b[6n",
		"\x1b[99999999999999999999C\x1b[;;;;;;;;;;;;;;;;;;4h",
	}
	for range 60 {
		var b strings.Builder
		for range 12 {
			b.WriteString(randomPiece(r, 3, 5))
		}
		out = append(out, b.String())
	}
	return out
}

func TestPiecesDoNotMatter(t *testing.T) {
	r := rand.New(rand.NewSource(16))
	for _, text := range streams(r) {
		b := []byte(text)
		feedAll := func(parts ...[]byte) *Screen {
			s, _ := New(3, 5)
			for _, x := range parts {
				s.Feed(x)
			}
			return s
		}
		one := feedAll()
		for i := range b {
			one.Feed(b[i : i+1])
			valid(t, one, strconv.Quote(text[:i+1]))
		}
		equal(t, feedAll(b), one, strconv.Quote(text)+" byte by byte")
		for i := range len(b) + 1 {
			equal(t, feedAll(b), feedAll(b[:i], b[i:]), strconv.Quote(text)+" divided at "+strconv.Itoa(i))
			equal(t, feedAll(b), feedAll(b[:i], nil, b[i:], []byte{}), strconv.Quote(text)+" divided with nothing between at "+strconv.Itoa(i))
		}
		for range 5 {
			parts := [][]byte{}
			for from := 0; from < len(b); {
				to := min(from+r.Intn(9), len(b))
				parts = append(parts, b[from:to])
				from = to
			}
			equal(t, feedAll(b), feedAll(parts...), strconv.Quote(text)+" in many pieces")
		}
	}
}

func TestResizesKeepTheImageValid(t *testing.T) {
	sizes := []int{1, 2, 3, 7, 8, 9, 59, 60}
	s, _ := New(5, 20)
	for _, before := range []string{"", "abc", strings.Repeat("x", 200), "\x1b[99;999H", "\x1b[99;999Hxy", "\x1b[?1049h\x1b[99;999Hxy", "\x1b[2;3r\x1b[?6h\x1b[9;9Hz", "\x1b7\x1b[H", "\x1b8"} {
		for _, rows := range sizes {
			for _, cols := range append(sizes, 100, 131, 132) {
				s.Feed([]byte(before))
				valid(t, s, before)
				if e := s.Resize(rows, cols); e != api.OK {
					t.Fatalf("Resize(%d, %d): %d", rows, cols, e)
				}
				valid(t, s, before+" resized")
				s.Feed([]byte("\x1b8q\tq\n"))
				valid(t, s, before+" resized and written")
			}
		}
	}
}
