package pen

import (
	"fmt"
	"math"
	"math/rand"
	"slices"
	"testing"

	"baton/api"
)

// slow is a pen as the chapter's sentences have it: each attribute by itself, and two colours.
type slow struct {
	bold, faint, italic, under, blink, inverse, strike bool
	fg, bg                                             int
}

// attribute is one of the attributes of a slow pen, the number that sets it, and its bit.
type attribute struct {
	number, bit int
	of          func(*slow) *bool
}

// attributes are all of them, in the order of P12.1.
func attributes() []attribute {
	return []attribute{
		{1, 1, func(s *slow) *bool { return &s.bold }},
		{2, 2, func(s *slow) *bool { return &s.faint }},
		{3, 4, func(s *slow) *bool { return &s.italic }},
		{4, 8, func(s *slow) *bool { return &s.under }},
		{5, 16, func(s *slow) *bool { return &s.blink }},
		{7, 32, func(s *slow) *bool { return &s.inverse }},
		{9, 64, func(s *slow) *bool { return &s.strike }},
	}
}

func slowOf(p api.Pen) slow {
	s := slow{fg: p.Fg, bg: p.Bg}
	for _, a := range attributes() {
		*a.of(&s) = p.Marks/a.bit%2 == 1
	}
	return s
}

func (s slow) pen() api.Pen {
	p := api.Pen{Fg: s.fg, Bg: s.bg}
	for _, a := range attributes() {
		if *a.of(&s) {
			p.Marks += a.bit
		}
	}
	return p
}

// changed returns s after a number that no colour follows.
func (s slow) changed(n int) slow {
	switch n {
	case 22:
		s.bold, s.faint = false, false
	case 23:
		s.italic = false
	case 24:
		s.under = false
	case 25:
		s.blink = false
	case 27:
		s.inverse = false
	case 29:
		s.strike = false
	case 30, 31, 32, 33, 34, 35, 36, 37:
		s.fg = n - 29
	case 90, 91, 92, 93, 94, 95, 96, 97:
		s.fg = n - 81
	case 39:
		s.fg = 0
	case 40, 41, 42, 43, 44, 45, 46, 47:
		s.bg = n - 39
	case 100, 101, 102, 103, 104, 105, 106, 107:
		s.bg = n - 91
	case 49:
		s.bg = 0
	}
	for _, a := range attributes() {
		if n == a.number {
			*a.of(&s) = true
		}
	}
	if n < 0 || n == 0 {
		return slow{}
	}
	return s
}

// slowColour is P12.2, form by form.
func slowColour(l []int) (int, int) {
	if len(l) == 0 {
		return -1, 0
	}
	if l[0] == 5 && len(l) > 1 {
		if !(l[1] < 0) && !(l[1] > 255) {
			return l[1], 2
		}
		return -1, 2
	}
	if l[0] == 2 && len(l) > 4 {
		return -1, 4
	}
	if l[0] == 2 {
		return -1, len(l)
	}
	return -1, 1
}

// applied returns s after all numbers, one of which there is.
func (s slow) applied(l []int) slow {
	if len(l) == 0 {
		return s
	}
	n, behind := l[0], l[1:]
	if n != 38 && n != 48 {
		return s.changed(n).applied(behind)
	}
	colour, used := slowColour(behind)
	if colour != -1 && n == 38 {
		s.fg = colour + 1
	}
	if colour != -1 && n == 48 {
		s.bg = colour + 1
	}
	return s.applied(behind[used:])
}

func slowApply(p api.Pen, l []int) api.Pen {
	if len(l) == 0 {
		return api.Pen{}
	}
	return slowOf(p).applied(l).pen()
}

// slowCodes is P12.3, for a valid pen.
func slowCodes(p api.Pen) []int {
	s := slowOf(p)
	l := []int{0}
	for _, a := range attributes() {
		if *a.of(&s) {
			l = append(l, a.number)
		}
	}
	for _, x := range []struct{ colour, more int }{{s.fg, 0}, {s.bg, 10}} {
		switch {
		case x.colour == 0:
		case !(x.colour > 8):
			l = append(l, x.colour+29+x.more)
		case !(x.colour > 16):
			l = append(l, x.colour+81+x.more)
		default:
			l = append(l, 38+x.more, 5, x.colour-1)
		}
	}
	return l
}

// full is a pen with all attributes and two colours.
func full() api.Pen {
	return api.Pen{Fg: 200, Bg: 100, Marks: 127}
}

// pens are valid ones: with every set of attributes, and with colours at the ends of their ranges.
func pens() []api.Pen {
	var l []api.Pen
	for marks := range 128 {
		for _, x := range [][2]int{{0, 0}, {1, 0}, {0, 1}, {8, 9}, {9, 8}, {16, 17}, {17, 16}, {256, 256}, {200, 100}} {
			l = append(l, api.Pen{Fg: x[0], Bg: x[1], Marks: marks})
		}
	}
	return l
}

// far are numbers that no table and no range reaches, some of which are within one if they are cut to fewer bits.
func far() []int {
	return []int{math.MinInt, math.MinInt + 1, math.MinInt + 11, math.MinInt32, -1 << 32, -1<<32 + 1, -256, -255, 1 << 8, 1<<8 + 1, 1 << 16, 1<<16 + 31, 1 << 32, 1<<32 + 1, 1<<32 + 38, math.MaxInt32, math.MaxInt - 1, math.MaxInt}
}

// numbers are those up to some beyond all that have an effect, and those far beyond.
func numbers() []int {
	l := far()
	for n := -30; n <= 300; n++ {
		l = append(l, n)
	}
	return l
}

// applies checks what Apply makes of a pen.
func applies(t *testing.T, p api.Pen, want api.Pen, params ...int) {
	t.Helper()
	if got := Apply(p, params); got != want {
		t.Errorf("Apply(%v, %v) = %v, want %v", p, params, got, want)
	}
}

// follows checks that Apply does what the sentences say.
func follows(t *testing.T, p api.Pen, params ...int) {
	t.Helper()
	applies(t, p, slowApply(p, params), params...)
}

// tells checks what Colour returns.
func tells(t *testing.T, colour, used int, params ...int) {
	t.Helper()
	if c, n := Colour(params); c != colour || n != used {
		t.Errorf("Colour(%v) = %d, %d, want %d, %d", params, c, n, colour, used)
	}
}

// hasCodes checks what Codes returns.
func hasCodes(t *testing.T, p api.Pen, want ...int) {
	t.Helper()
	if got := Codes(p); !slices.Equal(got, want) {
		t.Errorf("Codes(%v) = %v, want %v", p, got, want)
	}
}

// P12.1

func TestTheExample(t *testing.T) {
	applies(t, api.Pen{}, api.Pen{Fg: 2, Marks: api.Bold}, 1, 31)
}

func TestNoNumbersAndZeroMakeTheZeroPen(t *testing.T) {
	for _, p := range append(pens(), api.Pen{Fg: -1, Bg: 999, Marks: -1}) {
		applies(t, p, api.Pen{})
		if got := Apply(p, []int{}); got != (api.Pen{}) {
			t.Errorf("Apply(%v) of an empty list = %v", p, got)
		}
		for _, n := range []int{0, -1, -2, -22, -38, math.MinInt32, math.MinInt} {
			applies(t, p, api.Pen{}, n)
			applies(t, p, api.Pen{Marks: api.Under}, n, 4)
		}
	}
}

func TestEachNumberSetsItsAttribute(t *testing.T) {
	for n, mark := range map[int]int{1: api.Bold, 2: api.Faint, 3: api.Italic, 4: api.Under, 5: api.Blink, 7: api.Inverse, 9: api.Strike} {
		applies(t, api.Pen{}, api.Pen{Marks: mark}, n)
		applies(t, api.Pen{Fg: 3, Bg: 4, Marks: mark}, api.Pen{Fg: 3, Bg: 4, Marks: mark}, n)
		applies(t, full(), full(), n)
		for _, p := range pens() {
			want := p
			want.Marks |= mark
			applies(t, p, want, n)
			applies(t, p, want, n, n)
		}
	}
}

func TestEachNumberClearsItsAttributes(t *testing.T) {
	for n, marks := range map[int]int{22: api.Bold | api.Faint, 23: api.Italic, 24: api.Under, 25: api.Blink, 27: api.Inverse, 29: api.Strike} {
		applies(t, api.Pen{}, api.Pen{}, n)
		applies(t, api.Pen{Fg: 3, Bg: 4, Marks: marks}, api.Pen{Fg: 3, Bg: 4}, n)
		applies(t, full(), api.Pen{Fg: 200, Bg: 100, Marks: 127 - marks}, n)
		for _, p := range pens() {
			want := p
			want.Marks &= 127 - marks
			applies(t, p, want, n)
		}
	}
}

func TestBoldAndFaintAreClearedTogether(t *testing.T) {
	for _, marks := range []int{api.Bold, api.Faint, api.Bold | api.Faint, 0} {
		applies(t, api.Pen{Marks: marks}, api.Pen{}, 22)
		applies(t, api.Pen{Fg: 5, Marks: marks | api.Italic | api.Blink}, api.Pen{Fg: 5, Marks: api.Italic | api.Blink}, 22)
	}
	applies(t, api.Pen{}, api.Pen{Marks: api.Faint}, 1, 22, 2)
	applies(t, api.Pen{}, api.Pen{Marks: api.Bold | api.Faint}, 2, 1)
}

func TestColoursByHand(t *testing.T) {
	for n, want := range map[int]int{30: 1, 31: 2, 33: 4, 36: 7, 37: 8, 90: 9, 91: 10, 96: 15, 97: 16, 39: 0} {
		for _, p := range []api.Pen{{}, {Fg: 77}, {Bg: 77}, full(), {Fg: 256, Bg: 256, Marks: api.Faint}} {
			applies(t, p, api.Pen{Fg: want, Bg: p.Bg, Marks: p.Marks}, n)
			applies(t, p, api.Pen{Fg: p.Fg, Bg: want, Marks: p.Marks}, n+10)
		}
	}
	for n, want := range map[int]api.Pen{40: {Fg: 3, Bg: 1}, 47: {Fg: 3, Bg: 8}, 100: {Fg: 3, Bg: 9}, 107: {Fg: 3, Bg: 16}, 49: {Fg: 3}} {
		applies(t, api.Pen{Fg: 3, Bg: 4}, want, n)
	}
}

func TestOtherNumbersHaveNoEffect(t *testing.T) {
	for _, n := range []int{6, 8, 10, 11, 19, 20, 21, 26, 28, 50, 51, 58, 59, 60, 80, 88, 89, 98, 99, 108, 109, 110, 127, 128, 255, 256, 257, 286, 1 << 16, 1<<32 + 1, math.MaxInt32, math.MaxInt - 1, math.MaxInt} {
		for _, p := range pens() {
			applies(t, p, p, n)
		}
		applies(t, full(), api.Pen{Fg: 200, Bg: 100, Marks: 127 - api.Under}, n, 24)
		applies(t, api.Pen{}, api.Pen{Bg: 3, Marks: api.Under}, 4, n, 42)
	}
}

func TestColoursByIndex(t *testing.T) {
	for _, p := range []api.Pen{{}, {Fg: 3, Bg: 4}, full()} {
		for c := range 256 {
			applies(t, p, api.Pen{Fg: c + 1, Bg: p.Bg, Marks: p.Marks}, 38, 5, c)
			applies(t, p, api.Pen{Fg: p.Fg, Bg: c + 1, Marks: p.Marks}, 48, 5, c)
			// The numbers behind those used are applied, also where they are those that were used.
			applies(t, p, api.Pen{Fg: c + 1, Bg: p.Bg, Marks: p.Marks | api.Strike}, 38, 5, c, 9)
			applies(t, p, api.Pen{Fg: p.Fg, Bg: c + 1, Marks: p.Marks | api.Blink}, 48, 5, c, 5)
		}
		for _, c := range append(far(), -1, -2, 256, 257, 512) {
			if c >= 0 && c < 256 {
				continue
			}
			// No colour: neither is the number applied, nor does one that is negative count as 0.
			applies(t, p, p, 38, 5, c)
			applies(t, p, p, 48, 5, c)
			applies(t, p, api.Pen{Fg: p.Fg, Bg: p.Bg, Marks: p.Marks | api.Inverse}, 38, 5, c, 7)
			applies(t, p, api.Pen{Fg: p.Fg, Bg: p.Bg, Marks: p.Marks | api.Inverse}, 48, 5, c, 7)
		}
	}
}

func TestColoursThatAreNone(t *testing.T) {
	p := api.Pen{Fg: 3, Bg: 4, Marks: api.Italic}
	and := func(marks int) api.Pen { return api.Pen{Fg: 3, Bg: 4, Marks: p.Marks | marks} }
	for _, n := range []int{38, 48} {
		applies(t, p, p, n)
		applies(t, p, p, n, 5)
		applies(t, p, and(api.Bold), 1, n)
		applies(t, p, and(api.Bold), 1, n, 5)
		// Of three parts: fewer, as many, and more behind them.
		applies(t, p, p, n, 2)
		applies(t, p, p, n, 2, 1)
		applies(t, p, p, n, 2, 1, 4)
		applies(t, p, p, n, 2, 1, 4, 7)
		applies(t, p, p, n, 2, 0, -1, 0)
		applies(t, p, and(api.Strike), n, 2, 1, 4, 7, 9)
		applies(t, p, and(api.Strike|api.Blink), n, 2, 1, 4, 7, 9, 5)
		applies(t, p, api.Pen{}, n, 2, 1, 4, 7, 0)
		applies(t, p, api.Pen{Marks: api.Bold}, n, 2, 1, 4, 7, -1, 1)
		// Another number is used by itself.
		for _, other := range append(far(), 0, -1, 1, 3, 4, 6, 7, 8, 30, 38, 48, 49) {
			applies(t, p, p, n, other)
			applies(t, p, and(api.Strike), n, other, 9)
			applies(t, p, and(api.Blink|api.Under), n, other, 5, 4)
		}
	}
}

func TestColoursAfterOneAnother(t *testing.T) {
	applies(t, api.Pen{}, api.Pen{Fg: 201, Bg: 1}, 38, 5, 200, 48, 5, 0)
	applies(t, api.Pen{}, api.Pen{Fg: 1, Bg: 256}, 48, 5, 255, 38, 5, 0)
	applies(t, api.Pen{}, api.Pen{Fg: 8}, 38, 5, 6, 38, 5, 7)
	applies(t, api.Pen{Fg: 9}, api.Pen{Fg: 9, Bg: 2}, 38, 2, 48, 5, 7, 48, 5, 1)
	applies(t, api.Pen{Fg: 9}, api.Pen{Fg: 9, Marks: api.Blink}, 38, 48, 5, 6)
	applies(t, api.Pen{Fg: 9}, api.Pen{Fg: 9, Marks: api.Bold | api.Blink}, 38, 38, 5, 1)
	applies(t, api.Pen{}, api.Pen{Fg: 39, Bg: 49}, 38, 5, 38, 48, 5, 48)
}

func TestNumbersInOrder(t *testing.T) {
	applies(t, api.Pen{}, api.Pen{Marks: api.Under}, 1, 4, 22)
	applies(t, api.Pen{}, api.Pen{Marks: api.Under | api.Bold}, 22, 4, 1)
	applies(t, api.Pen{}, api.Pen{Fg: 16, Bg: 9}, 97, 100)
	applies(t, api.Pen{}, api.Pen{Bg: 9}, 97, 100, 39)
	applies(t, full(), api.Pen{Marks: api.Strike}, 1, 31, 41, 0, 9)
	applies(t, full(), api.Pen{Marks: api.Strike, Fg: 4}, 1, 0, 31, -1, 9, 33)
	applies(t, full(), api.Pen{}, 1, 31, 41, 0)
	applies(t, full(), api.Pen{Fg: 1}, 0, 1, 22, 37, 30)
	applies(t, api.Pen{}, api.Pen{Marks: 127, Fg: 2, Bg: 16}, 1, 2, 3, 4, 5, 6, 7, 8, 9, 10, 31, 107)
	applies(t, full(), api.Pen{}, 22, 23, 24, 25, 26, 27, 28, 29, 39, 49)
	var long []int
	for range 100000 {
		long = append(long, 1, 0, 38, 5, 6)
	}
	applies(t, full(), api.Pen{Fg: 7}, long...)
}

func TestApplyFollowsTheSentences(t *testing.T) {
	for _, p := range pens() {
		for _, n := range numbers() {
			follows(t, p, n)
		}
	}
	for _, n := range numbers() {
		for _, m := range numbers() {
			follows(t, full(), n, m)
			follows(t, api.Pen{Fg: 1}, n, m, 4)
		}
	}
}

// someNumbers are such as the sentences name, and their neighbours.
func someNumbers() []int {
	return []int{math.MinInt, -1, 0, 1, 2, 3, 4, 5, 6, 7, 8, 9, 10, 21, 22, 23, 24, 25, 26, 27, 28, 29, 30, 37, 38, 39, 40, 47, 48, 49, 50, 89, 90, 97, 98, 99, 100, 107, 108, 255, 256, math.MaxInt}
}

func TestApplyOfAllTriples(t *testing.T) {
	p := api.Pen{Fg: 6, Bg: 250, Marks: api.Italic | api.Bold}
	for _, a := range someNumbers() {
		for _, b := range someNumbers() {
			for _, c := range someNumbers() {
				follows(t, p, a, b, c)
			}
		}
	}
}

func TestApplyOfAnyNumbers(t *testing.T) {
	source := rand.New(rand.NewSource(121))
	often := []int{38, 48, 5, 2, 5}
	all := pens()
	for range 200000 {
		var l []int
		for range source.Intn(12) {
			switch source.Intn(4) {
			case 0:
				l = append(l, often[source.Intn(len(often))])
			case 1:
				l = append(l, source.Intn(300)-20)
			default:
				l = append(l, someNumbers()[source.Intn(len(someNumbers()))])
			}
		}
		follows(t, all[source.Intn(len(all))], l...)
	}
}

func TestApplyInPieces(t *testing.T) {
	// A list whose parts each have what belongs together may be applied part by part.
	parts := [][]int{{1}, {4, 31}, {38, 5, 9}, {48, 2, 1, 2, 3}, {0}, {22}, {48, 5, 256}, {39, 107}}
	for _, a := range parts {
		for _, b := range parts {
			for _, c := range parts {
				applies(t, full(), Apply(Apply(Apply(full(), a), b), c), slices.Concat(a, b, c)...)
			}
		}
	}
}

func TestApplyTakesPensThatAreNotValid(t *testing.T) {
	p := api.Pen{Fg: -5, Bg: 999, Marks: 1 << 20}
	applies(t, p, api.Pen{Fg: -5, Bg: 999, Marks: 1<<20 | api.Bold}, 1)
	applies(t, p, p, 22)
	applies(t, p, api.Pen{Fg: 2, Bg: 999, Marks: 1 << 20}, 31)
	applies(t, p, api.Pen{Fg: -5, Bg: 2, Marks: 1 << 20}, 41)
	applies(t, p, api.Pen{}, 0)
	applies(t, api.Pen{Marks: -1}, api.Pen{Marks: -1 - api.Bold - api.Faint}, 22)
	applies(t, api.Pen{Marks: -1}, api.Pen{Marks: -1}, 1, 6, 9)
}

// P12.2

func TestColourByHand(t *testing.T) {
	tells(t, -1, 0)
	tells(t, 0, 2, 5, 0)
	tells(t, 1, 2, 5, 1)
	tells(t, 5, 2, 5, 5)
	tells(t, 254, 2, 5, 254)
	tells(t, 255, 2, 5, 255)
	tells(t, 255, 2, 5, 255, 1)
	tells(t, 7, 2, 5, 7, 5, 8)
	tells(t, -1, 2, 5, 256)
	tells(t, -1, 2, 5, 256, 1, 1)
	tells(t, -1, 2, 5, -1)
	tells(t, -1, 2, 5, -1, 7)
	tells(t, -1, 2, 5, math.MinInt)
	tells(t, -1, 2, 5, math.MaxInt)
	tells(t, -1, 1, 5)
	tells(t, -1, 1, 2)
	tells(t, -1, 2, 2, 1)
	tells(t, -1, 3, 2, 1, 1)
	tells(t, -1, 4, 2, 1, 1, 1)
	tells(t, -1, 4, 2, 1, 1, 1, 1)
	tells(t, -1, 4, 2, 1, 1, 1, 1, 1, 1)
	tells(t, -1, 4, 2, -1, -1, -1)
	tells(t, -1, 3, 2, 5, 7)
	for _, n := range append(far(), -5, -2, -1, 0, 1, 3, 4, 6, 7, 38, 48, 255) {
		tells(t, -1, 1, n)
		tells(t, -1, 1, n, 5)
		tells(t, -1, 1, n, 5, 7)
		tells(t, -1, 1, n, 2, 1, 1, 1)
	}
}

func TestColourOfAllIndices(t *testing.T) {
	for _, n := range numbers() {
		if n < 0 || n > 255 {
			tells(t, -1, 2, 5, n)
			tells(t, -1, 2, 5, n, 3)
		} else {
			tells(t, n, 2, 5, n)
			tells(t, n, 2, 5, n, 3)
		}
	}
}

func TestColourFollowsTheSentences(t *testing.T) {
	for _, a := range someNumbers() {
		for _, b := range someNumbers() {
			for _, l := range [][]int{{a}, {a, b}, {a, b, 1}, {a, b, 1, 2}, {a, b, 1, 2, 3}, {a, b, 1, 2, 3, 4}} {
				colour, used := slowColour(l)
				tells(t, colour, used, l...)
			}
		}
	}
}

// P12.3

func TestCodesByHand(t *testing.T) {
	hasCodes(t, api.Pen{}, 0)
	for _, x := range []struct{ mark, n int }{{api.Bold, 1}, {api.Faint, 2}, {api.Italic, 3}, {api.Under, 4}, {api.Blink, 5}, {api.Inverse, 7}, {api.Strike, 9}} {
		hasCodes(t, api.Pen{Marks: x.mark}, 0, x.n)
		hasCodes(t, api.Pen{Fg: 1, Marks: x.mark}, 0, x.n, 30)
	}
	hasCodes(t, api.Pen{Marks: 127}, 0, 1, 2, 3, 4, 5, 7, 9)
	hasCodes(t, api.Pen{Marks: api.Strike | api.Bold}, 0, 1, 9)
	hasCodes(t, api.Pen{Marks: api.Inverse | api.Blink | api.Italic}, 0, 3, 5, 7)
	hasCodes(t, api.Pen{Fg: 1}, 0, 30)
	hasCodes(t, api.Pen{Fg: 8}, 0, 37)
	hasCodes(t, api.Pen{Fg: 9}, 0, 90)
	hasCodes(t, api.Pen{Fg: 16}, 0, 97)
	hasCodes(t, api.Pen{Fg: 17}, 0, 38, 5, 16)
	hasCodes(t, api.Pen{Fg: 256}, 0, 38, 5, 255)
	hasCodes(t, api.Pen{Bg: 1}, 0, 40)
	hasCodes(t, api.Pen{Bg: 8}, 0, 47)
	hasCodes(t, api.Pen{Bg: 9}, 0, 100)
	hasCodes(t, api.Pen{Bg: 16}, 0, 107)
	hasCodes(t, api.Pen{Bg: 17}, 0, 48, 5, 16)
	hasCodes(t, api.Pen{Bg: 256}, 0, 48, 5, 255)
	hasCodes(t, api.Pen{Fg: 2, Bg: 3}, 0, 31, 42)
	hasCodes(t, api.Pen{Fg: 256, Bg: 17}, 0, 38, 5, 255, 48, 5, 16)
	hasCodes(t, api.Pen{Fg: 17, Bg: 9, Marks: api.Bold | api.Strike}, 0, 1, 9, 38, 5, 16, 100)
	hasCodes(t, api.Pen{Fg: 256, Bg: 256, Marks: 127}, 0, 1, 2, 3, 4, 5, 7, 9, 38, 5, 255, 48, 5, 255)
}

func TestCodesFollowTheSentences(t *testing.T) {
	for _, p := range pens() {
		hasCodes(t, p, slowCodes(p)...)
	}
	for fg := range 257 {
		for bg := range 257 {
			p := api.Pen{Fg: fg, Bg: bg, Marks: (fg*31 + bg) % 128}
			hasCodes(t, p, slowCodes(p)...)
		}
	}
}

// P12.4

func TestCodesMakeThePenOfAnyPen(t *testing.T) {
	onto := []api.Pen{{}, full(), {Fg: 256, Bg: 256, Marks: 127}, {Marks: api.Faint}, {Fg: 1}, {Bg: 16}, {Fg: -1, Bg: 999, Marks: -1}}
	for fg := range 257 {
		for bg := range 257 {
			for _, marks := range []int{0, 127, (fg*31 + bg) % 128} {
				p := api.Pen{Fg: fg, Bg: bg, Marks: marks}
				codes := Codes(p)
				for _, other := range onto {
					applies(t, other, p, codes...)
				}
			}
		}
	}
}

func TestCodesOfAllPensMakeThemOfEachOther(t *testing.T) {
	all := pens()
	for _, p := range all {
		codes := Codes(p)
		for _, other := range all {
			applies(t, other, p, codes...)
		}
	}
}

func TestCodesOfAllMarksAndColours(t *testing.T) {
	for marks := range 128 {
		for c := range 257 {
			for _, p := range []api.Pen{{Fg: c, Marks: marks}, {Bg: c, Marks: marks}, {Fg: c, Bg: 256 - c, Marks: marks}} {
				codes := Codes(p)
				applies(t, api.Pen{}, p, codes...)
				applies(t, full(), p, codes...)
			}
		}
	}
}

// P1 and P2

func TestAnyArgumentsAreTaken(t *testing.T) {
	some := append(far(), -1, 0, 1, 8, 9, 16, 17, 127, 128, 255, 256, 257)
	for _, fg := range some {
		for _, marks := range some {
			p := api.Pen{Fg: fg, Bg: fg, Marks: marks}
			// Of pens that are not valid nothing but an end is promised.
			if l := Codes(p); len(l) == 0 || l[0] != 0 {
				t.Errorf("Codes(%v) = %v", p, l)
			}
			applies(t, p, api.Pen{Fg: fg, Bg: fg, Marks: marks | api.Under}, 4)
			applies(t, p, api.Pen{Fg: 1, Bg: fg, Marks: marks}, 38, 5, 0)
		}
	}
	for _, a := range some {
		for _, b := range some {
			follows(t, full(), a, b)
			tells(t, -1, 1, a, b)
		}
	}
}

// spoil overwrites a list with its spare capacity.
func spoil(l []int) {
	l = l[:cap(l)]
	for i := range l {
		l[i] = 77
	}
}

func TestCodesIsNewMemory(t *testing.T) {
	for _, p := range []api.Pen{{}, {Marks: api.Bold}, {Marks: 127}, {Fg: 3}, {Bg: 3}, {Fg: 200}, {Bg: 200}, full(), {Fg: 256, Bg: 256, Marks: 127}} {
		first, second := Codes(p), Codes(p)
		spoil(first)
		if !slices.Equal(second, slowCodes(p)) {
			t.Errorf("a change of one result changed another one: %v", second)
		}
		_ = append(second[:1], 66, 66, 66)
		hasCodes(t, p, slowCodes(p)...)
		applies(t, full(), p, Codes(p)...)
	}
}

// lists are numbers of all forms.
func lists() [][]int {
	return [][]int{nil, {}, {0}, {-1}, {math.MinInt}, {1}, {22}, {31}, {1, 31}, {5}, {5, 7}, {5, -1}, {5, 256}, {2}, {2, 1}, {2, 1, 1, 1}, {2, -1, -1, -1, -1}, {38}, {38, 5}, {38, 5, 7}, {48, 5, -1, 9}, {38, 2, 1, 1, 1, 4}, {48, 9, -1}, {6, 8, math.MaxInt}}
}

func TestNumbersAreNotChanged(t *testing.T) {
	for _, l := range lists() {
		// Behind the numbers there is room, with more numbers that are none of the call's.
		room := append(slices.Clone(l), 5, 7, 1, 0, 38, 5, 9)
		want := slices.Clone(room)
		given := room[:len(l)]
		pen := Apply(full(), given)
		colour, used := Colour(given)
		if !slices.Equal(room, want) {
			t.Errorf("%v became %v", want, room)
		}
		if wantColour, wantUsed := slowColour(l); colour != wantColour || used != wantUsed {
			t.Errorf("with room behind %v Colour is %d, %d", l, colour, used)
		}
		if pen != slowApply(full(), l) {
			t.Errorf("with room behind %v Apply is %v", l, pen)
		}
	}
}

func TestCallsDoNotHangOnEarlierOnes(t *testing.T) {
	// The same calls in two orders have the same results.
	answer := func(l []int) string {
		colour, used := Colour(l)
		p := Apply(api.Pen{Fg: 3, Marks: api.Faint}, l)
		return fmt.Sprint(colour, used, p, Codes(p))
	}
	var first []string
	for _, l := range lists() {
		first = append(first, answer(l))
	}
	for i, l := range slices.Backward(lists()) {
		if again := answer(l); again != first[i] {
			t.Errorf("%v: %s, and then %s", l, first[i], again)
		}
	}
}
