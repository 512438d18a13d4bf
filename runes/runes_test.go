package runes

import (
	"bytes"
	"math"
	"math/rand"
	"slices"
	"strings"
	"sync"
	"testing"
)

// isPoint is the chapter's sentence on what a code point is.
func isPoint(c rune) bool {
	return c >= 0 && c <= 0x10ffff && (c < 0xd800 || c > 0xdfff)
}

// slowBytes is the chapter's sentence on encodings, by division, so that it shares nothing with Bytes.
func slowBytes(c rune) []byte {
	if !isPoint(c) {
		return []byte{0xef, 0xbf, 0xbd}
	}
	n := int(c)
	switch {
	case n < 0x80:
		return []byte{byte(n)}
	case n < 0x800:
		return []byte{byte(0xc0 + n/64), byte(0x80 + n%64)}
	case n < 0x10000:
		return []byte{byte(0xe0 + n/4096), byte(0x80 + n/64%64), byte(0x80 + n%64)}
	}
	return []byte{byte(0xf0 + n/262144), byte(0x80 + n/4096%64), byte(0x80 + n/64%64), byte(0x80 + n%64)}
}

// whole returns the code point of which s is the encoding, or -1: it computes what the bits would tell and encodes it again.
func whole(s string) rune {
	if s == "" {
		return -1
	}
	c := rune(s[0])
	switch len(s) {
	case 2:
		c -= 0xc0
	case 3:
		c -= 0xe0
	case 4:
		c -= 0xf0
	}
	for i := 1; i < len(s); i++ {
		c = c*64 + rune(s[i]) - 0x80
	}
	if !isPoint(c) || string(slowBytes(c)) != s {
		return -1
	}
	return c
}

// prefixes returns the proper prefixes of the encodings of all code points, without the empty one.
var prefixes = sync.OnceValue(func() map[string]struct{} {
	m := map[string]struct{}{}
	for c := rune(0x80); c <= 0x10ffff; c++ {
		if !isPoint(c) {
			continue
		}
		b := slowBytes(c)
		// The last byte takes 64 values; the other bytes are then the same.
		if c%64 != 0 {
			continue
		}
		for n := 1; n < len(b); n++ {
			m[string(b[:n])] = struct{}{}
		}
	}
	return m
})

func isPrefix(s string) bool {
	_, is := prefixes()[s]
	return is
}

// slowDecoder is the sentences of P8.2 one by one.
type slowDecoder struct{ held string }

func (d *slowDecoder) put(b byte) []rune {
	if d.held == "" {
		return d.first(b)
	}
	s := d.held + string([]byte{b})
	if c := whole(s); c >= 0 {
		d.held = ""
		return []rune{c}
	}
	if isPrefix(s) {
		d.held = s
		return nil
	}
	d.held = ""
	return append([]rune{Broken}, d.first(b)...)
}

func (d *slowDecoder) first(b byte) []rune {
	s := string([]byte{b})
	if c := whole(s); c >= 0 {
		return []rune{c}
	}
	if isPrefix(s) {
		d.held = s
		return nil
	}
	return []rune{Broken}
}

func slowAll(s string) []rune {
	var l []rune
	var d slowDecoder
	for i := range len(s) {
		l = append(l, d.put(s[i])...)
	}
	if d.held != "" {
		l = append(l, Broken)
	}
	return l
}

// slowValid takes encodings off s as long as there are any; no encoding is the start of another one, so there is no choice.
func slowValid(s string) bool {
	for s != "" {
		size := 0
		for n := 1; n <= min(4, len(s)); n++ {
			if whole(s[:n]) >= 0 {
				size = n
			}
		}
		if size == 0 {
			return false
		}
		s = s[size:]
	}
	return true
}

// fed returns a Decoder to which the bytes of s were put.
func fed(s string) *Decoder {
	d := &Decoder{}
	for i := range len(s) {
		d.Put(s[i])
	}
	return d
}

// points are code points at which the encoding becomes longer, their neighbours, and the ends of what is left out.
var points = []rune{0, 1, 'A', 0x7e, 0x7f, 0x80, 0x81, 0xa0, 0xe9, 0x7fe, 0x7ff, 0x800, 0x801, 0xfff, 0x1000, 0x20ac, 0x6f22, 0xcfff, 0xd000, 0xd7ff,
	0xe000, 0xf000, 0xfffc, 0xfffd, 0xfffe, 0xffff, 0x10000, 0x10001, 0x1f600, 0x3ffff, 0x40000, 0xfffff, 0x100000, 0x10fffe, 0x10ffff}

// others are numbers that are not code points.
var others = []rune{-1, -2, -0x41, -0x110000, math.MinInt32, math.MinInt32 + 0x41, 0xd800, 0xd801, 0xdabc, 0xdbff, 0xdc00, 0xdffe, 0xdfff,
	0x110000, 0x110001, 0x1fffff, 0x200000, 0x1000041, math.MaxInt32 - 1, math.MaxInt32}

// corners are the bytes at which something changes, and some between them.
var corners = []byte{0x00, 0x41, 0x7f, 0x80, 0x8f, 0x90, 0x9f, 0xa0, 0xbd, 0xbf, 0xc0, 0xc1, 0xc2, 0xdf, 0xe0, 0xe1, 0xed, 0xee, 0xef, 0xf0, 0xf1, 0xf4, 0xf5, 0xff}

// ordinary are strings of encodings alone.
var ordinary = []string{"", "a", "abc", "\x00", "\x7f", "aé漢😀", "\u0080\u07ff\u0800\ud7ff\ue000\uffff\U00010000\U0010ffff", "\ufffd", "a\ufffdb", "\ufffd\ufffd", "€1", strings.Repeat("漢x", 200)}

// broken are strings that are not, with their code points.
var broken = []struct {
	s    string
	want []rune
}{
	{"\xe2\x82\x41", []rune{Broken, 'A'}},
	{"\xff", []rune{Broken}},
	{"\x80", []rune{Broken}},
	{"\xbf\xbf", []rune{Broken, Broken}},
	{"\xc0\x80", []rune{Broken, Broken}},
	{"\xc1\xbf", []rune{Broken, Broken}},
	{"\xc2", []rune{Broken}},
	{"\xe2\x82", []rune{Broken}},
	{"\xf0\x9f\x98", []rune{Broken}},
	{"a\xc3", []rune{'a', Broken}},
	{"\xc3a", []rune{Broken, 'a'}},
	{"\xc3\xc3\xa9", []rune{Broken, 'é'}},
	{"\xe2\x82\xe2\x82\xac", []rune{Broken, '€'}},
	{"\xf0\x9f\x98\xf0\x9f\x98\x80", []rune{Broken, '😀'}},
	{"\xf0\x9f\x98\xff\x80", []rune{Broken, Broken, Broken}},
	{"\xe2\x82\xff", []rune{Broken, Broken}},
	{"\xe2\x82\xc3", []rune{Broken, Broken}},
	{"\xe0\x9f\xbf", []rune{Broken, Broken, Broken}},
	{"\xe0\xa0\xc0", []rune{Broken, Broken}},
	{"\xed\xa0\x80\xed\xb0\x80", []rune{Broken, Broken, Broken, Broken, Broken, Broken}},
	{"\xf0\x8f\xbf\xbf", []rune{Broken, Broken, Broken, Broken}},
	{"\xf4\x90\x80\x80", []rune{Broken, Broken, Broken, Broken}},
	{"\xf5\x80\x80\x80", []rune{Broken, Broken, Broken, Broken}},
	{"\xf8\x88\x80\x80\x80", []rune{Broken, Broken, Broken, Broken, Broken}},
	{"\xfe\xff", []rune{Broken, Broken}},
	{"\xc3\xa9\xa9", []rune{'é', Broken}},
	{"\ufffd\xff\ufffd", []rune{Broken, Broken, Broken}},
	{"\xef\xbf\ufffd", []rune{Broken, Broken}},
	{"\xef\ufffd", []rune{Broken, Broken}},
	{"\xef\xbf", []rune{Broken}},
	{"\xef\xbf\xbe\xef\xbf", []rune{0xfffe, Broken}},
	{"ab\xe2\x82cd\xf0e", []rune{'a', 'b', Broken, 'c', 'd', Broken, 'e'}},
}

// eachString calls f with all strings of corners of up to most bytes.
func eachString(most int, f func(s string)) {
	level := []string{""}
	for range most + 1 {
		var next []string
		for _, s := range level {
			f(s)
			if len(s) < most {
				for _, b := range corners {
					next = append(next, s+string([]byte{b}))
				}
			}
		}
		level = next
	}
}

// mixed returns n strings of whole encodings, cut ones, and single bytes in a row.
func mixed(n int, seed int64) []string {
	source := rand.New(rand.NewSource(seed))
	l := make([]string, n)
	for i := range l {
		var b []byte
		for range source.Intn(30) {
			p := slowBytes(points[source.Intn(len(points))])
			switch source.Intn(4) {
			case 0:
				p = p[:source.Intn(len(p)+1)]
			case 1:
				p[source.Intn(len(p))] = byte(source.Intn(256))
			case 2:
				p = []byte{corners[source.Intn(len(corners))]}
			}
			b = append(b, p...)
		}
		l[i] = string(b)
	}
	return l
}

// P8.1

func TestBroken(t *testing.T) {
	if Broken != 0xfffd {
		t.Errorf("Broken = %#x", Broken)
	}
}

func TestBytesAtTheEnds(t *testing.T) {
	for _, x := range []struct {
		c    rune
		want string
	}{
		{0, "\x00"},
		{0x41, "A"},
		{0x7f, "\x7f"},
		{0x80, "\xc2\x80"},
		{0x7ff, "\xdf\xbf"},
		{0x800, "\xe0\xa0\x80"},
		{0x20ac, "\xe2\x82\xac"},
		{0xd7ff, "\xed\x9f\xbf"},
		{0xd800, "\xef\xbf\xbd"},
		{0xdfff, "\xef\xbf\xbd"},
		{0xe000, "\xee\x80\x80"},
		{0xfffd, "\xef\xbf\xbd"},
		{0xffff, "\xef\xbf\xbf"},
		{0x10000, "\xf0\x90\x80\x80"},
		{0x10ffff, "\xf4\x8f\xbf\xbf"},
		{0x110000, "\xef\xbf\xbd"},
		{-1, "\xef\xbf\xbd"},
		{math.MinInt32, "\xef\xbf\xbd"},
		{math.MaxInt32, "\xef\xbf\xbd"},
	} {
		if got := string(Bytes(x.c)); got != x.want {
			t.Errorf("Bytes(%#x) = % x, want % x", x.c, got, x.want)
		}
	}
}

func TestBytesOfEveryCodePoint(t *testing.T) {
	for c := rune(-0x1000); c <= 0x111000; c++ {
		if got, want := Bytes(c), slowBytes(c); !bytes.Equal(got, want) {
			t.Fatalf("Bytes(%#x) = % x, want % x", c, got, want)
		}
	}
}

func TestBytesOfWhatIsNoCodePoint(t *testing.T) {
	for _, c := range others {
		if got := string(Bytes(c)); got != "\xef\xbf\xbd" {
			t.Errorf("Bytes(%#x) = % x", c, got)
		}
	}
	for bit := range 32 {
		// A single bit too many must not fall away.
		if c := rune(uint32(0x41) | 1<<bit); !isPoint(c) && string(Bytes(c)) != "\xef\xbf\xbd" {
			t.Errorf("Bytes(%#x) = % x", c, Bytes(c))
		}
	}
}

// P8.2: a Decoder

func TestNewDecoder(t *testing.T) {
	var zero Decoder
	for _, d := range []*Decoder{&zero, {}, new(Decoder)} {
		for range 2 {
			if d.Waits() != 0 {
				t.Errorf("Waits of a new Decoder = %d", d.Waits())
			}
			if l := d.End(); len(l) != 0 {
				t.Errorf("End of a new Decoder = %x", l)
			}
		}
		if l := d.Put('A'); !slices.Equal(l, []rune{'A'}) {
			t.Errorf("Put of A to a new Decoder = %x", l)
		}
	}
}

func TestPutToAnEmptyDecoder(t *testing.T) {
	for x := range 256 {
		var want []rune
		held := 0
		switch {
		case x <= 0x7f:
			want = []rune{rune(x)}
		case x >= 0xc2 && x <= 0xf4:
			held = 1
		default: // 80 to bf continue others; c0 and c1 would start what one byte says; f5 to ff would go above 10ffff
			want = []rune{Broken}
		}
		d := &Decoder{}
		if got := d.Put(byte(x)); !slices.Equal(got, want) || d.Waits() != held {
			t.Errorf("Put(%#x) = %x, %d held, want %x, %d held", x, got, d.Waits(), want, held)
		}
	}
}

func TestPutBehindEveryPrefix(t *testing.T) {
	sizes := map[int]int{}
	for s := range prefixes() {
		sizes[len(s)]++
		start := fed(s)
		if start.Waits() != len(s) {
			t.Fatalf("% x: Waits = %d", s, start.Waits())
		}
		for x := range 256 {
			d, slow := *start, slowDecoder{s}
			got, want := d.Put(byte(x)), slow.put(byte(x))
			if !slices.Equal(got, want) || d.Waits() != len(slow.held) {
				t.Fatalf("Put(%#x) behind % x = %x, %d held, want %x, %d held", x, s, got, d.Waits(), want, len(slow.held))
			}
		}
	}
	// First bytes c2 to f4; seconds for e0 to f4; thirds for f0 to f4.
	if sizes[1] != 51 || sizes[2] != 14*64+2*32+3*64+48+16 || sizes[3] != (3*64+48+16)*64 || len(sizes) != 3 {
		t.Errorf("not all prefixes, or too many: %v", sizes)
	}
}

func TestEveryCodePointIsDecoded(t *testing.T) {
	var d Decoder
	for c := rune(0); c <= 0x10ffff; c++ {
		if !isPoint(c) {
			continue
		}
		b := slowBytes(c)
		for i, x := range b[:len(b)-1] {
			if l := d.Put(x); len(l) != 0 || d.Waits() != i+1 {
				t.Fatalf("%#x: byte %d yields %x, %d held", c, i, l, d.Waits())
			}
		}
		if l := d.Put(b[len(b)-1]); len(l) != 1 || l[0] != c || d.Waits() != 0 {
			t.Fatalf("%#x: its last byte yields %x, %d held", c, l, d.Waits())
		}
	}
}

func TestFirstBytesOfNothing(t *testing.T) {
	var l []int
	for x := 0x80; x <= 0xc1; x++ {
		l = append(l, x)
	}
	for x := 0xf5; x <= 0xff; x++ {
		l = append(l, x)
	}
	for _, x := range l {
		var d Decoder
		for range 3 {
			if got := d.Put(byte(x)); !slices.Equal(got, []rune{Broken}) || d.Waits() != 0 {
				t.Errorf("Put(%#x) = %x, %d held", x, got, d.Waits())
			}
		}
		if got := d.End(); len(got) != 0 {
			t.Errorf("End behind %#x = %x", x, got)
		}
	}
}

func TestSecondBytes(t *testing.T) {
	for _, x := range []struct{ first, low, high byte }{
		{0xc2, 0x80, 0xbf},
		{0xdf, 0x80, 0xbf},
		{0xe0, 0xa0, 0xbf}, // below: an encoding longer than needed
		{0xe1, 0x80, 0xbf},
		{0xec, 0x80, 0xbf},
		{0xed, 0x80, 0x9f}, // above: d800 to dfff
		{0xee, 0x80, 0xbf},
		{0xef, 0x80, 0xbf},
		{0xf0, 0x90, 0xbf}, // below: an encoding longer than needed
		{0xf1, 0x80, 0xbf},
		{0xf3, 0x80, 0xbf},
		{0xf4, 0x80, 0x8f}, // above: greater than 10ffff
	} {
		for _, second := range []byte{x.low, x.low + 1, x.high - 1, x.high} {
			d := fed(string([]byte{x.first}))
			l := d.Put(second)
			if x.first < 0xe0 && (len(l) != 1 || l[0] == Broken || d.Waits() != 0) {
				t.Errorf("%#x, %#x yields %x, %d held", x.first, second, l, d.Waits())
			}
			if x.first >= 0xe0 && (len(l) != 0 || d.Waits() != 2) {
				t.Errorf("%#x, %#x yields %x, %d held", x.first, second, l, d.Waits())
			}
		}
		for _, second := range []byte{x.low - 1, x.high + 1} {
			d := fed(string([]byte{x.first}))
			want := []rune{Broken, Broken}
			if second < 0x80 {
				want[1] = rune(second)
			}
			if l := d.Put(second); !slices.Equal(l, want) || d.Waits() != 0 {
				t.Errorf("%#x, %#x yields %x, %d held, want %x", x.first, second, l, d.Waits(), want)
			}
		}
	}
}

func TestWhatCannotContinue(t *testing.T) {
	for _, held := range []string{"\xc3", "\xe2", "\xe2\x82", "\xe0", "\xed\x80", "\xf0", "\xf0\x9f", "\xf0\x9f\x98", "\xf4\x8f\xbf"} {
		for _, x := range []struct {
			b    byte
			want []rune
			held int
		}{
			{'A', []rune{Broken, 'A'}, 0}, // a code point
			{0, []rune{Broken, 0}, 0},
			{0x7f, []rune{Broken, 0x7f}, 0},
			{0xc2, []rune{Broken}, 1}, // a first byte
			{0xe2, []rune{Broken}, 1},
			{0xf4, []rune{Broken}, 1},
			{0xc0, []rune{Broken, Broken}, 0}, // neither
			{0xc1, []rune{Broken, Broken}, 0},
			{0xf5, []rune{Broken, Broken}, 0},
			{0xff, []rune{Broken, Broken}, 0},
		} {
			d := fed(held)
			if got := d.Put(x.b); !slices.Equal(got, x.want) || d.Waits() != x.held {
				t.Errorf("Put(%#x) behind % x = %x, %d held, want %x, %d held", x.b, held, got, d.Waits(), x.want, x.held)
			}
			// What was held before is gone for what follows.
			if got, want := d.Put('B'), append(slices.Repeat([]rune{Broken}, x.held), 'B'); !slices.Equal(got, want) || d.Waits() != 0 {
				t.Errorf("Put of B behind % x and %#x = %x, %d held", held, x.b, got, d.Waits())
			}
		}
	}
}

func TestAFirstByteThatBreaksIsContinued(t *testing.T) {
	d := fed("\xf0\x9f\x98")
	var got []rune
	for _, b := range []byte("\xe2\x82\xac") {
		got = append(got, d.Put(b)...)
	}
	if !slices.Equal(got, []rune{Broken, 0x20ac}) || d.Waits() != 0 {
		t.Errorf("behind f0 9f 98: %x, %d held", got, d.Waits())
	}
}

func TestWaitsAfterEachByte(t *testing.T) {
	for _, x := range []struct {
		s    string
		want []int
	}{
		{"a", []int{0}},
		{"\xc3\xa9", []int{1, 0}},
		{"\xe2\x82\xac", []int{1, 2, 0}},
		{"\xf0\x9f\x98\x80", []int{1, 2, 3, 0}},
		{"\xe2\x82\x41", []int{1, 2, 0}},
		{"\xe2\x82\xe2\x82\xac", []int{1, 2, 1, 2, 0}},
		{"\xf0\x9f\x98\xff", []int{1, 2, 3, 0}},
		{"\xff\x80\xc0", []int{0, 0, 0}},
		{"\xe0\x80\x80", []int{1, 0, 0}},
		{"\xf4\x8f\xbf\xf4\x90", []int{1, 2, 3, 1, 0}},
		{"\xc2\xc2\xc2", []int{1, 1, 1}},
	} {
		var d Decoder
		for i := range len(x.s) {
			d.Put(x.s[i])
			if d.Waits() != x.want[i] || d.Waits() != x.want[i] {
				t.Errorf("% x: Waits behind byte %d = %d, want %d", x.s, i, d.Waits(), x.want[i])
			}
		}
	}
}

func TestEnd(t *testing.T) {
	for _, held := range []string{"\xc3", "\xe2", "\xe2\x82", "\xf0", "\xf0\x9f", "\xf0\x9f\x98", "a\xc3", "\xff\xf4"} {
		d := fed(held)
		if l := d.End(); !slices.Equal(l, []rune{Broken}) || d.Waits() != 0 {
			t.Errorf("End behind % x = %x, %d held", held, l, d.Waits())
		}
		if l := d.End(); len(l) != 0 {
			t.Errorf("the second End behind % x = %x", held, l)
		}
		for x := range 256 {
			d, fresh := fed(held), fed("")
			d.End()
			if got, want := d.Put(byte(x)), fresh.Put(byte(x)); !slices.Equal(got, want) || d.Waits() != fresh.Waits() {
				t.Errorf("Put(%#x) behind % x and End = %x, want %x", x, held, got, want)
			}
		}
	}
	for _, s := range []string{"", "a", "\xc3\xa9", "\xe2\x82\xac", "\xf0\x9f\x98\x80", "\xff", "\xe2\x82\x41", "\xef\xbf\xbd"} {
		d := fed(s)
		if l := d.End(); len(l) != 0 || d.Waits() != 0 {
			t.Errorf("End behind % x = %x, %d held", s, l, d.Waits())
		}
	}
}

func TestDecoderFollowsTheSentences(t *testing.T) {
	check := func(s string) {
		var d Decoder
		var slow slowDecoder
		for i := range len(s) {
			got, want := d.Put(s[i]), slow.put(s[i])
			if !slices.Equal(got, want) || d.Waits() != len(slow.held) {
				t.Fatalf("% x: byte %d yields %x, %d held, want %x, %d held", s, i, got, d.Waits(), want, len(slow.held))
			}
			if slow.held != "" && !isPrefix(slow.held) {
				t.Fatalf("% x: % x is held", s, slow.held)
			}
		}
		if got := d.End(); len(got) != min(1, len(slow.held)) {
			t.Fatalf("% x: End = %x", s, got)
		}
	}
	eachString(3, check)
	for _, s := range mixed(5000, 82) {
		check(s)
	}
}

// P8.2: All

func TestAllOfNoBytes(t *testing.T) {
	for _, b := range [][]byte{nil, {}, make([]byte, 0, 5)} {
		if l := All(b); len(l) != 0 {
			t.Errorf("All of no bytes = %x", l)
		}
	}
}

func TestAllExamples(t *testing.T) {
	for _, x := range broken {
		if got := All([]byte(x.s)); !slices.Equal(got, x.want) {
			t.Errorf("All(% x) = %x, want %x", x.s, got, x.want)
		}
	}
	if got, want := All([]byte("aé漢😀")), []rune{'a', 0xe9, 0x6f22, 0x1f600}; !slices.Equal(got, want) {
		t.Errorf("All = %x, want %x", got, want)
	}
}

func TestAllThatEndsWithinACodePoint(t *testing.T) {
	for _, c := range points {
		b := slowBytes(c)
		for n := 1; n < len(b); n++ {
			for _, before := range ordinary {
				want := append(slowAll(before), Broken)
				if got := All(append([]byte(before), b[:n]...)); !slices.Equal(got, want) {
					t.Errorf("All(% x, % x) = %x", before, b[:n], got)
				}
			}
		}
	}
}

func TestAllFollowsTheSentences(t *testing.T) {
	for _, s := range append(mixed(5000, 83), ordinary...) {
		if got, want := All([]byte(s)), slowAll(s); !slices.Equal(got, want) {
			t.Fatalf("All(% x) = %x, want %x", s, got, want)
		}
	}
}

// P8.3

func TestValidExamples(t *testing.T) {
	for _, s := range ordinary {
		if !Valid(s) {
			t.Errorf("Valid(% x) is false", s)
		}
	}
	for _, x := range broken {
		if Valid(x.s) {
			t.Errorf("Valid(% x) is true", x.s)
		}
		for _, s := range ordinary {
			if Valid(s+x.s) || Valid(x.s+s) || Valid(s+x.s+s) {
				t.Errorf("Valid(% x) beside % x is true", x.s, s)
			}
		}
	}
}

func TestEveryEncodingIsValid(t *testing.T) {
	var all []byte
	for c := rune(0); c <= 0x10ffff; c++ {
		if !isPoint(c) {
			continue
		}
		b := slowBytes(c)
		if !Valid(string(b)) {
			t.Fatalf("Valid(% x) is false", b)
		}
		if n := len(b) - 1; n > 0 && (Valid(string(b[:n])) || Valid(string(b[1:]))) {
			t.Fatalf("Valid of a piece of % x is true", b)
		}
		all = append(all, b...)
	}
	if !Valid(string(all)) || Valid(string(all)+"\xff") || Valid("\xff"+string(all)) {
		t.Error("Valid of all encodings")
	}
}

func TestRunesExamples(t *testing.T) {
	for _, x := range broken {
		if got := Runes(x.s); !slices.Equal(got, x.want) {
			t.Errorf("Runes(% x) = %x, want %x", x.s, got, x.want)
		}
		if got := Count(x.s); got != len(x.want) {
			t.Errorf("Count(% x) = %d, want %d", x.s, got, len(x.want))
		}
	}
	for _, x := range []struct {
		s    string
		want []rune
	}{
		{"", nil},
		{"a", []rune{'a'}},
		{"aé漢😀", []rune{'a', 0xe9, 0x6f22, 0x1f600}},
		{"\ufffd", []rune{Broken}},
		{"\x00\x7f", []rune{0, 0x7f}},
	} {
		if got := Runes(x.s); !slices.Equal(got, x.want) || Count(x.s) != len(x.want) {
			t.Errorf("Runes(% x) = %x, %d of them, want %x", x.s, got, Count(x.s), x.want)
		}
	}
}

func TestStringsFollowTheSentences(t *testing.T) {
	check := func(s string) {
		want := slowAll(s)
		if got := Runes(s); !slices.Equal(got, want) {
			t.Fatalf("Runes(% x) = %x, want %x", s, got, want)
		}
		if got := Count(s); got != len(want) {
			t.Fatalf("Count(% x) = %d, want %d", s, got, len(want))
		}
		if got := Valid(s); got != slowValid(s) {
			t.Fatalf("Valid(% x) = %t", s, got)
		}
	}
	eachString(4, check)
	for _, l := range [][]string{ordinary, mixed(20000, 84)} {
		for _, s := range l {
			check(s)
		}
	}
}

func TestRunesIsAll(t *testing.T) {
	for _, s := range append(mixed(5000, 85), ordinary...) {
		if got, want := Runes(s), All([]byte(s)); !slices.Equal(got, want) {
			t.Fatalf("Runes(% x) = %x, All is %x", s, got, want)
		}
	}
}

func TestTextExamples(t *testing.T) {
	for _, x := range []struct {
		l    []rune
		want string
	}{
		{nil, ""},
		{[]rune{}, ""},
		{[]rune{'a'}, "a"},
		{[]rune{'a', 0xe9, 0x6f22, 0x1f600}, "aé漢😀"},
		{[]rune{0, 0}, "\x00\x00"},
		{[]rune{Broken}, "\xef\xbf\xbd"},
		{[]rune{-1}, "\xef\xbf\xbd"},
		{[]rune{'a', 0xd800, 0xdc00, 'b'}, "a\xef\xbf\xbd\xef\xbf\xbdb"}, // not the pair of another encoding
		{[]rune{0x110000, math.MaxInt32, math.MinInt32}, "\xef\xbf\xbd\xef\xbf\xbd\xef\xbf\xbd"},
	} {
		if got := Text(x.l); got != x.want {
			t.Errorf("Text(%x) = % x, want % x", x.l, got, x.want)
		}
	}
}

func TestTextIsBytesOfTheElements(t *testing.T) {
	for _, l := range lists(5000, 86) {
		var want []byte
		for _, c := range l {
			want = append(want, slowBytes(c)...)
			if !bytes.Equal(Bytes(c), slowBytes(c)) {
				t.Fatalf("Bytes(%#x) = % x", c, Bytes(c))
			}
		}
		if got := Text(l); got != string(want) {
			t.Fatalf("Text(%x) = % x, want % x", l, got, want)
		}
	}
}

// lists returns n lists of code points and of numbers that are none.
func lists(n int, seed int64) [][]rune {
	source := rand.New(rand.NewSource(seed))
	all := append(slices.Clone(points), others...)
	ls := make([][]rune, n)
	for i := range ls {
		for range source.Intn(20) {
			ls[i] = append(ls[i], all[source.Intn(len(all))])
		}
	}
	return ls
}

// P8.4

// putAll puts the pieces one behind the other to one Decoder and ends it.
func putAll(pieces ...string) []rune {
	var l []rune
	var d Decoder
	for _, p := range pieces {
		for i := range len(p) {
			l = append(l, d.Put(p[i])...)
		}
		d.Waits()
	}
	return append(l, d.End()...)
}

// single returns the bytes of s as pieces of their own.
func single(s string) []string {
	l := make([]string, len(s))
	for i := range l {
		l[i] = s[i : i+1]
	}
	return l
}

func TestPiecesDoNotMatter(t *testing.T) {
	l := append(mixed(1000, 87), ordinary...)
	for _, x := range broken {
		l = append(l, x.s)
	}
	for _, s := range l {
		want := All([]byte(s))
		if got := putAll(s); !slices.Equal(got, want) {
			t.Fatalf("% x in one piece: %x, All is %x", s, got, want)
		}
		if got := putAll(single(s)...); !slices.Equal(got, want) {
			t.Fatalf("% x byte by byte: %x, All is %x", s, got, want)
		}
		for i := range len(s) + 1 {
			if got := putAll(s[:i], s[i:]); !slices.Equal(got, want) {
				t.Fatalf("% x cut at %d: %x, All is %x", s, i, got, want)
			}
			// A Decoder that is at this place after other bytes goes on in the same way.
			d := fed("x\xe2\x82y" + s[:i])
			rest := *fed(s[:i])
			for j := i; j < len(s); j++ {
				if a, b := d.Put(s[j]), rest.Put(s[j]); !slices.Equal(a, b) || d.Waits() != rest.Waits() {
					t.Fatalf("% x from %d on: %x and %x", s, i, a, b)
				}
			}
		}
	}
}

func TestCodePointsOfAText(t *testing.T) {
	for _, l := range append(lists(3000, 88), points, others, nil) {
		want := make([]rune, len(l))
		for i, c := range l {
			want[i] = c
			if !isPoint(c) {
				want[i] = Broken
			}
		}
		s := Text(l)
		if got := Runes(s); !slices.Equal(got, want) || Count(s) != len(l) || !Valid(s) {
			t.Fatalf("Text(%x) = % x, its code points are %x", l, s, got)
		}
		if got := All([]byte(s)); !slices.Equal(got, want) {
			t.Fatalf("All of Text(%x) = %x", l, got)
		}
		// Behind any complete text.
		for _, before := range append(ordinary, "\xff", "\xe2\x82\x41", Text(points), Text(others)) {
			both := append(slowAll(before), want...)
			if got := Runes(before + s); !slices.Equal(got, both) {
				t.Fatalf("Text(%x) behind % x: %x, want %x", l, before, got, both)
			}
			if got := putAll(before, s); !slices.Equal(got, both) {
				t.Fatalf("Text(%x) put behind % x: %x, want %x", l, before, got, both)
			}
		}
	}
}

func TestEveryCodePointOfAText(t *testing.T) {
	var l []rune
	for c := rune(0); c <= 0x10ffff; c++ {
		if isPoint(c) {
			l = append(l, c)
		}
	}
	if got := Runes(Text(l)); !slices.Equal(got, l) {
		t.Error("the code points of a Text of all are others")
	}
	if got := Count(Text(l)); got != len(l) {
		t.Errorf("Count of a Text of all = %d, want %d", got, len(l))
	}
}

// P1 and P2

func TestArgumentsAreNotChanged(t *testing.T) {
	for _, x := range append(mixed(200, 89), ordinary...) {
		backing := append([]byte(x), "behind it"...)
		before := slices.Clone(backing)
		All(backing[:len(x)])
		if !bytes.Equal(backing, before) {
			t.Errorf("All changed its argument or what is behind it: % x", backing)
		}
	}
	for _, x := range lists(200, 90) {
		backing := append(slices.Clone(x), 'x', 'y', 'z')
		before := slices.Clone(backing)
		Text(backing[:len(x)])
		if !slices.Equal(backing, before) {
			t.Errorf("Text changed its argument or what is behind it: %x", backing)
		}
	}
}

func TestArgumentsAreNotKept(t *testing.T) {
	b := []byte("aé\xe2\x82漢")
	first := All(b)
	clear(b)
	if want := []rune{'a', 0xe9, Broken, 0x6f22}; !slices.Equal(first, want) {
		t.Errorf("a change of an argument changed All: %x", first)
	}
	l := []rune{'a', 0xe9, -1}
	s := Text(l)
	clear(l)
	if s != "aé\ufffd" {
		t.Errorf("a change of an argument changed Text: % x", s)
	}
}

// spoil overwrites a result with its spare capacity.
func spoil[T byte | rune](l []T) {
	l = l[:cap(l)]
	for i := range l {
		l[i] = 77
	}
}

func TestResultsAreNew(t *testing.T) {
	for _, c := range append(slices.Clone(points), others...) {
		spoil(Bytes(c))
		if got := Bytes(c); !bytes.Equal(got, slowBytes(c)) {
			t.Errorf("a change of Bytes(%#x) changed the next one: % x", c, got)
		}
	}
	for _, s := range append(mixed(200, 91), ordinary...) {
		b := []byte(s)
		spoil(All(b))
		spoil(Runes(s))
		if string(b) != s || !slices.Equal(All(b), slowAll(s)) || !slices.Equal(Runes(s), slowAll(s)) {
			t.Errorf("a change of the code points of % x changed something else", s)
		}
		var d Decoder
		var slow slowDecoder
		for i := range len(s) {
			l := d.Put(s[i])
			if want := slow.put(s[i]); !slices.Equal(l, want) || d.Waits() != len(slow.held) {
				t.Errorf("a change of a result of Put changed the next one, % x at %d: %x, want %x", s, i, l, want)
			}
			spoil(l)
		}
		spoil(d.End())
	}
	d := fed("\xe2")
	spoil(d.End())
	d.Put(0xe2)
	if l := d.End(); !slices.Equal(l, []rune{Broken}) {
		t.Errorf("a change of a result of End changed the next one: %x", l)
	}
}

func TestResultsStay(t *testing.T) {
	var d Decoder
	var all [][]rune
	var want [][]rune
	var slow slowDecoder
	for _, s := range mixed(200, 92) {
		for i := range len(s) {
			all = append(all, d.Put(s[i]))
			want = append(want, slow.put(s[i]))
		}
	}
	if !slices.EqualFunc(all, want, slices.Equal) {
		t.Error("a later Put changed an earlier result")
	}
}

func TestDecodersDoNotShare(t *testing.T) {
	a, b := fed("\xf0\x9f"), fed("\xe2")
	copied := *a
	a.Put(0x98)
	b.Put(0x82)
	if a.Waits() != 3 || b.Waits() != 2 || copied.Waits() != 2 {
		t.Errorf("held: %d, %d and %d", a.Waits(), b.Waits(), copied.Waits())
	}
	copied.Put(0xa0)
	for _, x := range []struct {
		d    *Decoder
		b    byte
		want rune
	}{{a, 0x80, 0x1f600}, {b, 0xac, 0x20ac}, {&copied, 0x80, 0x1f800}} {
		if l := x.d.Put(x.b); !slices.Equal(l, []rune{x.want}) || x.d.Waits() != 0 {
			t.Errorf("Put(%#x) = %x, want %x", x.b, l, x.want)
		}
	}
}

func TestCallsDoNotDependOnEarlierOnes(t *testing.T) {
	// A Decoder that holds bytes is nothing to All and Runes.
	d := fed("\xf0\x9f\x98")
	for _, x := range broken {
		All([]byte("\xe2\x82"))
		Runes("\xf0\x9f")
		if got := All([]byte(x.s)); !slices.Equal(got, x.want) {
			t.Errorf("All(% x) behind others = %x", x.s, got)
		}
		if got := Runes(x.s); !slices.Equal(got, x.want) {
			t.Errorf("Runes(% x) behind others = %x", x.s, got)
		}
	}
	if l := d.Put(0x80); !slices.Equal(l, []rune{0x1f600}) {
		t.Errorf("other calls changed a Decoder: %x", l)
	}
}

func TestAnyBytesAreTaken(t *testing.T) {
	source := rand.New(rand.NewSource(1))
	for range 5000 {
		b := make([]byte, source.Intn(100))
		source.Read(b)
		l := All(b)
		if len(l) > len(b) || len(b) > 4*len(l) {
			t.Fatalf("All(% x) has %d code points", b, len(l))
		}
		for _, c := range l {
			if !isPoint(c) {
				t.Fatalf("All(% x) yields %#x", b, c)
			}
		}
		if Count(string(b)) != len(l) || Valid(string(b)) != (Text(l) == string(b)) {
			t.Fatalf("% x: Count = %d, Valid = %t", b, Count(string(b)), Valid(string(b)))
		}
	}
}

func TestLongStrings(t *testing.T) {
	for _, x := range []struct {
		s    string
		want int
	}{
		{strings.Repeat("a", 1<<20), 1 << 20},
		{strings.Repeat("😀", 1<<18), 1 << 18},
		{strings.Repeat("\xff", 1<<20), 1 << 20},
		{strings.Repeat("\xe2\x82", 1<<19), 1 << 19},
		{strings.Repeat("\xf0\x9f\x98", 1<<18), 1 << 18},
	} {
		if Count(x.s) != x.want || len(All([]byte(x.s))) != x.want {
			t.Errorf("%d bytes from % x on: Count = %d, want %d", len(x.s), x.s[:4], Count(x.s), x.want)
		}
	}
}
