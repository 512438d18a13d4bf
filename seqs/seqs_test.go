package seqs

import (
	"bytes"
	"fmt"
	"math"
	"math/rand"
	"regexp"
	"slices"
	"strconv"
	"strings"
	"testing"

	"baton/api"
	"baton/runes"
)

// Actions by their fields.

func char(c rune) Act { return Act{Kind: 1, Rune: c} }

func control(b byte) Act { return Act{Kind: 2, Byte: b} }

func escaped(inter, b byte) Act { return Act{Kind: 3, Byte: b, Inter: inter} }

func csi(b byte, params ...int) Act { return Act{Kind: 4, Byte: b, Params: params} }

func osc(text string) Act { return Act{Kind: 5, Text: text} }

// with returns the control sequence a with a Mark and an Inter.
func with(mark, inter byte, a Act) Act {
	a.Mark, a.Inter = mark, inter
	return a
}

// chars returns the actions of the runes of s.
func chars(s string) []Act {
	var l []Act
	for _, c := range s {
		l = append(l, char(c))
	}
	return l
}

func same(a, b Act) bool {
	return a.Kind == b.Kind && a.Rune == b.Rune && a.Byte == b.Byte && a.Inter == b.Inter && a.Mark == b.Mark && slices.Equal(a.Params, b.Params) && a.Text == b.Text
}

func sameList(a, b []Act) bool { return slices.EqualFunc(a, b, same) }

// The model: the chapter's sentences on whole byte sequences, one after the other, without a state between bytes.

// slow is bytes that are not read yet, what those ahead of them yielded, and whether the bytes end within something.
type slow struct {
	rest string
	acts []Act
	open bool
}

func slowRead(s string) slow {
	m := slow{rest: s}
	for m.rest != "" {
		m.plain()
	}
	return m
}

func slowAll(s string) []Act { return slowRead(s).acts }

func (m *slow) yield(a Act) { m.acts = append(m.acts, a) }

// plain takes bytes for the decoder, and the byte behind them.
func (m *slow) plain() {
	var d runes.Decoder
	for m.rest != "" && m.rest[0] >= 0x20 && m.rest[0] != 0x7f {
		m.prints(d.Put(m.take()))
	}
	if m.rest == "" {
		m.open = d.Waits() > 0
		return
	}
	m.prints(d.End())
	switch b := m.take(); b {
	case 0x18, 0x1a, 0x7f:
	case 0x1b:
		m.escape()
	default:
		m.yield(control(b))
	}
}

func (m *slow) take() byte {
	b := m.rest[0]
	m.rest = m.rest[1:]
	return b
}

func (m *slow) prints(l []rune) {
	for _, c := range l {
		if 0x20 <= c && c <= 0x7e || c >= 0xa0 {
			m.yield(char(c))
		}
	}
}

// until returns the bytes up to one from first to 7e and that one, or 0 for it if something else ends the sequence.
func (m *slow) until(first byte) (string, byte) {
	var body []byte
	for m.rest != "" {
		if b := m.rest[0]; b == 0x18 || b == 0x1a || b == 0x1b || b > 0x7f {
			// What these do, they do in the plain state too.
			return "", 0
		}
		b := m.take()
		switch {
		case b < 0x20:
			m.yield(control(b))
		case b == 0x7f:
		case b >= first:
			return string(body), b
		default:
			body = append(body, b)
		}
	}
	m.open = true
	return "", 0
}

func (m *slow) escape() {
	inters, last := m.until(0x30)
	switch {
	case last == 0 || len(inters) > 1:
	case len(inters) == 1:
		m.yield(escaped(inters[0], last))
	case last == '[':
		m.sequence()
	case last == ']':
		m.text(true)
	case last == 'P' || last == 'X' || last == '^' || last == '_':
		m.text(false)
	default:
		m.yield(escaped(0, last))
	}
}

// slowForm is how the bytes of a valid control sequence follow one another.
var slowForm = regexp.MustCompile(`^([\x3c-\x3f]?)([\x30-\x39\x3b]*)([\x20-\x2f]?)$`)

func (m *slow) sequence() {
	body, last := m.until(0x40)
	l := slowForm.FindStringSubmatch(body)
	if last == 0 || l == nil {
		return
	}
	m.yield(with(onlyByte(l[1]), onlyByte(l[3]), csi(last, slowNumbers(l[2])...)))
}

func onlyByte(s string) byte {
	if s == "" {
		return 0
	}
	return s[0]
}

func slowNumbers(s string) []int {
	var l []int
	if s == "" {
		return nil
	}
	for _, x := range strings.Split(s, ";") {
		n := -1
		if x != "" {
			x = strings.TrimLeft(x, "0")
			n, _ = strconv.Atoi("0" + x)
			if len(x) > 4 {
				n = 9999
			}
		}
		l = append(l, n)
	}
	return l[:min(16, len(l))]
}

func (m *slow) text(told bool) {
	var text []byte
	for m.rest != "" {
		b := m.rest[0]
		if b == 0x18 || b == 0x1a {
			return
		}
		if b == 0x1b || b == 7 && told {
			if told {
				m.yield(osc(string(text[:min(256, len(text))])))
			}
			if b == 7 {
				m.take()
			}
			return
		}
		m.take()
		if b >= 0x20 && b != 0x7f {
			text = append(text, b)
		}
	}
	m.open = true
}

// slowRight is what P13.6 says of each kind.
func slowRight(a Act) bool {
	interFits := a.Inter == 0 || a.Inter >= 0x20 && a.Inter < 0x30
	switch a.Kind {
	case 1:
		return same(a, char(a.Rune)) && (a.Rune >= 0x20 && a.Rune < 0x7f || a.Rune >= 0xa0 && a.Rune < 0xd800 || a.Rune >= 0xe000 && a.Rune < 0x110000)
	case 2:
		return same(a, control(a.Byte)) && strings.Contains("\x00\x01\x02\x03\x04\x05\x06\x07\x08\x09\x0a\x0b\x0c\x0d\x0e\x0f\x10\x11\x12\x13\x14\x15\x16\x17\x19\x1c\x1d\x1e\x1f", string([]byte{a.Byte}))
	case 3:
		return same(a, escaped(a.Inter, a.Byte)) && interFits && a.Byte >= 0x30 && a.Byte < 0x7f && (a.Inter != 0 || !strings.Contains("[]PX^_", string([]byte{a.Byte})))
	case 4:
		for _, n := range a.Params {
			if n < -1 || n > 9999 {
				return false
			}
		}
		fits := a.Mark == 0 || a.Mark > 0x3b && a.Mark < 0x40
		return same(a, with(a.Mark, a.Inter, csi(a.Byte, a.Params...))) && interFits && fits && a.Byte >= 0x40 && a.Byte < 0x7f && len(a.Params) < 17 && !slices.Equal(a.Params, []int{-1})
	case 5:
		for i := range len(a.Text) {
			if a.Text[i] < 0x20 || a.Text[i] == 0x7f {
				return false
			}
		}
		return same(a, osc(a.Text)) && len(a.Text) < 257
	}
	return false
}

// slowBytes is P13.6, for a right action.
func slowBytes(a Act) string {
	inter, mark := "", ""
	if a.Inter != 0 {
		inter = string(rune(a.Inter))
	}
	if a.Mark != 0 {
		mark = string(rune(a.Mark))
	}
	switch a.Kind {
	case 1:
		return string(a.Rune)
	case 2:
		return string(rune(a.Byte))
	case 3:
		return "\x1b" + inter + string(rune(a.Byte))
	case 4:
		var l []string
		for _, n := range a.Params {
			if n == -1 {
				l = append(l, "")
			} else {
				l = append(l, strconv.Itoa(n))
			}
		}
		return "\x1b[" + mark + strings.Join(l, ";") + inter + string(rune(a.Byte))
	}
	return "\x1b]" + a.Text + "\x07"
}

// Checks.

// put puts s byte by byte and returns what that yields.
func put(p *Parser, s string) []Act {
	var l []Act
	for i := range len(s) {
		l = append(l, p.Put(s[i])...)
	}
	return l
}

// yields checks the actions of s, and that its last byte leaves nothing open.
func yields(t *testing.T, s string, want ...Act) {
	t.Helper()
	checks(t, s, false, want)
}

// stays is like yields for an s that leaves something open.
func stays(t *testing.T, s string, want ...Act) {
	t.Helper()
	checks(t, s, true, want)
}

func checks(t *testing.T, s string, open bool, want []Act) {
	t.Helper()
	if got := All([]byte(s)); !sameList(got, want) {
		t.Errorf("All(%q) = %+v, want %+v", s, got, want)
	}
	var p Parser
	if got := put(&p, s); !sameList(got, want) {
		t.Errorf("%q byte by byte yields %+v, want %+v", s, got, want)
	}
	if p.Open() != open {
		t.Errorf("%q: Open = %t", s, !open)
	}
	// The expectation itself follows the sentences.
	if m := slowRead(s); !sameList(m.acts, want) || m.open != open {
		t.Errorf("%q by the sentences: %+v, open %t, want %+v, %t", s, m.acts, m.open, want, open)
	}
}

// follows checks s against the sentences after each of its bytes.
func follows(t *testing.T, s string) {
	t.Helper()
	var p Parser
	var got []Act
	for i := range len(s) {
		got = append(got, p.Put(s[i])...)
		m := slowRead(s[:i+1])
		if !sameList(got, m.acts) || p.Open() != m.open {
			t.Fatalf("%q: %+v, open %t, want %+v, %t", s[:i+1], got, p.Open(), m.acts, m.open)
		}
	}
	if l := All([]byte(s)); !sameList(l, got) {
		t.Fatalf("All(%q) = %+v, want %+v", s, l, got)
	}
}

// state is bytes that lead a zero Parser to a state, and what they yield.
type state struct {
	s    string
	acts []Act
}

// within are states in escape sequences and control sequences, valid and invalid ones.
func within() []state {
	return []state{
		{"\x1b", nil}, {"a\x1b", chars("a")}, {"\xe2\x1b", chars("\ufffd")}, {"\x1b#", nil}, {"\x1b /", nil}, {"\x1b   ", nil},
		{"\x1b[", nil}, {"\x1b[?", nil}, {"\x1b[1", nil}, {"\x1b[;", nil}, {"\x1b[1;23", nil}, {"\x1b[>1;", nil}, {"\x1b[ ", nil}, {"\x1b[?1!", nil},
		{"\x1b[!!", nil}, {"\x1b[1?", nil}, {"\x1b[??", nil}, {"\x1b[:", nil}, {"\x1b[1:2", nil}, {"\x1b[ 1", nil}, {"\x1b[ ;", nil}, {"\x1b[ ?", nil},
	}
}

// plains are ways to the plain state, with nothing held by the decoder.
func plains() []state {
	return []state{
		{"", nil}, {"a", chars("a")}, {"é", chars("é")}, {"\r", []Act{control('\r')}}, {"\x7f", nil}, {"\x1b[\x18", nil}, {"\x1bc", []Act{escaped(0, 'c')}},
		{"\x1b]2;x\x07", []Act{osc("2;x")}}, {"\x1bPq\x1b\\", []Act{escaped(0, '\\')}}, {"\x1b[1:m", nil}, {"\x1b[2é", chars("é")},
	}
}

// held are ways to the plain state in which the decoder holds bytes.
func held() []state {
	return []state{{"\xc3", nil}, {"\xe2", nil}, {"\xe2\x82", nil}, {"\xf0\x9f\x98", nil}, {"a\xe2", chars("a")}, {"\xe2\xc3", chars("\ufffd")}, {"\x1b\xe2", nil}, {"\x1b[1\xe2\x82", nil}}
}

// reportedStates and ignoredStates are within strings that became, or do not become, the text abc.
func reportedStates() []state {
	return []state{{"\x1b]abc", nil}, {"\x1b]a\x7fbc", nil}, {"\x1b]\nab\x00c\x1f", nil}, {"\r\x1b]abc", []Act{control('\r')}}}
}

func ignoredStates() []state {
	return []state{{"\x1bP", nil}, {"\x1bX", nil}, {"\x1b^", nil}, {"\x1b_", nil}, {"\x1bPabc", nil}, {"\x1bXa\x07b", nil}, {"\x1b^\x00\n", nil}, {"\x1b_é", nil}, {"\xe2\x1bPabc", chars("\ufffd")}}
}

func everyState() []state {
	return slices.Concat(plains(), held(), within(), reportedStates(), ignoredStates())
}

// otherControls are those that are not 18, 1a and 1b.
func otherControls() []byte {
	var l []byte
	for b := range byte(0x20) {
		if b != 0x18 && b != 0x1a && b != 0x1b {
			l = append(l, b)
		}
	}
	return l
}

func text(b ...byte) string { return string(b) }

// and returns a list with more actions behind.
func and(l []Act, more ...Act) []Act { return append(slices.Clone(l), more...) }

// P13.1

func TestPrintableRunes(t *testing.T) {
	yields(t, "")
	yields(t, "a", char('a'))
	yields(t, " ", char(0x20))
	yields(t, "~", char(0x7e))
	yields(t, "\u00a0", char(0xa0))
	yields(t, "\u00a1", char(0xa1))
	yields(t, "\U0010ffff", char(0x10ffff))
	yields(t, "\ufffd", char(0xfffd))
	yields(t, "\ud7ff\ue000\U00010000", char(0xd7ff), char(0xe000), char(0x10000))
	yields(t, "aé漢😀 b", chars("aé漢😀 b")...)
	for b := byte(0x20); b < 0x7f; b++ {
		yields(t, text(b), char(rune(b)))
	}
	for c := rune(0xa0); c < 0x110000; c += 1 + c/7 {
		if c < 0xd800 || c > 0xdfff {
			yields(t, string(c), char(c))
		}
	}
}

func TestOtherRunesYieldNothing(t *testing.T) {
	for c := rune(0x80); c < 0xa0; c++ {
		yields(t, string(c))
		yields(t, "a"+string(c)+"b\n", char('a'), char('b'), control('\n'))
	}
	yields(t, "\u0080\u009f\u00a0", char(0xa0))
	yields(t, "\u009b1mx", char('1'), char('m'), char('x'))
}

// badText is malformed bytes that leave nothing held, each with the number of their Brokens.
func badText() map[string]int {
	return map[string]int{"\xff": 1, "\x80": 1, "\xc0": 1, "\xc1\xbf": 2, "\xff\xfe": 2, "\xe2\x82\xff": 2, "\xed\xa0\x80": 3, "\xf4\x90\x80\x80": 4, "\xf5": 1, "\xe2\xff": 2}
}

// cutText is bytes that leave some held, each with the number of Brokens once they are ended.
func cutText() map[string]int {
	return map[string]int{"\xc3": 1, "\xe2": 1, "\xe2\x82": 1, "\xf0\x9f\x98": 1, "\xf4\x8f": 1, "\xff\xe2": 2, "\xe2\xe2": 2, "\xe2\x82\xf0": 2}
}

func broken(n int) []Act { return slices.Repeat([]Act{char(0xfffd)}, n) }

func TestMalformedBytes(t *testing.T) {
	yields(t, "\xe2\x82A", char(0xfffd), char('A'))
	yields(t, "\xffA", char(0xfffd), char('A'))
	for s, n := range badText() {
		yields(t, s, broken(n)...)
		yields(t, s+"a", and(broken(n), char('a'))...)
		yields(t, s+"\x7f", broken(n)...)
		yields(t, s+"\x18", broken(n)...)
		yields(t, s+"\x1a", broken(n)...)
		stays(t, s+"\x1b", broken(n)...)
		for _, b := range otherControls() {
			yields(t, s+text(b), and(broken(n), control(b))...)
		}
	}
}

func TestIncompleteBytes(t *testing.T) {
	for s, n := range cutText() {
		// At the end nothing ends the decoder, so its last Broken is not there yet.
		stays(t, s, broken(n-1)...)
		yields(t, s+"a", and(broken(n), char('a'))...)
		yields(t, s+"\x7f", broken(n)...)
		yields(t, s+"\x7f\x7f\n", and(broken(n), control('\n'))...)
		yields(t, s+"\x18", broken(n)...)
		yields(t, s+"\x1a", broken(n)...)
		stays(t, s+"\x1b", broken(n)...)
		yields(t, s+"\x1b[m", and(broken(n), csi('m'))...)
		for _, b := range otherControls() {
			yields(t, s+text(b), and(broken(n), control(b))...)
		}
		var p Parser
		put(&p, s)
		for _, x := range []byte{0x7f, 0x18, 0x1a, 0x1b} {
			q := p
			if l := q.Put(x); !sameList(l, broken(1)) {
				t.Errorf("%x behind %q yields %+v", x, s, l)
			}
		}
	}
	// What ends a code point comes too late behind each of these.
	for _, b := range []string{"\n", "\x7f", "\x18", "\x1bc", "\x1b[m", "\x1b]\x07"} {
		yields(t, "\xe2\x82"+b+"\xac", slices.Concat(broken(1), slowAll(b), broken(1))...)
	}
}

// P13.2

func TestAbort(t *testing.T) {
	for _, x := range everyState() {
		acts := x.acts
		if slices.ContainsFunc(held(), func(h state) bool { return h.s == x.s }) {
			acts = and(acts, char(0xfffd)) // P13.1: before the byte is processed
		}
		for _, b := range []string{"\x18", "\x1a", "\x18\x1a", "\x1a\x1a\x18"} {
			yields(t, x.s+b, acts...)
			// It is the plain state, without anything left of what was open.
			yields(t, x.s+b+"1;2m\x07x", and(acts, slices.Concat(chars("1;2m"), []Act{control(7), char('x')})...)...)
			yields(t, x.s+b+"[A]P", and(acts, chars("[A]P")...)...)
			yields(t, x.s+b+"\x1b[3m", and(acts, csi('m', 3))...)
			yields(t, x.s+b+"\x1b]z\x07", and(acts, osc("z"))...)
			yields(t, x.s+b+"\x1bM", and(acts, escaped(0, 'M'))...)
		}
	}
}

func TestEscapeInEveryState(t *testing.T) {
	starts := func(states []state, yielded ...Act) {
		t.Helper()
		for _, x := range states {
			acts := and(x.acts, yielded...)
			stays(t, x.s+"\x1b", acts...)
			stays(t, x.s+"\x1b\x1b\x1b", acts...)
			yields(t, x.s+"\x1bM", and(acts, escaped(0, 'M'))...)
			yields(t, x.s+"\x1b#8", and(acts, escaped('#', '8'))...)
			yields(t, x.s+"\x1b[3m", and(acts, csi('m', 3))...)
			yields(t, x.s+"\x1b[m", and(acts, csi('m'))...)
			yields(t, x.s+"\x1b[?1 q", and(acts, with('?', ' ', csi('q', 1)))...)
			yields(t, x.s+"\x1b]z\x07", and(acts, osc("z"))...)
			yields(t, x.s+"\x1b\x1bPz\x1b\\", and(acts, escaped(0, '\\'))...)
		}
	}
	starts(plains())
	starts(held(), char(0xfffd))
	starts(within())
	starts(reportedStates(), osc("abc"))
	starts(ignoredStates())
}

func TestDeleteInEveryState(t *testing.T) {
	for _, x := range slices.Concat(plains(), within(), reportedStates(), ignoredStates()) {
		for _, rest := range []string{"", "m", "8", "[", "1;2m", "?1m", " q", ":m", "]z\x07", "abc\x1b\\", "é", "\x18a", "\n", "\x07"} {
			with, without := slowRead(x.s+"\x7f"+rest), slowRead(x.s+rest)
			if !sameList(with.acts, without.acts) || with.open != without.open {
				t.Fatalf("%q and %q differ by the sentences themselves", x.s, rest)
			}
			checks(t, x.s+"\x7f"+rest, without.open, without.acts)
			checks(t, x.s+"\x7f\x7f\x7f"+rest, without.open, without.acts)
		}
	}
	for _, x := range held() {
		yields(t, x.s+"\x7f", and(x.acts, char(0xfffd))...)
		yields(t, x.s+"\x7f\x7fa", and(x.acts, char(0xfffd), char('a'))...)
	}
	yields(t, "a\x7fb", chars("ab")...)
	yields(t, "\x7f")
	yields(t, "\x1b\x7f[\x7f?\x7f1\x7f2\x7f;\x7f3\x7f \x7fq", with('?', ' ', csi('q', 12, 3)))
	yields(t, "\x1b\x7f(\x7fB", escaped('(', 'B'))
	yields(t, "\x1b\x7f]\x7f2\x7f;t\x7f\x07", osc("2;t"))
}

func TestControlsInEveryState(t *testing.T) {
	for _, b := range otherControls() {
		yields(t, text(b), control(b))
		yields(t, text(b, b), control(b), control(b))
		yields(t, "a"+text(b)+"b", char('a'), control(b), char('b'))
		for _, x := range held() {
			yields(t, x.s+text(b), and(x.acts, char(0xfffd), control(b))...)
		}
		for _, x := range plains() {
			yields(t, x.s+text(b)+"3m", and(x.acts, control(b), char('3'), char('m'))...)
		}
		for _, x := range within() {
			acts := and(x.acts, control(b))
			stays(t, x.s+text(b), acts...)
			// Nothing else has changed.
			for _, rest := range []string{"m", "8", "[m", "1;2m", "?1m", " q", ":m", "]z\x07", "abc\x1b\\", "é"} {
				without := slowRead(x.s + rest)
				checks(t, x.s+text(b)+rest, without.open, and(acts, without.acts[len(x.acts):]...))
			}
		}
		yields(t, "\x1b"+text(b)+"["+text(b)+"?"+text(b)+"1"+text(b)+"2;"+text(b)+" "+text(b)+"q",
			control(b), control(b), control(b), control(b), control(b), control(b), with('?', ' ', csi('q', 12, -1)))
	}
	yields(t, "\x1b[1\r;2H", control('\r'), csi('H', 1, 2))
}

// P13.3

func inters() []byte {
	var l []byte
	for b := byte(0x20); b < 0x30; b++ {
		l = append(l, b)
	}
	return l
}

func TestEscapeSequences(t *testing.T) {
	yields(t, "\x1b7\x1b8", escaped(0, '7'), escaped(0, '8'))
	yields(t, "\x1bcx", escaped(0, 'c'), char('x'))
	for b := byte(0x30); b < 0x7f; b++ {
		s := text(b)
		if !strings.Contains("[]PX^_", s) {
			yields(t, "\x1b"+s, escaped(0, b))
			yields(t, "\x1b"+s+"mx", and([]Act{escaped(0, b)}, chars("mx")...)...)
		}
		for _, i := range inters() {
			yields(t, "\x1b"+text(i)+s, escaped(i, b))
			yields(t, "\x1b"+text(i)+s+"z\x07", escaped(i, b), char('z'), control(7))
			for _, j := range inters() {
				yields(t, "\x1b"+text(i, j)+s)
			}
			yields(t, "\x1b"+text(i, i, i)+s+"x", char('x'))
		}
	}
	for _, i := range inters() {
		stays(t, "\x1b"+text(i))
		stays(t, "\x1b"+text(i, i))
		stays(t, "\x1b"+text(i)+"\x1b")
	}
}

func TestWhatEscapeStarts(t *testing.T) {
	for _, s := range []string{"[", "]", "P", "X", "^", "_"} {
		stays(t, "\x1b"+s)
		stays(t, "\x1b\n"+s, control('\n'))
		stays(t, "\x1b\x7f"+s)
		stays(t, "\x1b((\x1b"+s)
		// With an Inter they start nothing.
		yields(t, "\x1b("+s, escaped('(', s[0]))
		yields(t, "\x1b("+s+"3m\x07", escaped('(', s[0]), char('3'), char('m'), control(7))
		yields(t, "\x1b( "+s)
		yields(t, "\x1b( "+s+"3m\x07", char('3'), char('m'), control(7))
	}
	yields(t, "\x1b[3m", csi('m', 3))
	yields(t, "\x1b]3m\x07", osc("3m"))
	for _, s := range []string{"P", "X", "^", "_"} {
		stays(t, "\x1b"+s+"3m\x07z")
		yields(t, "\x1b"+s+"3m\x07z\x1b\\", escaped(0, '\\'))
	}
}

// highBytes is bytes of at least 80, what they yield in the plain state, and whether they are held there.
func highBytes() map[byte]state {
	m := map[byte]state{}
	for b := 0x80; b < 0x100; b++ {
		m[byte(b)] = state{"", broken(1)}
		if b >= 0xc2 && b <= 0xf4 {
			m[byte(b)] = state{"held", nil}
		}
	}
	return m
}

func TestHighBytesEndSequences(t *testing.T) {
	for _, x := range within() {
		for b, y := range highBytes() {
			checks(t, x.s+text(b), y.s == "held", and(x.acts, y.acts...))
		}
		yields(t, x.s+"é3m", and(x.acts, chars("é3m")...)...)
		yields(t, x.s+"😀\x07", and(x.acts, char('😀'), control(7))...)
		yields(t, x.s+"\u0085[", and(x.acts, char('['))...)
		yields(t, x.s+"\xff\x1b[4m", and(x.acts, char(0xfffd), csi('m', 4))...)
		yields(t, x.s+"\xe2m", and(x.acts, char(0xfffd), char('m'))...)
	}
}

// P13.4

func TestTheExample(t *testing.T) {
	yields(t, "\x1b\x5b\x31\x3b\x6d", csi(0x6d, 1, -1))
}

func TestMarks(t *testing.T) {
	for b := byte(0x3c); b < 0x40; b++ {
		s := text(b)
		yields(t, "\x1b["+s+"m", with(b, 0, csi('m')))
		yields(t, "\x1b["+s+"25l", with(b, 0, csi('l', 25)))
		yields(t, "\x1b["+s+";q", with(b, 0, csi('q', -1, -1)))
		yields(t, "\x1b["+s+"$p", with(b, '$', csi('p')))
		yields(t, "\x1b["+s+"1;2$p", with(b, '$', csi('p', 1, 2)))
		// Controls and 7f are not counted.
		yields(t, "\x1b[\n"+s+"1m", control('\n'), with(b, 0, csi('m', 1)))
		yields(t, "\x1b[\x7f"+s+"1m", with(b, 0, csi('m', 1)))
		yields(t, "\x1b[\x00\x7f\x1f"+s+"m", control(0), control(0x1f), with(b, 0, csi('m')))
		// Anything else ahead of it makes it invalid, also a Mark.
		for first := byte(0x20); first < 0x40; first++ {
			yields(t, "\x1b["+text(first)+s+"mx", char('x'))
			yields(t, "\x1b["+text(first)+s+"1mx", char('x'))
			yields(t, "\x1b["+text(first)+"\n"+s+"mx", control('\n'), char('x'))
			yields(t, "\x1b["+text(first)+"\x7f"+s+"mx", char('x'))
		}
		for _, before := range []string{"0", "1;", ";;", "12", "?1", "1 ", ":"} {
			yields(t, "\x1b["+before+s+"m")
			yields(t, "\x1b["+before+s+"1;2 mx", char('x'))
		}
	}
	// No Mark is left for the next one.
	yields(t, "\x1b[?1h\x1b[1h", with('?', 0, csi('h', 1)), csi('h', 1))
	yields(t, "\x1b[1?h\x1b[1h\x1b[>h", csi('h', 1), with('>', 0, csi('h')))
}

func TestColonsAreInvalid(t *testing.T) {
	for _, s := range []string{":", "1:2", ":1", "1:", "?:", "?1:2", "1;2:3", "38:5:7", " :", "1 :", "::"} {
		yields(t, "\x1b["+s+"m")
		yields(t, "\x1b["+s+"mx\x1b[2m", char('x'), csi('m', 2))
		yields(t, "\x1b["+s+"1;2 q")
	}
}

func TestNumbersBehindAnInterAreInvalid(t *testing.T) {
	for _, i := range inters() {
		for _, b := range []byte("0123456789;") {
			yields(t, "\x1b["+text(i, b)+"m")
			yields(t, "\x1b[1"+text(i, b)+"mx", char('x'))
			yields(t, "\x1b[?"+text(i, b)+"m")
			yields(t, "\x1b["+text(i)+"\n\x7f"+text(b)+"m", control('\n'))
			yields(t, "\x1b["+text(i, b, i)+"m")
		}
	}
}

func TestIntersOfControlSequences(t *testing.T) {
	for _, i := range inters() {
		yields(t, "\x1b["+text(i)+"q", with(0, i, csi('q')))
		yields(t, "\x1b[1"+text(i)+"q", with(0, i, csi('q', 1)))
		yields(t, "\x1b[1;"+text(i)+"q", with(0, i, csi('q', 1, -1)))
		yields(t, "\x1b[?"+text(i)+"q", with('?', i, csi('q')))
		for _, j := range inters() {
			yields(t, "\x1b["+text(i, j)+"q")
			yields(t, "\x1b[1"+text(i, j)+"qx", char('x'))
			yields(t, "\x1b["+text(i)+"\n"+text(j)+"q", control('\n'))
		}
		yields(t, "\x1b["+text(i, i, i)+"q\x1b[q", csi('q'))
	}
	yields(t, "\x1b[ q\x1b[q", with(0, ' ', csi('q')), csi('q'))
	yields(t, "\x1b(B\x1b[q\x1bB", escaped('(', 'B'), csi('q'), escaped(0, 'B'))
}

func TestFinalBytes(t *testing.T) {
	for b := byte(0x40); b < 0x7f; b++ {
		s := text(b)
		yields(t, "\x1b["+s, csi(b))
		yields(t, "\x1b[12;3"+s+"x", csi(b, 12, 3), char('x'))
		yields(t, "\x1b[?1!"+s+"\x07", with('?', '!', csi(b, 1)), control(7))
		for _, bad := range []string{"!!", "1?", "??", ":", "1:2", " 1", " ;", " ?", "1;2<3"} {
			yields(t, "\x1b["+bad+s)
			yields(t, "\x1b["+bad+s+"x\n", char('x'), control('\n'))
		}
	}
	for _, s := range []string{"", "?", "1", ";", " ", ":", "1?"} {
		stays(t, "\x1b["+s)
	}
}

// number checks the numbers of a control sequence.
func number(t *testing.T, s string, want ...int) {
	t.Helper()
	yields(t, "\x1b["+s+"m", csi('m', want...))
	yields(t, "\x1b[?"+s+" qx", with('?', ' ', csi('q', want...)), char('x'))
}

func TestNumbers(t *testing.T) {
	number(t, "")
	number(t, ";", -1, -1)
	number(t, ";;", -1, -1, -1)
	number(t, "1;", 1, -1)
	number(t, ";1", -1, 1)
	number(t, "1;;2", 1, -1, 2)
	number(t, ";;3;;", -1, -1, 3, -1, -1)
	number(t, "0", 0)
	number(t, "00", 0)
	number(t, "0;0", 0, 0)
	number(t, "007", 7)
	number(t, "010;0009", 10, 9)
	number(t, "0123456789", 9999)
	number(t, "1;2;3;4;5;6;7;8;9;0", 1, 2, 3, 4, 5, 6, 7, 8, 9, 0)
	number(t, "38;5;200", 38, 5, 200)
	for _, n := range []int{1, 9, 10, 11, 99, 100, 999, 1000, 1234, 9990, 9998, 9999} {
		number(t, strconv.Itoa(n), n)
		number(t, strings.Repeat("0", 100)+strconv.Itoa(n)+";"+strconv.Itoa(n), n, n)
	}
	for n := range 10001 {
		if got := All([]byte("\x1b[" + strconv.Itoa(n) + "m")); !sameList(got, []Act{csi('m', min(n, 9999))}) {
			t.Fatalf("%d: %+v", n, got)
		}
	}
}

func TestGreatNumbers(t *testing.T) {
	for _, s := range []string{"10000", "10001", "99990", "99999", "65536", "65537", "2147483648", "4294967296", "4294967297", "9223372036854775807", "9223372036854775808", "18446744073709551616", "18446744073709551617"} {
		number(t, s, 9999)
		number(t, s+";1;"+s, 9999, 1, 9999)
		number(t, "000"+s, 9999)
	}
	for _, n := range []int{5, 19, 20, 21, 64, 1000, 100000} {
		number(t, strings.Repeat("9", n), 9999)
		number(t, "1"+strings.Repeat("0", n)+";2", 9999, 2)
		number(t, strings.Repeat("0", n), 0)
	}
}

func TestManyNumbers(t *testing.T) {
	for _, n := range []int{1, 2, 14, 15, 16, 17, 18, 19, 33, 1000, 100000} {
		var l []string
		var want []int
		for i := range n {
			l = append(l, strconv.Itoa(i*7))
			want = append(want, min(i*7, 9999))
		}
		number(t, strings.Join(l, ";"), want[:min(n, 16)]...)
		number(t, strings.Join(l, ";")+";", append(want, -1)[:min(n+1, 16)]...)
		number(t, strings.Repeat(";", n), slices.Repeat([]int{-1}, min(n+1, 16))...)
	}
	sixteen := []int{1, 2, 3, 4, 5, 6, 7, 8, 9, 10, 11, 12, 13, 14, 15, 16}
	number(t, "1;2;3;4;5;6;7;8;9;10;11;12;13;14;15;16", sixteen...)
	number(t, "1;2;3;4;5;6;7;8;9;10;11;12;13;14;15;16;", sixteen...)
	number(t, "1;2;3;4;5;6;7;8;9;10;11;12;13;14;15;16;17", sixteen...)
	number(t, "1;2;3;4;5;6;7;8;9;10;11;12;13;14;15;16;17;18;19", sixteen...)
	number(t, "1;2;3;4;5;6;7;8;9;10;11;12;13;14;15", sixteen[:15]...)
	number(t, "1;2;3;4;5;6;7;8;9;10;11;12;13;14;15;", append(slices.Clone(sixteen[:15]), -1)...)
	// None is left for the next one.
	yields(t, "\x1b[1;2;3m\x1b[;m\x1b[m\x1b[4m", csi('m', 1, 2, 3), csi('m', -1, -1), csi('m'), csi('m', 4))
	yields(t, "\x1b["+strings.Repeat("8;", 20)+"8m\x1b[9m", csi('m', slices.Repeat([]int{8}, 16)...), csi('m', 9))
}

// P13.5

func TestEndsOfStrings(t *testing.T) {
	for _, x := range reportedStates() {
		stays(t, x.s, x.acts...)
		yields(t, x.s+"\x07", and(x.acts, osc("abc"))...)
		// It is the plain state.
		yields(t, x.s+"\x073m\x07", and(x.acts, osc("abc"), char('3'), char('m'), control(7))...)
		stays(t, x.s+"\x1b", and(x.acts, osc("abc"))...)
		yields(t, x.s+"\x1b\\", and(x.acts, osc("abc"), escaped(0, '\\'))...)
		yields(t, x.s+"\x1b[3m", and(x.acts, osc("abc"), csi('m', 3))...)
		yields(t, x.s+"\x1b]d\x07", and(x.acts, osc("abc"), osc("d"))...)
		yields(t, x.s+"\x18", x.acts...)
		yields(t, x.s+"\x1a\x07", and(x.acts, control(7))...)
	}
	for _, x := range ignoredStates() {
		stays(t, x.s, x.acts...)
		stays(t, x.s+"\x07", x.acts...)
		stays(t, x.s+"\x073m\x07\x07x", x.acts...)
		stays(t, x.s+"\x1b", x.acts...)
		yields(t, x.s+"\x1b\\", and(x.acts, escaped(0, '\\'))...)
		yields(t, x.s+"\x07\x1b[3m", and(x.acts, csi('m', 3))...)
		yields(t, x.s+"\x1b]d\x07", and(x.acts, osc("d"))...)
		yields(t, x.s+"\x18\x07", and(x.acts, control(7))...)
	}
	yields(t, "\x1b]\x07", osc(""))
	yields(t, "\x1b]\x1b\\", osc(""), escaped(0, '\\'))
	yields(t, "\x1b]0;a\x07\x1b]2;b\x07\x1b]\x07", osc("0;a"), osc("2;b"), osc(""))
	yields(t, "\x1bPabc\x1b]d\x07", osc("d"))
	yields(t, "\x1b]abc\x18\x1b]d\x07", osc("d"))
	yields(t, "\x1b]abc\x1b(B\x07", osc("abc"), escaped('(', 'B'), control(7))
}

func TestControlsInStrings(t *testing.T) {
	for _, b := range append(otherControls(), 0x7f) {
		if b == 7 {
			continue
		}
		yields(t, "\x1b]"+text(b)+"\x07", osc(""))
		yields(t, "\x1b]ab"+text(b)+"cd"+text(b, b)+"\x07", osc("abcd"))
		yields(t, "\x1b]ab"+text(b)+"\x1b\\", osc("ab"), escaped(0, '\\'))
		stays(t, "\x1b]ab"+text(b))
	}
	for _, s := range []string{"P", "X", "^", "_"} {
		for _, b := range append(otherControls(), 0x7f) {
			stays(t, "\x1b"+s+text(b))
			stays(t, "\x1b"+s+"ab"+text(b)+"cd"+text(b, b))
			yields(t, "\x1b"+s+"ab"+text(b)+"cd\x1bM", escaped(0, 'M'))
		}
	}
}

func TestAllBytesOfStrings(t *testing.T) {
	for b := 0x20; b < 0x100; b++ {
		if b == 0x7f {
			continue
		}
		s := text(byte(b))
		yields(t, "\x1b]"+s+"\x07", osc(s))
		yields(t, "\x1b]a"+s+s+"b\x1b\\", osc("a"+s+s+"b"), escaped(0, '\\'))
		stays(t, "\x1b]a"+s)
		stays(t, "\x1bPa"+s)
		yields(t, "\x1bP"+s+"\x1b\\", escaped(0, '\\'))
		// Nothing goes to the decoder.
		yields(t, "\x1b]"+s+"\x07\xac\n", osc(s), char(0xfffd), control('\n'))
		yields(t, "\x1b]"+s+"\x18a", char('a'))
		yields(t, "\x1bX"+s+"\x18a", char('a'))
	}
	yields(t, "\x1b]2;é漢😀\xe2\x82\xff\x07", osc("2;é漢😀\xe2\x82\xff"))
	yields(t, "\x1b]\xe2\x07a", osc("\xe2"), char('a'))
	yields(t, "\x1b]][1;2m~ \x07", osc("][1;2m~ "))
}

func TestLengthsOfStrings(t *testing.T) {
	for _, n := range []int{1, 64, 100, 254, 255, 256} {
		s := strings.Repeat("0123456789\xe9", 30)[:n]
		yields(t, "\x1b]"+s+"\x07", osc(s))
		yields(t, "\x1b]"+s+"\x1b\\x", osc(s), escaped(0, '\\'), char('x'))
		yields(t, "\x1b]\n"+s[:n/2]+"\x7f\n"+s[n/2:]+"\x00\x07", osc(s))
	}
	for _, n := range []int{257, 258, 300, 512, 513, 10000} {
		s := strings.Repeat("0123456789\xe9", 1000)[:n]
		yields(t, "\x1b]"+s+"\x07", osc(s[:256]))
		yields(t, "\x1b]"+s+"\x1b\\x", osc(s[:256]), escaped(0, '\\'), char('x'))
		yields(t, "\x1b]\n"+s[:n/2]+"\x7f\n"+s[n/2:]+"\x00\x07", osc(s[:256]))
		yields(t, "\x1bP"+s+"\x1b\\", escaped(0, '\\'))
	}
	long := strings.Repeat("a", 255)
	yields(t, "\x1b]"+long+"bc\x07\x1b]d\x07", osc(long+"b"), osc("d"))
	yields(t, "\x1b]"+long+"\xe2\x82\xac\x07", osc(long+"\xe2"))
}

func TestStringsThatAreNeverEnded(t *testing.T) {
	s := strings.Repeat("abc é\n\x7f", 10000)
	stays(t, "\x1b]"+s)
	stays(t, "\x1bP"+s)
	stays(t, "x\x1b]"+s, char('x'))
	stays(t, "\x1b]a\x07\x1b]b\x1b]c", osc("a"), osc("b"))
}

// P13.6

func TestOpenByHand(t *testing.T) {
	if (&Parser{}).Open() || new(Parser).Open() {
		t.Error("a zero Parser is open")
	}
	is := func(open bool, s string) {
		t.Helper()
		var p Parser
		put(&p, s)
		for range 2 {
			if p.Open() != open {
				t.Errorf("%q: Open = %t", s, !open)
			}
		}
	}
	for _, x := range plains() {
		is(false, x.s)
		is(false, x.s+"\xff")
		is(false, x.s+"é")
	}
	for _, x := range held() {
		is(true, x.s)
		is(false, x.s+"a")
		is(false, x.s+"\n")
		is(false, x.s+"\x7f")
		is(false, x.s+"\x18")
		is(true, x.s+"\x1b")
	}
	for _, x := range within() {
		is(true, x.s)
		is(true, x.s+"\n")
		is(true, x.s+"\x7f")
		is(false, x.s+"\x18")
		is(false, x.s+"\x80")
		is(false, x.s+"\xff")
		is(true, x.s+"\xe2")
		is(true, x.s+"\xe2\x82")
		is(false, x.s+"\xe2\x82\xac")
	}
	for _, x := range append(reportedStates(), ignoredStates()...) {
		is(true, x.s)
		is(true, x.s+"\n\x7f")
		is(true, x.s+"\xe2")
		is(true, x.s+"\xe2\x82\xac")
		is(false, x.s+"\x1a")
		is(true, x.s+"\x1b")
		is(false, x.s+"\x1b\\")
		is(false, x.s+"\x18\xff")
		is(true, x.s+"\x18\xe2")
	}
	is(false, "\x1b]\x07")
	is(true, "\x1bP\x07")
}

func TestPutReturnsWhatAByteYields(t *testing.T) {
	var p Parser
	for i, x := range []struct {
		b    byte
		want []Act
	}{
		{'a', chars("a")},
		{0xe2, nil},
		{0x82, nil},
		{'b', chars("\ufffdb")},
		{0xe2, nil},
		{'\n', []Act{char(0xfffd), control('\n')}},
		{0xf0, nil},
		{0xe2, chars("\ufffd")},
		{0xff, chars("\ufffd\ufffd")},
		{0xc3, nil},
		{0x1b, chars("\ufffd")},
		{']', nil},
		{'t', nil},
		{0x1b, []Act{osc("t")}},
		{'[', nil},
		{'1', nil},
		{'\r', []Act{control('\r')}},
		{'A', []Act{csi('A', 1)}},
		{0x1b, nil},
		{0xc3, nil},
		{0xa9, chars("é")},
	} {
		if got := p.Put(x.b); !sameList(got, x.want) {
			t.Errorf("byte %d, %x: %+v, want %+v", i, x.b, got, x.want)
		}
	}
	if len(All(nil)) > 0 || len(All([]byte{})) > 0 {
		t.Error("no bytes yield something")
	}
}

// isRight checks that an action is right, has these bytes, and is what they yield.
func isRight(t *testing.T, a Act, want string) {
	t.Helper()
	if !Right(a) || !slowRight(a) {
		t.Errorf("%+v: Right = %t, by the sentences %t", a, Right(a), slowRight(a))
	}
	if got := Bytes(a); string(got) != want {
		t.Errorf("Bytes(%+v) = %q, want %q", a, got, want)
	}
	yields(t, want, a)
}

// isWrong checks that an action is not right.
func isWrong(t *testing.T, a Act) {
	t.Helper()
	if Right(a) || slowRight(a) {
		t.Errorf("%+v: Right = %t, by the sentences %t", a, Right(a), slowRight(a))
	}
	if got := Bytes(a); len(got) != 0 {
		t.Errorf("Bytes(%+v) = %q", a, got)
	}
}

func TestRightPrints(t *testing.T) {
	for _, c := range []rune{0x20, 0x21, 'a', 0x7d, 0x7e, 0xa0, 0xa1, 0xe9, 0x7ff, 0x800, 0xd7ff, 0xe000, 0xfffc, 0xfffd, 0xfffe, 0xffff, 0x10000, 0x10fffe, 0x10ffff} {
		isRight(t, char(c), string(c))
	}
	for _, c := range []rune{math.MinInt32, -0x41, -1, 0, 7, 0x18, 0x1b, 0x1f, 0x7f, 0x80, 0x81, 0x9e, 0x9f, 0xd800, 0xdabc, 0xdfff, 0x110000, 0x110001, math.MaxInt32} {
		isWrong(t, char(c))
	}
}

func TestRightControls(t *testing.T) {
	for b := range 0x100 {
		if b < 0x20 && b != 0x18 && b != 0x1a && b != 0x1b {
			isRight(t, control(byte(b)), text(byte(b)))
		} else {
			isWrong(t, control(byte(b)))
		}
	}
}

func TestRightEscapes(t *testing.T) {
	for b := range 0x100 {
		s := text(byte(b))
		if b < 0x30 || b > 0x7e || strings.Contains("[]PX^_", s) {
			isWrong(t, escaped(0, byte(b)))
		} else {
			isRight(t, escaped(0, byte(b)), "\x1b"+s)
		}
		for i := 1; i < 0x100; i++ {
			if a := escaped(byte(i), byte(b)); b < 0x30 || b > 0x7e || i < 0x20 || i > 0x2f {
				isWrong(t, a)
			} else {
				isRight(t, a, "\x1b"+text(byte(i), byte(b)))
			}
		}
	}
}

func TestRightControlSequences(t *testing.T) {
	for b := range 0x100 {
		if b < 0x40 || b > 0x7e {
			isWrong(t, csi(byte(b)))
			isWrong(t, with('?', '!', csi(byte(b), 1)))
		} else {
			isRight(t, csi(byte(b)), "\x1b["+text(byte(b)))
			isRight(t, with('?', '!', csi(byte(b), 1)), "\x1b[?1!"+text(byte(b)))
		}
		if b >= 0x20 && b <= 0x2f {
			isRight(t, with(0, byte(b), csi('q', 1, -1)), "\x1b[1;"+text(byte(b), 'q'))
		} else if b != 0 {
			isWrong(t, with(0, byte(b), csi('q')))
		}
		if b >= 0x3c && b <= 0x3f {
			isRight(t, with(byte(b), 0, csi('q', -1, 1)), "\x1b["+text(byte(b))+";1q")
		} else if b != 0 {
			isWrong(t, with(byte(b), 0, csi('q')))
		}
	}
}

func TestRightNumbers(t *testing.T) {
	isRight(t, Act{Kind: 4, Byte: 'm', Params: []int{}}, "\x1b[m")
	isRight(t, csi('m', 0), "\x1b[0m")
	isRight(t, csi('m', 1), "\x1b[1m")
	isRight(t, csi('m', 9998), "\x1b[9998m")
	isRight(t, csi('m', 9999), "\x1b[9999m")
	isRight(t, csi('m', -1, -1), "\x1b[;m")
	isRight(t, csi('m', -1, -1, -1), "\x1b[;;m")
	isRight(t, csi('m', -1, 38), "\x1b[;38m")
	isRight(t, csi('m', 38, -1), "\x1b[38;m")
	isRight(t, csi('m', 0, 9999, -1, 10), "\x1b[0;9999;;10m")
	for _, n := range []int{math.MinInt, math.MinInt32, -10000, -3, -2, 10000, 10001, 1 << 32, 1<<32 + 1, 1<<32 - 1, math.MaxInt} {
		isWrong(t, csi('m', n))
		isWrong(t, csi('m', n, 1))
		isWrong(t, csi('m', 1, n))
		isWrong(t, csi('m', -1, n, -1))
		isWrong(t, csi('m', 1, 2, 3, 4, 5, 6, 7, 8, 9, 10, 11, 12, 13, 14, 15, n))
	}
	isWrong(t, csi('m', -1))
	isWrong(t, with('?', ' ', csi('m', -1)))
	for n := range 40 {
		if n > 16 {
			isWrong(t, csi('m', slices.Repeat([]int{7}, n)...))
			isWrong(t, csi('m', slices.Repeat([]int{-1}, n)...))
		} else if n > 1 {
			isRight(t, csi('m', slices.Repeat([]int{7}, n)...), "\x1b["+strings.Repeat("7;", n-1)+"7m")
			isRight(t, csi('m', slices.Repeat([]int{-1}, n)...), "\x1b["+strings.Repeat(";", n-1)+"m")
		}
	}
	isWrong(t, csi('m', make([]int, 1000000)...))
}

func TestRightStrings(t *testing.T) {
	isRight(t, osc(""), "\x1b]\x07")
	isRight(t, osc("2;title é"), "\x1b]2;title é\x07")
	isRight(t, osc("\x80\xff\xe2"), "\x1b]\x80\xff\xe2\x07")
	for b := range 0x100 {
		s := text(byte(b))
		for _, x := range []string{s, "a" + s, s + "a", "é" + s + "\xe2", strings.Repeat("a", 254) + s, strings.Repeat("a", 255) + s} {
			if b < 0x20 || b == 0x7f {
				isWrong(t, osc(x))
			} else {
				isRight(t, osc(x), "\x1b]"+x+"\x07")
			}
		}
		isWrong(t, osc(strings.Repeat("a", 256)+s))
	}
	for _, n := range []int{255, 256, 257, 258, 512, 1 << 20} {
		for _, c := range []string{"x", "\xff"} {
			s := strings.Repeat(c, n)
			if n > 256 {
				isWrong(t, osc(s))
			} else {
				isRight(t, osc(s), "\x1b]"+s+"\x07")
			}
		}
	}
}

func TestOtherKindsAreWrong(t *testing.T) {
	for _, kind := range []int{math.MinInt, -1, 0, 6, 7, 256 + 1, 1<<32 + 2, math.MaxInt} {
		isWrong(t, Act{Kind: kind})
		isWrong(t, Act{Kind: kind, Rune: 'a'})
		isWrong(t, Act{Kind: kind, Byte: 'a'})
		isWrong(t, Act{Kind: kind, Byte: 7})
		isWrong(t, Act{Kind: kind, Text: "a"})
		isWrong(t, Act{Kind: kind, Params: []int{1}})
	}
	isWrong(t, Act{})
}

func TestFieldsOfOtherKindsAreWrong(t *testing.T) {
	changes := map[string]func(*Act){
		"Rune":   func(a *Act) { a.Rune = 'a' },
		"rune":   func(a *Act) { a.Rune = -1 },
		"Byte":   func(a *Act) { a.Byte = 'a' },
		"byte":   func(a *Act) { a.Byte = 7 },
		"Inter":  func(a *Act) { a.Inter = ' ' },
		"Mark":   func(a *Act) { a.Mark = '?' },
		"Params": func(a *Act) { a.Params = []int{1, 2} },
		"params": func(a *Act) { a.Params = []int{0} },
		"none":   func(a *Act) { a.Params = []int{-1} },
		"Text":   func(a *Act) { a.Text = "a" },
	}
	for _, x := range []struct {
		a   Act
		own string
	}{
		{char('a'), "Rune"},
		{control(8), "Byte byte"},
		{control(0), "Byte byte"},
		{escaped(0, 'M'), "Byte byte Inter"},
		{escaped('#', '8'), "Byte byte Inter"},
		{csi('m'), "Byte byte Inter Mark Params params"},
		{with('>', '!', csi('m', 3)), "Byte byte Inter Mark Params params"},
		{osc(""), "Text"},
		{osc("2;t"), "Text"},
	} {
		isRight(t, x.a, slowBytes(x.a))
		for name, change := range changes {
			a := x.a
			change(&a)
			if !strings.Contains(" "+x.own+" ", " "+name+" ") {
				isWrong(t, a)
			} else if Right(a) != slowRight(a) {
				t.Errorf("%+v: Right = %t", a, Right(a))
			}
		}
		// An empty list is no field that is there.
		a := x.a
		if len(a.Params) == 0 {
			a.Params = []int{}
			isRight(t, a, slowBytes(a))
		}
	}
}

// someActs are actions with some value in each field, right and wrong ones.
func someActs() []Act {
	var l []Act
	for kind := range 7 {
		for _, c := range []rune{0, 'a', 0x80, 0x10ffff} {
			for _, b := range []byte{0, 7, 0x1b, 0x30, 0x40, 0x5b, 0x7e, 0x7f, 0x80} {
				for _, inter := range []byte{0, 0x1f, 0x20, 0x2f, 0x30} {
					for _, mark := range []byte{0, 0x3b, 0x3c, 0x3f, 0x40} {
						for _, params := range [][]int{nil, {-1}, {0}, {-1, -1}, {9999, 10000}, {1, -2}, make([]int, 16), make([]int, 17)} {
							for _, s := range []string{"", "a", "\x1f", "\x7f"} {
								l = append(l, Act{Kind: kind, Rune: c, Byte: b, Inter: inter, Mark: mark, Params: params, Text: s})
							}
						}
					}
				}
			}
		}
	}
	return l
}

func TestRightFollowsTheSentences(t *testing.T) {
	right := 0
	for _, a := range someActs() {
		b := Bytes(a)
		if Right(a) != slowRight(a) || !Right(a) && len(b) > 0 {
			t.Fatalf("%+v: Right = %t, Bytes = %q", a, Right(a), b)
		}
		if !Right(a) {
			continue
		}
		right++
		if string(b) != slowBytes(a) || !sameList(All(b), []Act{a}) {
			t.Fatalf("Bytes(%+v) = %q yield %+v, want %q", a, b, All(b), slowBytes(a))
		}
	}
	if right < 100 {
		t.Errorf("only %d of them are right", right)
	}
}

// The actions of bytes against the sentences.

// signs are bytes at the ends of the ranges that the sentences name.
const signs = "\x00\x07\x17\x18\x1a\x1b\x1f\x20\x2f\x30\x39\x3a\x3b\x3c\x3f\x40P[]_~\x7f\x80\xa9\xc3\xe2\xff"

// probes tell states from one another.
var probes = []string{"", "m", "1;2m", "?1m", " q", "[m", "]z\x07y", "Pz\x07y", "\x82\xacx", "\x07\x1b[3m", "\x18x"}

func TestEveryByteInEveryState(t *testing.T) {
	for _, x := range everyState() {
		for b := range 0x100 {
			for _, probe := range probes {
				follows(t, x.s+text(byte(b))+probe)
			}
		}
	}
}

func TestAllShortSequences(t *testing.T) {
	for _, before := range []string{"", "\xe2\x82", "\x1b", "\x1b ", "\x1b[", "\x1b[1", "\x1b[?", "\x1b[ ", "\x1b[:", "\x1b]a", "\x1bPa"} {
		for _, a := range []byte(signs) {
			for _, b := range []byte(signs) {
				for _, c := range []byte(signs) {
					s := before + text(a, b, c)
					var p Parser
					got, m := put(&p, s), slowRead(s)
					if !sameList(got, m.acts) || p.Open() != m.open {
						t.Fatalf("%q: %+v, open %t, want %+v, %t", s, got, p.Open(), m.acts, m.open)
					}
				}
			}
		}
	}
}

// pieces of which strings are made by chance.
var pieces = []string{"\x1b", "\x1b[", "\x1b]", "\x1bP", "\x1b^", "\x07", "\x18", "\x1a", "\x7f", "\n", "\x00", "a", "é", "\xe2", "\x82", "\xac", "\xff", "\u0085", "1", "22", "9999", "10000", ";", ";;", ":", "?", ">", " ", "!", "m", "H", "\\", "~", "@", "[", "]", "1;2", "0;title"}

// mixed returns n strings that are made of pieces.
func mixed(n int, seed int64) []string {
	source := rand.New(rand.NewSource(seed))
	l := make([]string, n)
	for i := range l {
		for range source.Intn(16) {
			l[i] += pieces[source.Intn(len(pieces))]
		}
	}
	return l
}

func TestActionsFollowTheSentences(t *testing.T) {
	for _, s := range mixed(20000, 131) {
		follows(t, s)
	}
	source := rand.New(rand.NewSource(132))
	for range 5000 {
		b := make([]byte, source.Intn(40))
		source.Read(b)
		follows(t, string(b))
		follows(t, "\x1b["+string(b))
		follows(t, "\x1b]"+string(b))
	}
}

// P13.7

func TestPiecesDoNotMatter(t *testing.T) {
	for _, s := range append(mixed(1000, 133), "\x1b[1;2m\x1b]0;t\x07é\xe2\n\x1bPq\x07\x1b\\\x1b(B") {
		want := All([]byte(s))
		for i := range len(s) + 1 {
			for j := i; j <= len(s); j++ {
				var p Parser
				got := put(&p, s[:i])
				p.Open()
				got = append(got, put(&p, s[i:j])...)
				q := p
				got = append(got, put(&q, s[j:])...)
				if !sameList(got, want) {
					t.Fatalf("%q cut at %d and %d: %+v, want %+v", s, i, j, got, want)
				}
			}
		}
	}
}

// rightActs are right actions of each kind.
func rightActs() []Act {
	l := []Act{char(' '), char('~'), char(0xa0), char('漢'), char(0xfffd), char(0x10ffff), control(0), control(7), control('\n'), control(0x1f), escaped(0, '0'), escaped(0, '~'), escaped(' ', '['), escaped('/', ']'), escaped('#', 'P'),
		csi('@'), csi('~', 0), csi('m', -1, -1), csi('m', slices.Repeat([]int{9999}, 16)...), with('<', '/', csi('A')), with('?', ' ', csi('h', 1, -1, 25)), osc(""), osc("0;abc"), osc("\xe2\x82"), osc(strings.Repeat("x", 256))}
	for _, a := range someActs() {
		if Right(a) {
			l = append(l, a)
		}
	}
	return l
}

func TestBytesOfAnActionYieldItInThePlainState(t *testing.T) {
	for _, a := range rightActs() {
		b := string(Bytes(a))
		for _, x := range plains() {
			var p Parser
			before := put(&p, x.s)
			for range 3 {
				if got := put(&p, b); !sameList(got, []Act{a}) || p.Open() {
					t.Fatalf("%q behind %q yields %+v, want %+v", b, x.s, got, a)
				}
			}
			if !sameList(before, x.acts) {
				t.Fatalf("%q yields %+v", x.s, before)
			}
		}
	}
}

func TestBytesOfManyActions(t *testing.T) {
	source := rand.New(rand.NewSource(134))
	all := rightActs()
	for range 300 {
		var want []Act
		var b []byte
		for range source.Intn(50) {
			a := all[source.Intn(len(all))]
			want = append(want, a)
			b = append(b, Bytes(a)...)
		}
		if got := All(b); !sameList(got, want) {
			t.Fatalf("%q yields %+v, want %+v", b, got, want)
		}
	}
}

func TestEveryActionIsRight(t *testing.T) {
	for _, s := range mixed(20000, 135) {
		for _, a := range All([]byte(s)) {
			if !Right(a) || !sameList(All(Bytes(a)), []Act{a}) {
				t.Fatalf("%q yields %+v, which is not right or not what its bytes yield", s, a)
			}
		}
	}
}

func TestAllEndsNothing(t *testing.T) {
	// What is open at the end of one call is nothing to the next one.
	for _, x := range everyState() {
		All([]byte(x.s))
		if got := All([]byte("3m")); !sameList(got, chars("3m")) {
			t.Errorf("behind %q: %+v", x.s, got)
		}
		if got := All([]byte(x.s)); !sameList(got, x.acts) {
			t.Errorf("All(%q) = %+v, want %+v", x.s, got, x.acts)
		}
	}
}

// P1 and P2

// deep returns a copy that shares nothing.
func deep(l []Act) []Act {
	out := slices.Clone(l)
	for i := range out {
		out[i].Params = slices.Clone(out[i].Params)
	}
	return out
}

// spoil overwrites actions and their numbers, with the spare capacity of both.
func spoil(l []Act) {
	l = l[:cap(l)]
	for i := range l {
		p := l[i].Params[:cap(l[i].Params)]
		for j := range p {
			p[j] = 77
		}
		l[i] = Act{Kind: 77, Text: "spoilt"}
	}
}

func TestEarlierActionsStay(t *testing.T) {
	for _, s := range append(mixed(500, 136), "\x1b[1;2m\x1b[3;4;5m\x1b[?7 q\x1b]abc\x07\x1b]defgh\x07\x1b[8m") {
		var p Parser
		var all, want [][]Act
		for i := range len(s) {
			l := p.Put(s[i])
			all, want = append(all, l), append(want, deep(l))
		}
		put(&p, "\x18\x1b[66;66;66;66m\x1b]zzzzzzzz\x07")
		if !slices.EqualFunc(all, want, sameList) {
			t.Fatalf("%q: a later Put changed an earlier result", s)
		}
	}
	first := All([]byte("\x1b[1;2m\x1b[3m"))
	All([]byte("\x1b[4;5m\x1b[6m"))
	if !sameList(first, []Act{csi('m', 1, 2), csi('m', 3)}) {
		t.Errorf("a later All changed an earlier result: %+v", first)
	}
}

func TestActionsShareNothing(t *testing.T) {
	for _, s := range append(mixed(500, 137), "\x1b[1;2m\x1b[;;m\x1b[3;4;5m\x1b[?7 q\x1b]abc\x07\x1b[8m") {
		var p Parser
		n := 0
		want := slowAll(s)
		for i := range len(s) {
			l := p.Put(s[i])
			if !sameList(l, want[n:n+len(l)]) {
				t.Fatalf("%q: a change of a result changed the next one: %+v", s, l)
			}
			n += len(l)
			spoil(l)
		}
		if n != len(want) {
			t.Fatalf("%q yields %d actions, want %d", s, n, len(want))
		}
	}
	// Of one result, the numbers of each action are its own.
	l := All([]byte("\x1b[1;2m\x1b[3;4m\x1b[5m"))
	_ = append(l[0].Params, 66, 66, 66)
	l[1].Params[0] = 77
	if !sameList(l, []Act{csi('m', 1, 2), csi('m', 77, 4), csi('m', 5)}) {
		t.Errorf("numbers are shared: %+v", l)
	}
}

func TestParsersDoNotShare(t *testing.T) {
	for _, x := range []struct{ before, one, other string }{
		{"\x1b[1;2", "3;4m", "5;6;7m"},
		{"\x1b[1;", "8m", "9m"},
		{"\x1b]ab", "cd\x07", "efg\x07"},
		{"\xf0\x9f", "\x98\x80", "\xa0\x80"},
		{"\x1b[?", "1 q", "2!p"},
		{"\x1b(", "B", "C"},
	} {
		var p Parser
		before := put(&p, x.before)
		q := p
		var one, other []Act
		for i := range max(len(x.one), len(x.other)) {
			if i < len(x.one) {
				one = append(one, p.Put(x.one[i])...)
			}
			if i < len(x.other) {
				other = append(other, q.Put(x.other[i])...)
			}
		}
		if !sameList(slices.Concat(before, one), slowAll(x.before+x.one)) || !sameList(slices.Concat(before, other), slowAll(x.before+x.other)) {
			t.Errorf("%q: %+v and %+v", x.before, one, other)
		}
	}
}

func TestArgumentsAreNotChanged(t *testing.T) {
	for _, s := range append(mixed(500, 138), "\x1b[1;2m\x1b]abc\x07\xe2\x82\xac") {
		room := append([]byte(s), "\x1b[1mbehind it"...)
		before := bytes.Clone(room)
		l := All(room[:len(s)])
		if !bytes.Equal(room, before) {
			t.Fatalf("All changed %q or what is behind it", s)
		}
		want := deep(l)
		clear(room)
		if !sameList(l, want) || !sameList(l, slowAll(s)) {
			t.Fatalf("%q: a change of the bytes changed the actions", s)
		}
	}
	for _, x := range [][]int{nil, {}, {1}, {-1}, {-1, 2}, {9999, -1, 10000}, make([]int, 16), make([]int, 17)} {
		room := append(slices.Clone(x), 5, 6, 7)
		before := slices.Clone(room)
		for kind := range 7 {
			a := Act{Kind: kind, Byte: 'm', Params: room[:len(x)]}
			b := string(Bytes(a))
			if Right(a) != slowRight(a) || Right(a) && b != slowBytes(a) {
				t.Errorf("with room behind %v: %t, %q", x, Right(a), b)
			}
			if !slices.Equal(room, before) || a.Kind != kind || a.Byte != 'm' || len(a.Params) != len(x) {
				t.Errorf("Right or Bytes changed %v or what is behind it: %v", x, room)
			}
		}
	}
}

func TestBytesIsNewMemory(t *testing.T) {
	for _, a := range rightActs() {
		first, second := Bytes(a), Bytes(a)
		first = first[:cap(first)]
		for i := range first {
			first[i] = 77
		}
		if string(second) != slowBytes(a) || string(Bytes(a)) != slowBytes(a) || !Right(a) {
			t.Fatalf("%+v: a change of one result changed another one: %q", a, second)
		}
	}
}

func TestCallsDoNotDependOnEarlierOnes(t *testing.T) {
	// The same calls in two orders have the same results.
	acts := append(rightActs(), osc("\x07"), csi('m', -1), char(0x80))
	answer := func(i int) string {
		a := acts[i%len(acts)]
		return fmt.Sprint(Right(a), Bytes(a), All([]byte(everyState()[i%len(everyState())].s)))
	}
	var first []string
	for i := range 300 {
		first = append(first, answer(i))
	}
	for i, want := range slices.Backward(first) {
		if got := answer(i); got != want {
			t.Errorf("%d: %s, and then %s", i, want, got)
		}
	}
}

func TestLongInputs(t *testing.T) {
	many := func(s string) string { return strings.Repeat(s, 1<<18) }
	for _, x := range []struct {
		s    string
		n    int
		last Act
	}{
		{many("a"), 1 << 18, char('a')},
		{many("\xff"), 1 << 18, char(0xfffd)},
		{many("\x1b") + "M", 1, escaped(0, 'M')},
		{"\x1b" + many(" ") + "M\x1bM", 1, escaped(0, 'M')},
		{"\x1b[" + many("9") + "m", 1, csi('m', 9999)},
		{"\x1b[" + many("1;") + "m", 1, csi('m', slices.Repeat([]int{1}, 16)...)},
		{"\x1b[" + many(":") + "m\x1b[m", 1, csi('m')},
		{"\x1b[" + many("\n") + "m", 1<<18 + 1, csi('m')},
		{"\x1b]" + many("x") + "\x07", 1, osc(strings.Repeat("x", 256))},
		{"\x1bP" + many("x\x07") + "\x1b\\", 1, escaped(0, '\\')},
		{many("\x1b[1;31m"), 1 << 18, csi('m', 1, 31)},
		{many("\x1b]0;t\x07"), 1 << 18, osc("0;t")},
	} {
		l := All([]byte(x.s))
		if len(l) != x.n || !same(l[len(l)-1], x.last) {
			t.Errorf("%d bytes from %q on: %d actions, want %d", len(x.s), x.s[:8], len(l), x.n)
		}
	}
}

func TestConstants(t *testing.T) {
	if Print != 1 || Control != 2 || Escape != 3 || Csi != 4 || Osc != 5 || MaxText != 256 || MaxNumber != 9999 || api.MaxParams != 16 {
		t.Error("a constant is another one")
	}
}
