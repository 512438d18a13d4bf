package crc

import (
	"bytes"
	"hash/crc32"
	"math"
	"math/rand"
	"slices"
	"testing"
)

// slowMore follows the chapter's sentence, with the register as a list of bits, so that it shares nothing with More.
func slowMore(sum uint32, b []byte) uint32 {
	var c [32]int // the lowest bit first
	for i := range c {
		c[i] = 1 - int(sum>>i&1)
	}
	for _, x := range b {
		for i := range 8 {
			c[i] = (c[i] + int(x>>i&1)) % 2
		}
		for range 8 {
			out := c[0]
			copy(c[:], c[1:])
			c[31] = 0
			for i := range c {
				c[i] = (c[i] + out*int(uint32(0x82f63b78)>>i&1)) % 2
			}
		}
	}
	var r uint32
	for i := range c {
		r |= uint32(1-c[i]) << i
	}
	return r
}

// message returns n bytes that depend on seed.
func message(n int, seed int64) []byte {
	b := make([]byte, n)
	rand.New(rand.NewSource(seed)).Read(b)
	return b
}

// lengths are none, all small ones, and those around powers of two.
func lengths() []int {
	var l []int
	for n := range 70 {
		l = append(l, n)
	}
	return append(l, 100, 127, 128, 129, 255, 256, 257, 1000, 1023, 1024, 1025, 4097)
}

// sums are none, every single bit, all bits, and mixed ones.
func sums() []uint32 {
	l := []uint32{0, 0xffffffff, 0xfffffffe, 0x7fffffff, Poly, ^uint32(Poly), 0x12345678, 0xdeadbeef, 0xe3069283}
	for i := range 32 {
		l = append(l, 1<<i)
	}
	return l
}

func TestPoly(t *testing.T) {
	if Poly != 0x82f63b78 {
		t.Errorf("Poly = %#x", uint32(Poly))
	}
}

// P7.1: Sum

func TestSumExamples(t *testing.T) {
	for _, x := range []struct {
		b    []byte
		want uint32
	}{
		{nil, 0},
		{[]byte{}, 0},
		{[]byte("123456789"), 0xe3069283},
		{[]byte("a"), 0xc1d04330},
		// The examples of RFC 3720, B.4.
		{make([]byte, 32), 0x8a9136aa},
		{bytes.Repeat([]byte{255}, 32), 0x62a8ab43},
		{counted(32), 0x46dd794e},
		{reversed(counted(32)), 0x113fdb5c},
	} {
		if got := Sum(x.b); got != x.want {
			t.Errorf("Sum(%v) = %#x, want %#x", x.b, got, x.want)
		}
	}
}

func counted(n int) []byte {
	b := make([]byte, n)
	for i := range b {
		b[i] = byte(i)
	}
	return b
}

func reversed(b []byte) []byte {
	r := slices.Clone(b)
	slices.Reverse(r)
	return r
}

func TestSumOfOneByte(t *testing.T) {
	for x := range 256 {
		b := []byte{byte(x)}
		if got, want := Sum(b), slowMore(0, b); got != want {
			t.Errorf("Sum(%v) = %#x, want %#x", b, got, want)
		}
	}
}

func TestSumFollowsTheSentence(t *testing.T) {
	for _, n := range lengths() {
		for _, b := range [][]byte{message(n, 7), message(n, 8), make([]byte, n), bytes.Repeat([]byte{255}, n), counted(n)} {
			if got, want := Sum(b), slowMore(0, b); got != want {
				t.Errorf("Sum of %d bytes = %#x, want %#x", n, got, want)
			}
		}
	}
}

func TestSumIsTheKnownChecksum(t *testing.T) {
	table := crc32.MakeTable(crc32.Castagnoli)
	for _, n := range append(lengths(), 1<<16, 1<<20+1) {
		b := message(n, 9)
		if got, want := Sum(b), crc32.Checksum(b, table); got != want {
			t.Errorf("Sum of %d bytes = %#x, want %#x", n, got, want)
		}
	}
}

// P7.1: More

func TestMoreOfNoBytes(t *testing.T) {
	for _, s := range sums() {
		if More(s, nil) != s || More(s, []byte{}) != s || More(s, make([]byte, 0, 9)) != s {
			t.Errorf("More(%#x, none) = %#x", s, More(s, nil))
		}
	}
}

func TestMoreFollowsTheSentence(t *testing.T) {
	for _, s := range sums() {
		for _, n := range lengths()[:40] {
			b := message(n, int64(s))
			if got, want := More(s, b), slowMore(s, b); got != want {
				t.Errorf("More(%#x, %d bytes) = %#x, want %#x", s, n, got, want)
			}
		}
	}
}

func TestMoreOfZeroIsSum(t *testing.T) {
	for _, n := range lengths() {
		b := message(n, 10)
		if got, want := More(0, b), Sum(b); got != want {
			t.Errorf("More(0, %d bytes) = %#x, Sum is %#x", n, got, want)
		}
	}
}

func TestMoreOfPieces(t *testing.T) {
	b := message(60, 11)
	for _, s := range sums() {
		want := slowMore(s, b)
		for i := range len(b) + 1 {
			if got := More(More(s, b[:i]), b[i:]); got != want {
				t.Errorf("More(%#x) in two pieces, cut at %d = %#x, want %#x", s, i, got, want)
			}
		}
		for size := 1; size <= len(b); size++ {
			got := s
			for piece := range slices.Chunk(b, size) {
				got = More(got, piece)
			}
			if got != want {
				t.Errorf("More(%#x) in pieces of %d = %#x, want %#x", s, size, got, want)
			}
		}
	}
	if got := More(Sum([]byte("12345")), []byte("6789")); got != 0xe3069283 {
		t.Errorf("More of 12345 and 6789 = %#x", got)
	}
}

// P7.1: Zeros

func TestZerosIsMoreOfZeroBytes(t *testing.T) {
	for _, s := range sums() {
		for _, n := range lengths() {
			z := make([]byte, n)
			got := Zeros(s, n)
			if got != More(s, z) {
				t.Errorf("Zeros(%#x, %d) = %#x, More is %#x", s, n, got, More(s, z))
			}
			if n < 40 && got != slowMore(s, z) {
				t.Errorf("Zeros(%#x, %d) = %#x, want %#x", s, n, got, slowMore(s, z))
			}
		}
	}
	for _, n := range []int{1 << 16, 1<<20 - 1, 1 << 20, 3000001} {
		if got, want := Zeros(0xdeadbeef, n), More(0xdeadbeef, make([]byte, n)); got != want {
			t.Errorf("Zeros(0xdeadbeef, %d) = %#x, want %#x", n, got, want)
		}
	}
}

func TestZerosExamples(t *testing.T) {
	for _, x := range []struct {
		sum  uint32
		n    int
		want uint32
	}{
		{0, 0, 0},
		{0, 32, 0x8a9136aa},
		{0, 1, 0x527d5351},
		{7, 0, 7},
		{0xffffffff, 1, 0xffffffff}, // a register 0 stays 0
		{0xffffffff, 1000, 0xffffffff},
	} {
		if got := Zeros(x.sum, x.n); got != x.want {
			t.Errorf("Zeros(%#x, %d) = %#x, want %#x", x.sum, x.n, got, x.want)
		}
	}
}

func TestZerosOfNoneAndLess(t *testing.T) {
	for _, s := range sums() {
		for _, n := range []int{0, -1, -2, -3, -8, -1000, math.MinInt32, math.MinInt + 1, math.MinInt} {
			if got := Zeros(s, n); got != s {
				t.Errorf("Zeros(%#x, %d) = %#x", s, n, got)
			}
		}
	}
}

func TestZerosOfVeryMany(t *testing.T) {
	// Poly is x + 1 times a polynomial of degree 31 whose powers of x recur after 2^31 - 1 of them; so do those of x^8.
	const period = 1<<31 - 1
	for _, s := range sums() {
		for _, x := range []struct{ n, same int }{
			{period, 0},
			{period + 5, 5},
			{1 << 31, 1},
			{1 << 62, 1},
			{math.MaxInt, 1},
			{math.MaxInt - 1, 0},
		} {
			if got, want := Zeros(s, x.n), slowMore(s, make([]byte, x.same)); got != want {
				t.Errorf("Zeros(%#x, %d) = %#x, want %#x", s, x.n, got, want)
			}
		}
	}
}

// P7.1: Join

func TestJoinIsTheSumOfBoth(t *testing.T) {
	for _, n := range lengths() {
		for _, m := range lengths() {
			a, b := message(n, 12), message(m, 13)
			if got, want := Join(Sum(a), Sum(b), m), Sum(slices.Concat(a, b)); got != want {
				t.Errorf("Join of %d and %d bytes = %#x, want %#x", n, m, got, want)
			}
		}
	}
	for _, m := range []int{1 << 16, 1<<20 - 1, 1 << 20} {
		a, b := message(1000, 14), message(m, 15)
		if got, want := Join(Sum(a), Sum(b), m), Sum(slices.Concat(a, b)); got != want {
			t.Errorf("Join of 1000 and %d bytes = %#x, want %#x", m, got, want)
		}
	}
}

func TestJoinFollowsTheSentence(t *testing.T) {
	for n := range 20 {
		for m := range 20 {
			a, b := message(n, 16), message(m, 17)
			want := slowMore(0, slices.Concat(a, b))
			if got := Join(slowMore(0, a), slowMore(0, b), m); got != want {
				t.Errorf("Join of %d and %d bytes = %#x, want %#x", n, m, got, want)
			}
		}
	}
	if got := Join(Sum([]byte("12345")), Sum([]byte("6789")), 4); got != 0xe3069283 {
		t.Errorf("Join of 12345 and 6789 = %#x", got)
	}
}

func TestJoinWithEitherEmpty(t *testing.T) {
	// Every number is the sum of some four bytes.
	for _, s := range sums() {
		if got := Join(s, Sum(nil), 0); got != s {
			t.Errorf("Join(%#x, none) = %#x", s, got)
		}
		for _, n := range []int{4, 5, 100, 1 << 20, math.MaxInt} {
			if got := Join(Sum(nil), s, n); got != s {
				t.Errorf("Join(none, %#x, %d) = %#x", s, n, got)
			}
		}
	}
	if got := Join(0, 0, 0); got != 0 {
		t.Errorf("Join of none and none = %#x", got)
	}
}

func TestJoinOfEverySum(t *testing.T) {
	for _, s := range sums() {
		for _, n := range []int{1, 2, 3, 4, 7, 8, 9, 31, 32, 33} {
			b := message(n, int64(s)+1)
			if got, want := Join(s, Sum(b), n), slowMore(s, b); got != want {
				t.Errorf("Join(%#x, %d bytes) = %#x, want %#x", s, n, got, want)
			}
		}
	}
}

func TestJoinOfThree(t *testing.T) {
	a, b, c := message(11, 1), message(22, 2), message(33, 3)
	want := Sum(slices.Concat(a, b, c))
	left := Join(Join(Sum(a), Sum(b), 22), Sum(c), 33)
	right := Join(Sum(a), Join(Sum(b), Sum(c), 33), 55)
	if left != want || right != want {
		t.Errorf("Join of three = %#x and %#x, want %#x", left, right, want)
	}
}

// P7.2

// differs returns the exclusive or of b with the bits, of which the lowest falls on bit at, in the order in which bits are processed.
func differs(b []byte, at int, bits uint32) []byte {
	d := slices.Clone(b)
	for i := range 32 {
		if bits>>i&1 == 1 {
			d[(at+i)/8] ^= 1 << ((at + i) % 8)
		}
	}
	return d
}

// tellsApart checks that b has another sum once these bits are different.
func tellsApart(t *testing.T, b []byte, at int, bits uint32) {
	t.Helper()
	d := differs(b, at, bits)
	if bytes.Equal(b, d) {
		t.Fatalf("bits %#x at %d of %d bytes make no difference", bits, at, len(b))
	}
	if Sum(b) == Sum(d) {
		t.Errorf("%d bytes, different in the bits %#x at %d: both sums are %#x", len(b), bits, at, Sum(b))
	}
}

func TestOneBitIsSeen(t *testing.T) {
	for n := 1; n <= 80; n++ {
		for _, b := range [][]byte{make([]byte, n), message(n, 20)} {
			for at := range 8 * n {
				tellsApart(t, b, at, 1)
			}
		}
	}
}

func TestTwoBitsAreSeen(t *testing.T) {
	for _, n := range []int{1, 2, 3, 4, 5, 6, 9, 32, 65} {
		for _, b := range [][]byte{make([]byte, n), message(n, 21)} {
			for distance := 1; distance <= 31; distance++ {
				// The last place is such that the second bit is the last one of all.
				for at := range 8*n - distance {
					tellsApart(t, b, at, 1|1<<distance)
				}
			}
		}
	}
}

func TestDifferencesWithin32BitsAreSeen(t *testing.T) {
	source := rand.New(rand.NewSource(72))
	for _, n := range []int{4, 5, 6, 8, 33, 100} {
		b := message(n, 22)
		for at := range 8*n - 31 { // every place, across the boundaries of bytes, from the first bit to the last
			patterns := []uint32{0xffffffff, 0x80000001, 0xffff0000, 0x0000ffff, 0xaaaaaaaa, 0x55555555, Poly, Poly ^ 1<<31 | 1, 0x80000000, 1}
			for range 40 {
				patterns = append(patterns, source.Uint32()|1, source.Uint32()|1<<31)
			}
			for _, bits := range patterns {
				tellsApart(t, b, at, bits)
			}
		}
	}
}

func TestDifferencesAcrossBytesAreSeen(t *testing.T) {
	for n := 2; n <= 40; n++ {
		b := message(n, 23)
		for i := 1; i < n; i++ {
			tellsApart(t, b, 8*i-1, 3)    // the last bit of a byte and the first of the next
			tellsApart(t, b, 8*i-8, 1<<8) // the next byte's first bit alone
			tellsApart(t, b, 8*i-4, 0xff)
			tellsApart(t, b, 8*i-8, 0xffff)
			tellsApart(t, b, 8*i-8, 0x8001)
		}
	}
}

func TestDifferencesAtTheEndsAreSeen(t *testing.T) {
	for n := 4; n <= 300; n++ {
		b := message(n, 24)
		for size := 1; size <= 32; size++ {
			all := uint32(1<<size - 1)
			for _, bits := range []uint32{all, 1 | 1<<(size-1), 1 << (size - 1)} {
				tellsApart(t, b, 0, bits)
				tellsApart(t, b, 8*n-size, bits)
			}
		}
	}
}

func TestSmallDifferencesAreAllSeen(t *testing.T) {
	// Two bytes side by side: each of their values has a sum of its own, whatever stands around them.
	for _, ends := range [][2][]byte{{nil, nil}, {{9}, nil}, {nil, {9}}, {{1, 2}, {3, 4}}, {message(50, 1), message(50, 2)}} {
		seen := make(map[uint32]int, 1<<16)
		for n := range 1 << 16 {
			s := Sum(slices.Concat(ends[0], []byte{byte(n), byte(n >> 8)}, ends[1]))
			if m, is := seen[s]; is {
				t.Fatalf("%#x and %#x between %d and %d bytes: both sums are %#x", m, n, len(ends[0]), len(ends[1]), s)
			}
			seen[s] = n
		}
	}
}

// P1 and P2

func TestArgumentsAreNotChanged(t *testing.T) {
	for _, n := range []int{0, 1, 5, 32, 200} {
		backing := message(n+10, 30)
		before := slices.Clone(backing)
		Sum(backing[:n])
		More(0, backing[:n])
		More(0xdeadbeef, backing[:n])
		if !bytes.Equal(backing, before) {
			t.Errorf("the %d bytes or what is behind them changed: %v", n, backing)
		}
	}
}

func TestBytesAreNotKept(t *testing.T) {
	b := message(40, 31)
	first, more := Sum(b), More(5, b)
	kept := slices.Clone(b)
	clear(b)
	if Sum(kept) != first || More(5, kept) != more {
		t.Error("a change of an argument changed the sum of other bytes")
	}
	if Sum(b) != slowMore(0, make([]byte, 40)) {
		t.Error("the sum of changed bytes is not theirs")
	}
}

func TestCallsDoNotDependOnEarlierOnes(t *testing.T) {
	b := message(40, 32)
	sum, more, zeros, join := Sum(b), More(3, b), Zeros(3, 40), Join(3, 4, 40)
	for _, s := range sums() {
		Sum(b[:7])
		More(s, b)
		Zeros(s, 1000)
		Join(s, s, 99)
		if Sum(b) != sum || More(3, b) != more || Zeros(3, 40) != zeros || Join(3, 4, 40) != join {
			t.Fatalf("a call answers something else behind others, with %#x", s)
		}
	}
}

func TestEveryCallEnds(t *testing.T) {
	// Sums and lengths that belong to no sequence among them; nothing is promised of the result of Join then.
	for _, n := range []int{math.MinInt, math.MinInt + 1, -1, 0, 1, 2, 3, math.MaxInt32, math.MaxInt - 1, math.MaxInt} {
		for _, s := range sums() {
			Zeros(s, n)
			Join(s, ^s, n)
			Join(s, s, n)
		}
	}
}
