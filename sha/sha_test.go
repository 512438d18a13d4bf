package sha

import (
	"bytes"
	"crypto/sha256"
	"encoding/binary"
	"encoding/hex"
	"math"
	"math/big"
	"math/bits"
	"slices"
	"strconv"
	"strings"
	"testing"

	"baton/api"
)

// chapterWords are k0 to k63 as the chapter prints them.
const chapterWords = `
428a2f98 71374491 b5c0fbcf e9b5dba5 3956c25b 59f111f1 923f82a4 ab1c5ed5
d807aa98 12835b01 243185be 550c7dc3 72be5d74 80deb1fe 9bdc06a7 c19bf174
e49b69c1 efbe4786 0fc19dc6 240ca1cc 2de92c6f 4a7484aa 5cb0a9dc 76f988da
983e5152 a831c66d b00327c8 bf597fc7 c6e00bf3 d5a79147 06ca6351 14292967
27b70a85 2e1b2138 4d2c6dfc 53380d13 650a7354 766a0abb 81c2c92e 92722c85
a2bfe8a1 a81a664b c24b8b70 c76c51a3 d192e819 d6990624 f40e3585 106aa070
19a4c116 1e376c08 2748774c 34b0bcb5 391c0cb3 4ed8aa4a 5b9cca4f 682e6ff3
748f82ee 78a5636f 84c87814 8cc70208 90befffa a4506ceb bef9a3f7 c67178f2`

const abcDigest = "ba7816bf8f01cfea414140de5dae2223b00361a396177a9cb410ff61f20015ad"
const emptyDigest = "e3b0c44298fc1c149afbf4c8996fb92427ae41e4649b934ca495991b7852b855"

// parseWords reads words written in hexadecimal.
func parseWords(t *testing.T, text string) []uint32 {
	t.Helper()
	var l []uint32
	for _, s := range strings.Fields(text) {
		n, err := strconv.ParseUint(s, 16, 32)
		if err != nil {
			t.Fatal(err)
		}
		l = append(l, uint32(n))
	}
	return l
}

// slowRounds follows the sentences of P2.2 variable by variable, so that it shares nothing with Rounds.
func slowRounds(t *testing.T, h [8]uint32, block []byte) [8]uint32 {
	t.Helper()
	right := func(x uint32, n int) uint32 { return bits.RotateLeft32(x, -n) }
	k := parseWords(t, chapterWords)
	var w []uint32
	for i := range 16 {
		w = append(w, binary.BigEndian.Uint32(block[4*i:]))
	}
	for i := 16; i < 64; i++ {
		p, q := w[i-15], w[i-2]
		w = append(w, w[i-16]+w[i-7]+(right(p, 7)^right(p, 18)^(p>>3))+(right(q, 17)^right(q, 19)^(q>>10)))
	}
	a, b, c, d, e, f, g, z := h[0], h[1], h[2], h[3], h[4], h[5], h[6], h[7]
	for i := range 64 {
		t := z + (right(e, 6) ^ right(e, 11) ^ right(e, 25)) + ((e & f) ^ (^e & g)) + k[i] + w[i]
		u := (right(a, 2) ^ right(a, 13) ^ right(a, 22)) + ((a & b) ^ (a & c) ^ (b & c))
		z, g, f, e, d, c, b, a = g, f, e, d+t, c, b, a, t+u
	}
	return [8]uint32{h[0] + a, h[1] + b, h[2] + c, h[3] + d, h[4] + e, h[5] + f, h[6] + g, h[7] + z}
}

// message returns n bytes in which no block repeats another one soon.
func message(n int) []byte {
	b := make([]byte, n)
	for i := range b {
		b[i] = byte(7*i + i/64*13 + i/256 + 5)
	}
	return b
}

// someWords returns eight words that differ for each seed.
func someWords(seed uint32) [8]uint32 {
	var h [8]uint32
	for i := range h {
		seed = seed*1664525 + 1013904223
		h[i] = seed
	}
	return h
}

// pieces returns the lengths of pieces that repeat the given ones until n bytes are used up.
func pieces(n int, lengths ...int) []int {
	var l []int
	for i := 0; n > 0; i++ {
		k := min(n, lengths[i%len(lengths)])
		l = append(l, k)
		n -= k
	}
	return l
}

// P2.1

func TestPadSmall(t *testing.T) {
	for n := range 400 {
		p := Pad(n)
		zeros := 0
		for (n+1+zeros+8)%64 != 0 {
			zeros++
		}
		want := append([]byte{128}, make([]byte, zeros)...)
		want = binary.BigEndian.AppendUint64(want, uint64(8*n))
		if !bytes.Equal(p, want) {
			t.Errorf("Pad(%d) = %v, want %v", n, p, want)
		}
	}
}

func TestPadLengths(t *testing.T) {
	for _, x := range []struct{ n, size int }{
		{0, 64}, {1, 63}, {3, 61},
		{54, 10}, {55, 9}, {56, 72}, {57, 71},
		{63, 65}, {64, 64}, {65, 63},
		{118, 10}, {119, 9}, {120, 72},
		{127, 65}, {128, 64}, {129, 63},
		{6400 + 54, 10}, {6400 + 55, 9}, {6400 + 56, 72},
		{6400 + 63, 65}, {6400 + 64, 64}, {6400 + 65, 63},
	} {
		p := Pad(x.n)
		if len(p) != x.size {
			t.Errorf("Pad(%d) has %d bytes, want %d", x.n, len(p), x.size)
			continue
		}
		if p[0] != 128 || !bytes.Equal(p[1:x.size-8], make([]byte, x.size-9)) {
			t.Errorf("Pad(%d) = %v: not 128 and zeros", x.n, p)
		}
		if bits := binary.BigEndian.Uint64(p[x.size-8:]); bits != uint64(8*x.n) {
			t.Errorf("Pad(%d) tells %d bits, want %d", x.n, bits, 8*x.n)
		}
	}
}

func TestPadNegative(t *testing.T) {
	want := append([]byte{128}, make([]byte, 63)...)
	for _, n := range []int{0, -1, -3, -8, -9, -55, -56, -63, -64, -65, -1000, math.MinInt32, math.MinInt + 1, math.MinInt} {
		if p := Pad(n); !bytes.Equal(p, want) {
			t.Errorf("Pad(%d) = %v, want that of 0", n, p)
		}
	}
}

func TestPadGreat(t *testing.T) {
	for _, n := range []int{
		31, 32, 255, 256, 8191, 8192, 1<<16 - 1, 1 << 16, 1<<29 - 1, 1 << 29, 1<<31 - 1,
		1 << 40, 1<<60 - 1, 1<<61 - 1, 1 << 61, 1<<61 + 1, 1<<62 + 57, math.MaxInt - 8, math.MaxInt - 7, math.MaxInt,
	} {
		p := Pad(n)
		total := new(big.Int).Add(big.NewInt(int64(n)), big.NewInt(int64(len(p))))
		if len(p) < 9 || len(p) > 72 || new(big.Int).Mod(total, big.NewInt(64)).Sign() != 0 {
			t.Errorf("Pad(%d) has %d bytes", n, len(p))
			continue
		}
		count := new(big.Int).Mul(big.NewInt(int64(n)), big.NewInt(8))
		count.Mod(count, new(big.Int).Lsh(big.NewInt(1), 64))
		if got := binary.BigEndian.Uint64(p[len(p)-8:]); got != count.Uint64() {
			t.Errorf("Pad(%d) tells %d bits, want %d", n, got, count)
		}
		if p[0] != 128 || !bytes.Equal(p[1:len(p)-8], make([]byte, len(p)-9)) {
			t.Errorf("Pad(%d) = %v: not 128 and zeros", n, p)
		}
	}
}

func TestFirst(t *testing.T) {
	want := parseWords(t, "6a09e667 bb67ae85 3c6ef372 a54ff53a 510e527f 9b05688c 1f83d9ab 5be0cd19")
	if got := First(); !slices.Equal(got[:], want) {
		t.Errorf("First() = %x, want %x", got, want)
	}
}

func TestBlockIs64(t *testing.T) {
	if Block != 64 {
		t.Errorf("Block = %d", Block)
	}
}

// P2.2

func TestRoundsOfAbc(t *testing.T) {
	block := append([]byte("abc"), Pad(3)...)
	want := parseWords(t, "ba7816bf 8f01cfea 414140de 5dae2223 b00361a3 96177a9c b410ff61 f20015ad")
	if got, e := Rounds(First(), block); e != api.OK || !slices.Equal(got[:], want) {
		t.Errorf("Rounds of abc = %x, %d, want %x, 0", got, e, want)
	}
}

func TestRoundsFollowTheSentences(t *testing.T) {
	same := func(x uint32) (h [8]uint32) {
		for i := range h {
			h[i] = x
		}
		return h
	}
	starts := [][8]uint32{First(), {}, same(0xffffffff), same(0x80000000), {1, 2, 3, 4, 5, 6, 7, 8}}
	for seed := range uint32(20) {
		starts = append(starts, someWords(seed))
	}
	blocks := [][]byte{make([]byte, 64), bytes.Repeat([]byte{255}, 64), bytes.Repeat([]byte{128, 0, 0, 1}, 16)}
	for i := range 20 {
		blocks = append(blocks, message(64 * 20)[64*i:64*i+64])
	}
	for i := range 64 { // each byte of a block by itself
		b := make([]byte, 64)
		b[i] = byte(i + 1)
		blocks = append(blocks, b)
	}
	for _, h := range starts {
		for _, b := range blocks {
			want := slowRounds(t, h, b)
			if got, e := Rounds(h, b); e != api.OK || got != want {
				t.Fatalf("Rounds(%x, %x) = %x, %d, want %x, 0", h, b, got, e, want)
			}
		}
	}
}

func TestRoundsOfOtherLengths(t *testing.T) {
	for size := range 300 {
		if size == 64 {
			continue
		}
		for _, h := range [][8]uint32{First(), {}, someWords(uint32(size))} {
			if got, e := Rounds(h, message(size)); e != api.ErrSize || got != h {
				t.Errorf("Rounds of %d bytes = %x, %d, want %x, ErrSize", size, got, e, h)
			}
		}
	}
	h := someWords(9)
	if got, e := Rounds(h, nil); e != api.ErrSize || got != h {
		t.Errorf("Rounds of nil = %x, %d, want %x, ErrSize", got, e, h)
	}
	// Spare room does not count as bytes of the block.
	if got, e := Rounds(h, make([]byte, 63, 64)); e != api.ErrSize || got != h {
		t.Errorf("Rounds of 63 bytes with room for 64 = %x, %d, want %x, ErrSize", got, e, h)
	}
}

// P2.3

func TestSumExamples(t *testing.T) {
	for _, x := range []struct{ text, want string }{
		{"", emptyDigest},
		{"abc", abcDigest},
		{"abcdbcdecdefdefgefghfghighijhijkijkljklmklmnlmnomnopnopq", "248d6a61d20638b8e5c026930c3e6039a33ce45964ff2167f6ecedd419db06c1"},
		{"abcdefghbcdefghicdefghijdefghijkefghijklfghijklmghijklmnhijklmnoijklmnopjklmnopqklmnopqrlmnopqrsmnopqrstnopqrstu", "cf5b16a778af8380036ce59e7b0492370b249b11e8f07a51afac45037afee9d1"},
	} {
		k := Sum([]byte(x.text))
		if got := hex.EncodeToString(k[:]); got != x.want {
			t.Errorf("Sum of %q = %s, want %s", x.text, got, x.want)
		}
	}
	if Sum(nil) != Sum([]byte{}) {
		t.Errorf("Sum of nil differs from Sum of no bytes")
	}
}

func TestSumOfEveryLength(t *testing.T) {
	for n := range 700 {
		b := message(n)
		if got, want := Sum(b), api.Key(sha256.Sum256(b)); got != want {
			t.Errorf("Sum of %d bytes = %x, want %x", n, got, want)
		}
	}
}

func TestSumIsRoundsOfThePaddedBlocks(t *testing.T) {
	for _, n := range []int{0, 1, 54, 55, 56, 57, 63, 64, 65, 119, 120, 127, 128, 129, 1000} {
		b := message(n)
		padded := append(bytes.Clone(b), Pad(n)...)
		h := First()
		for i := 0; i < len(padded); i += 64 {
			var e api.Errno
			if h, e = Rounds(h, padded[i:i+64]); e != api.OK {
				t.Fatalf("Rounds: %d", e)
			}
		}
		var want []byte
		for _, w := range h {
			want = binary.BigEndian.AppendUint32(want, w)
		}
		if got := Sum(b); !bytes.Equal(got[:], want) {
			t.Errorf("Sum of %d bytes = %x, want %x", n, got, want)
		}
	}
}

func TestNewHashIsEmpty(t *testing.T) {
	h := New()
	for range 3 {
		k := h.Sum()
		if hex.EncodeToString(k[:]) != emptyDigest || h.Len() != 0 {
			t.Errorf("a new Hash: Sum %x, Len %d", k, h.Len())
		}
	}
	h.Write(nil)
	h.Write([]byte{})
	if h.Sum() != Sum(nil) || h.Len() != 0 {
		t.Errorf("after empty Writes: Sum %x, Len %d", h.Sum(), h.Len())
	}
}

func TestSumBetweenWritesChangesNothing(t *testing.T) {
	b := message(300)
	for _, step := range []int{1, 3, 55, 56, 63, 64, 65, 128, 150} {
		h, quiet := New(), New()
		for i := 0; i < len(b); i += step {
			piece := b[i:min(i+step, len(b))]
			h.Write(piece)
			quiet.Write(piece)
			n := i + len(piece)
			for range 2 {
				if got, want := h.Sum(), api.Key(sha256.Sum256(b[:n])); got != want || h.Len() != n {
					t.Fatalf("after %d bytes in steps of %d: Sum %x, Len %d, want %x", n, step, got, h.Len(), want)
				}
			}
		}
		if h.Sum() != quiet.Sum() || h.Len() != quiet.Len() {
			t.Errorf("steps of %d: Sums between the Writes changed the digest", step)
		}
	}
}

func TestMillionBytes(t *testing.T) {
	h := New()
	for range 1000 {
		h.Write(bytes.Repeat([]byte("a"), 1000))
	}
	k := h.Sum()
	if hex.EncodeToString(k[:]) != "cdc76e5c9914fb9281a1c7e284d73e67f1809a48a497200e046d39ccc7112cd0" || h.Len() != 1000000 {
		t.Errorf("a million a: Sum %x, Len %d", k, h.Len())
	}
	if Sum(bytes.Repeat([]byte("a"), 1000000)) != k {
		t.Errorf("a million a: Sum of all at once differs")
	}
}

// P2.4

func TestPiecesDoNotMatter(t *testing.T) {
	cuts := [][]int{
		{1}, {2}, {3, 0, 5}, {0, 1}, {7, 57}, {63, 1}, {1, 63}, {64}, {0, 64, 0}, {65}, {63}, {128, 1}, {127, 2, 0},
		{55, 9}, {56, 8}, {1, 0, 0, 2, 3, 5, 8, 13, 21, 34, 55, 89}, {1000},
	}
	for _, n := range []int{0, 1, 54, 55, 56, 63, 64, 65, 119, 120, 127, 128, 129, 191, 192, 193, 777} {
		b := message(n)
		want := api.Key(sha256.Sum256(b))
		for _, c := range cuts {
			h := New()
			at := 0
			for _, k := range pieces(n, c...) {
				h.Write(b[at : at+k])
				at += k
				if h.Len() != at {
					t.Fatalf("Len = %d after %d bytes in pieces %v", h.Len(), at, c)
				}
			}
			if got := h.Sum(); got != want || h.Len() != n {
				t.Errorf("%d bytes in pieces %v: Sum %x, Len %d, want %x", n, c, got, h.Len(), want)
			}
		}
	}
}

func TestEveryCutInTwo(t *testing.T) {
	for _, n := range []int{1, 63, 64, 65, 130, 200} {
		b := message(n)
		want := Sum(b)
		for cut := range n + 1 {
			h := New()
			h.Write(b[:cut])
			h.Write(b[cut:])
			if h.Sum() != want || h.Len() != n {
				t.Errorf("%d bytes cut at %d: Sum %x, Len %d, want %x", n, cut, h.Sum(), h.Len(), want)
			}
		}
	}
}

// P1 and P2

func TestArgumentsStay(t *testing.T) {
	for _, n := range []int{0, 1, 55, 56, 63, 64, 65, 128, 200} {
		// The room behind the bytes would take a padding that is appended in place.
		whole := append(message(n), bytes.Repeat([]byte{0xa5}, 80)...)
		before := bytes.Clone(whole)
		short := whole[:n]
		Sum(short)
		Rounds(First(), short)
		h := New()
		h.Write(short)
		h.Sum()
		h.Write(short)
		h.Sum()
		if !bytes.Equal(whole, before) {
			t.Errorf("an argument of %d bytes changed", n)
		}
	}
	words := someWords(4)
	Rounds(words, message(64))
	if words != someWords(4) {
		t.Errorf("Rounds changed its words: %x", words)
	}
}

func TestArgumentsAreNotKept(t *testing.T) {
	for _, n := range []int{1, 3, 63, 64, 65, 200} {
		b := message(n)
		h := New()
		h.Write(b)
		clear(b)
		if h.Sum() != Sum(message(n)) {
			t.Errorf("a Hash keeps the %d bytes that it was given", n)
		}
	}
}

func TestResultsAreNew(t *testing.T) {
	for _, n := range []int{0, 3, 55, 56} {
		want := bytes.Clone(Pad(n))
		clear(Pad(n))
		if got := Pad(n); !bytes.Equal(got, want) {
			t.Errorf("results of Pad(%d) share memory: %v", n, got)
		}
	}
	h, g := New(), New()
	h.Write([]byte("abc"))
	if g.Len() != 0 || g.Sum() != Sum(nil) || New().Sum() != Sum(nil) {
		t.Errorf("two Hashes share what is written")
	}
	g.Write(message(100))
	if k := h.Sum(); hex.EncodeToString(k[:]) != abcDigest || h.Len() != 3 {
		t.Errorf("two Hashes share what is written: %x", k)
	}
}

func TestFailedCallsHaveNoEffect(t *testing.T) {
	h := New()
	h.Write([]byte("ab"))
	for range 3 {
		Rounds(someWords(1), nil)
		Rounds(someWords(2), message(63))
		Rounds(First(), message(65))
	}
	h.Write([]byte("c"))
	if k := h.Sum(); hex.EncodeToString(k[:]) != abcDigest {
		t.Errorf("Sum after failed Rounds = %x", k)
	}
	if got, e := Rounds(First(), message(64)); e != api.OK || got != slowRounds(t, First(), message(64)) {
		t.Errorf("Rounds after failed Rounds = %x, %d", got, e)
	}
}
