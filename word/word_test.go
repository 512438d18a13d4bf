package word

import (
	"bytes"
	"math"
	"math/bits"
	"slices"
	"testing"

	"baton/api"
)

// samples are words with a bit at either end, none, all, and mixed ones.
var samples = []uint32{0, 1, 2, 0x80000000, 0x80000001, 0x7fffffff, 0xffffffff, 0x12345678, 0xdeadbeef}

// counts returns rotation counts: around 0 and its neighbours on both sides, and the ends of int.
func counts() []int {
	l := []int{math.MinInt, math.MinInt + 1, math.MinInt32, math.MaxInt32, math.MaxInt - 1, math.MaxInt}
	for n := -100; n <= 100; n++ {
		l = append(l, n)
	}
	return l
}

// slowRot turns bit by bit, so that it shares nothing with Rot.
func slowRot(x uint32, n int) uint32 {
	k := n % 32
	if k < 0 {
		k += 32
	}
	for range k {
		low := x & 1
		x >>= 1
		if low == 1 {
			x += 0x80000000
		}
	}
	return x
}

// spare returns the bytes of b in a slice with marked room behind them, and the whole of that memory.
func spare(b []byte) (short, whole []byte) {
	whole = append(slices.Clone(b), 0xa5, 0xa5, 0xa5, 0xa5, 0xa5, 0xa5, 0xa5, 0xa5)
	return whole[:len(b)], whole
}

// P1.1

func TestRotExamples(t *testing.T) {
	for _, x := range []struct {
		x    uint32
		n    int
		want uint32
	}{
		{1, 1, 0x80000000},
		{1, 0, 1},
		{1, 31, 2},
		{1, 32, 1},
		{1, 33, 0x80000000},
		{1, 64, 1},
		{1, -1, 2},
		{1, -31, 0x80000000},
		{1, -32, 1},
		{1, -33, 2},
		{0x12345678, 8, 0x78123456},
		{0x12345678, -8, 0x34567812},
		{0x12345678, 40, 0x78123456},
		{0x12345678, -40, 0x34567812},
		{0x12345678, math.MinInt, 0x12345678},
		{0x12345678, math.MaxInt, 0x2468acf0},
		{0, 7, 0},
		{0xffffffff, 7, 0xffffffff},
	} {
		if got := Rot(x.x, x.n); got != x.want {
			t.Errorf("Rot(%#x, %d) = %#x, want %#x", x.x, x.n, got, x.want)
		}
	}
}

func TestRotTurnsBitByBit(t *testing.T) {
	for _, x := range samples {
		for _, n := range counts() {
			if got, want := Rot(x, n), slowRot(x, n); got != want {
				t.Errorf("Rot(%#x, %d) = %#x, want %#x", x, n, got, want)
			}
		}
	}
}

func TestBytes(t *testing.T) {
	for _, x := range []struct {
		l    []uint32
		want []byte
	}{
		{nil, nil},
		{[]uint32{}, nil},
		{[]uint32{0}, []byte{0, 0, 0, 0}},
		{[]uint32{0x01020304}, []byte{1, 2, 3, 4}},
		{[]uint32{0xffffffff, 0x80}, []byte{255, 255, 255, 255, 0, 0, 0, 128}},
		{[]uint32{0x80000000, 1, 0x00ff0000}, []byte{128, 0, 0, 0, 0, 0, 0, 1, 0, 255, 0, 0}},
	} {
		if got := Bytes(x.l...); !bytes.Equal(got, x.want) {
			t.Errorf("Bytes(%#x) = %v, want %v", x.l, got, x.want)
		}
	}
	if got := Bytes(); len(got) != 0 {
		t.Errorf("Bytes() = %v, want none", got)
	}
	if got := Bytes(1, 2); !bytes.Equal(got, []byte{0, 0, 0, 1, 0, 0, 0, 2}) {
		t.Errorf("Bytes(1, 2) = %v", got)
	}
}

func TestWords(t *testing.T) {
	for _, x := range []struct {
		b    []byte
		want []uint32
	}{
		{nil, nil},
		{[]byte{}, nil},
		{[]byte{1, 2, 3, 4}, []uint32{0x01020304}},
		{[]byte{255, 255, 255, 255, 0, 0, 0, 128}, []uint32{0xffffffff, 0x80}},
		{[]byte{128, 0, 0, 0, 0, 0, 0, 1, 0, 255, 0, 0}, []uint32{0x80000000, 1, 0x00ff0000}},
	} {
		got, e := Words(x.b)
		if e != api.OK || !slices.Equal(got, x.want) {
			t.Errorf("Words(%v) = %#x, %d, want %#x, 0", x.b, got, e, x.want)
		}
	}
}

func TestWordsOfEveryLength(t *testing.T) {
	for size := range 70 {
		b := make([]byte, size)
		for i := range b {
			b[i] = byte(37*i + 200)
		}
		l, e := Words(b)
		if size%4 != 0 {
			if e != api.ErrShort || len(l) != 0 {
				t.Errorf("Words of %d bytes = %#x, %d, want none, ErrShort", size, l, e)
			}
			continue
		}
		if e != api.OK || len(l) != size/4 || !bytes.Equal(Bytes(l...), b) {
			t.Errorf("Words of %d bytes = %#x, %d", size, l, e)
		}
	}
}

func TestWordsInvertsBytes(t *testing.T) {
	for n := range len(samples) + 1 {
		l := samples[:n]
		if got, e := Words(Bytes(l...)); e != api.OK || !slices.Equal(got, l) {
			t.Errorf("Words(Bytes(%#x)) = %#x, %d", l, got, e)
		}
	}
}

// P1.2

func TestPut(t *testing.T) {
	for _, x := range []struct {
		n    uint64
		size int
		want []byte
	}{
		{258, 2, []byte{1, 2}},
		{0, 1, []byte{0}},
		{255, 1, []byte{255}},
		{1, 3, []byte{0, 0, 1}},
		{0x010203, 3, []byte{1, 2, 3}},
		{0, 8, []byte{0, 0, 0, 0, 0, 0, 0, 0}},
		{0x0102030405060708, 8, []byte{1, 2, 3, 4, 5, 6, 7, 8}},
		{1 << 63, 8, []byte{128, 0, 0, 0, 0, 0, 0, 0}},
		{math.MaxUint64, 8, []byte{255, 255, 255, 255, 255, 255, 255, 255}},
	} {
		got, e := Put(x.n, x.size)
		if e != api.OK || !bytes.Equal(got, x.want) {
			t.Errorf("Put(%d, %d) = %v, %d, want %v, 0", x.n, x.size, got, e, x.want)
		}
	}
}

func TestPutAtThePowers(t *testing.T) {
	for size := 1; size <= 7; size++ {
		power := uint64(1)
		for range size {
			power *= 256
		}
		got, e := Put(power-1, size)
		if e != api.OK || !bytes.Equal(got, bytes.Repeat([]byte{255}, size)) {
			t.Errorf("Put(%d, %d) = %v, %d, want all 255, 0", power-1, size, got, e)
		}
		for _, n := range []uint64{power, power + 1, math.MaxUint64} {
			if got, e := Put(n, size); e != api.ErrSize || len(got) != 0 {
				t.Errorf("Put(%d, %d) = %v, %d, want none, ErrSize", n, size, got, e)
			}
		}
		got, e = Put(power, size+1)
		want := append([]byte{1}, make([]byte, size)...)
		if e != api.OK || !bytes.Equal(got, want) {
			t.Errorf("Put(%d, %d) = %v, %d, want %v, 0", power, size+1, got, e, want)
		}
	}
}

func TestPutOfBadSizes(t *testing.T) {
	// The great numbers would be ErrSize too: ErrArg is mentioned first.
	for _, size := range []int{0, 9, -1, -8, 10, 64, 257, math.MinInt, math.MaxInt} {
		for _, n := range []uint64{0, 1, 256, math.MaxUint64} {
			if got, e := Put(n, size); e != api.ErrArg || len(got) != 0 {
				t.Errorf("Put(%d, %d) = %v, %d, want none, ErrArg", n, size, got, e)
			}
		}
	}
}

func TestGet(t *testing.T) {
	for _, x := range []struct {
		b    []byte
		want uint64
	}{
		{[]byte{0}, 0},
		{[]byte{255}, 255},
		{[]byte{1, 2}, 258},
		{[]byte{0, 0, 1}, 1},
		{[]byte{128, 0, 0, 0, 0, 0, 0, 0}, 1 << 63},
		{[]byte{1, 2, 3, 4, 5, 6, 7, 8}, 0x0102030405060708},
		{[]byte{255, 255, 255, 255, 255, 255, 255, 255}, math.MaxUint64},
	} {
		got, e := Get(x.b)
		if e != api.OK || got != x.want {
			t.Errorf("Get(%v) = %d, %d, want %d, 0", x.b, got, e, x.want)
		}
	}
}

func TestGetOfBadSizes(t *testing.T) {
	for _, b := range [][]byte{nil, {}, bytes.Repeat([]byte{1}, 9), make([]byte, 9), bytes.Repeat([]byte{7}, 300)} {
		if got, e := Get(b); e != api.ErrArg || got != 0 {
			t.Errorf("Get of %d bytes = %d, %d, want 0, ErrArg", len(b), got, e)
		}
	}
}

func TestXor(t *testing.T) {
	for _, x := range []struct{ a, b, want []byte }{
		{nil, nil, nil},
		{nil, []byte{}, nil},
		{[]byte{0}, []byte{0}, []byte{0}},
		{[]byte{0xf0}, []byte{0xff}, []byte{0x0f}},
		{[]byte{1, 2, 3, 255, 0}, []byte{3, 2, 1, 0, 255}, []byte{2, 0, 2, 255, 255}},
	} {
		got, e := Xor(x.a, x.b)
		if e != api.OK || !bytes.Equal(got, x.want) {
			t.Errorf("Xor(%v, %v) = %v, %d, want %v, 0", x.a, x.b, got, e, x.want)
		}
	}
}

func TestXorOfAllBytes(t *testing.T) {
	for a := range 256 {
		for b := range 256 {
			// a + b counts the bits that both have twice: without those it is the exclusive or.
			want := byte(a + b - 2*(a&b))
			if got, e := Xor([]byte{byte(a)}, []byte{byte(b)}); e != api.OK || len(got) != 1 || got[0] != want {
				t.Fatalf("Xor of %d and %d = %v, %d, want %d, 0", a, b, got, e, want)
			}
		}
	}
}

func TestXorOfDifferentLengths(t *testing.T) {
	for n := range 12 {
		for m := range 12 {
			got, e := Xor(make([]byte, n), make([]byte, m))
			if n == m && (e != api.OK || len(got) != n) {
				t.Errorf("Xor of %d and %d bytes = %v, %d", n, m, got, e)
			}
			if n != m && (e != api.ErrSize || len(got) != 0) {
				t.Errorf("Xor of %d and %d bytes = %v, %d, want none, ErrSize", n, m, got, e)
			}
		}
	}
}

// P1.3

func TestGetInvertsPut(t *testing.T) {
	for size := 1; size <= 8; size++ {
		for shift := range 8 * size {
			for _, n := range []uint64{1 << shift, 1<<shift - 1, 0x8877665544332211 >> (64 - 8*size) >> shift} {
				b, e := Put(n, size)
				if e != api.OK || len(b) != size {
					t.Fatalf("Put(%d, %d) = %v, %d", n, size, b, e)
				}
				if got, e := Get(b); e != api.OK || got != n {
					t.Errorf("Get(Put(%d, %d)) = %d, %d", n, size, got, e)
				}
			}
		}
	}
}

func TestPutInvertsGet(t *testing.T) {
	for size := 1; size <= 8; size++ {
		for seed := range 256 {
			b := make([]byte, size)
			for i := range b {
				b[i] = byte(seed + 91*i*seed)
			}
			n, e := Get(b)
			if e != api.OK {
				t.Fatalf("Get(%v): %d", b, e)
			}
			if got, e := Put(n, size); e != api.OK || !bytes.Equal(got, b) {
				t.Errorf("Put(Get(%v)) = %v, %d", b, got, e)
			}
		}
	}
}

func TestRotThereAndBack(t *testing.T) {
	for _, x := range samples {
		for _, n := range counts() {
			// 32 - n may wrap round at the ends of int, which keeps it the same modulo 32.
			if got := Rot(Rot(x, n), 32-n); got != x {
				t.Errorf("Rot by %d and 32 - %d of %#x = %#x", n, n, x, got)
			}
			if got := bits.OnesCount32(Rot(x, n)); got != bits.OnesCount32(x) {
				t.Errorf("Rot(%#x, %d) has %d bits set", x, n, got)
			}
		}
	}
}

// P2

func TestArgumentsStay(t *testing.T) {
	for size := range 13 {
		b := make([]byte, size)
		for i := range b {
			b[i] = byte(11*i + 3)
		}
		short, whole := spare(b)
		before := slices.Clone(whole)
		other, otherWhole := spare(b)
		Words(short)
		Get(short)
		Xor(short, other)
		Xor(short, other[:size/2])
		Xor(short[:size/2], other)
		if !bytes.Equal(whole, before) || !bytes.Equal(otherWhole, before) {
			t.Errorf("arguments of %d bytes changed: %v, %v", size, whole, otherWhole)
		}
	}
	l := slices.Clone(samples)
	Bytes(l[:len(l)-3]...)
	if !slices.Equal(l, samples) {
		t.Errorf("arguments of Bytes changed: %#x", l)
	}
}

func TestResultsAreNew(t *testing.T) {
	b := []byte{1, 2, 3, 4}
	zeros := make([]byte, 4)
	x, _ := Xor(b, zeros)
	y, _ := Xor(zeros, b)
	same, _ := Xor(b, b)
	for _, r := range [][]byte{x, y, same} {
		clear(r)
	}
	if !bytes.Equal(b, []byte{1, 2, 3, 4}) || !bytes.Equal(zeros, make([]byte, 4)) {
		t.Errorf("a result of Xor shares memory with an argument")
	}
	p, _ := Put(258, 2)
	clear(p)
	w, _ := Words(b)
	clear(w)
	clear(Bytes(5))
	if p, _ := Put(258, 2); !bytes.Equal(p, []byte{1, 2}) {
		t.Errorf("results of Put share memory: %v", p)
	}
	if w, _ := Words(b); !slices.Equal(w, []uint32{0x01020304}) {
		t.Errorf("results of Words share memory: %#x", w)
	}
	if got := Bytes(5); !bytes.Equal(got, []byte{0, 0, 0, 5}) {
		t.Errorf("results of Bytes share memory: %v", got)
	}
}

func TestFailedCallsHaveNoEffect(t *testing.T) {
	for range 3 {
		Put(256, 1)
		Put(0, 9)
		Get(nil)
		Words([]byte{1})
		Xor([]byte{1}, nil)
		if b, e := Put(258, 2); e != api.OK || !bytes.Equal(b, []byte{1, 2}) {
			t.Errorf("Put after failed calls = %v, %d", b, e)
		}
		if n, e := Get([]byte{1, 2}); e != api.OK || n != 258 {
			t.Errorf("Get after failed calls = %d, %d", n, e)
		}
	}
}
