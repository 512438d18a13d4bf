package hmac

import (
	"bytes"
	stdhmac "crypto/hmac"
	"crypto/sha256"
	"encoding/hex"
	"slices"
	"testing"

	"baton/api"
)

// keySizes are lengths of keys around the length of a digest and of a block, and longer ones.
var keySizes = []int{0, 1, 20, 31, 32, 33, 55, 56, 62, 63, 64, 65, 66, 127, 128, 129, 131, 200, 1000}

// messageSizes are lengths of messages around the ends of blocks and of their padding.
var messageSizes = []int{0, 1, 8, 31, 32, 33, 54, 55, 56, 57, 63, 64, 65, 119, 120, 127, 128, 129, 300}

// message returns n bytes that differ for each seed. None of them is zero, so that they differ from what fills a key up.
func message(n, seed int) []byte {
	b := make([]byte, n)
	for i := range b {
		b[i] = byte(7*i+i/64*13+i/256+31*seed+5) | 1
	}
	return b
}

// slowSum follows the sentences of P3.1 with Go's own SHA-256, so that it shares nothing with Sum.
func slowSum(key, m []byte) api.Key {
	if len(key) > 64 {
		k := sha256.Sum256(key)
		key = k[:]
	}
	own := append(bytes.Clone(key), make([]byte, 64-len(key))...)
	var inner, outer []byte
	for _, c := range own {
		inner = append(inner, c^0x36)
		outer = append(outer, c^0x5c)
	}
	d := sha256.Sum256(append(inner, m...))
	return sha256.Sum256(append(outer, d[:]...))
}

// libraryTag returns the tag that Go's own HMAC computes.
func libraryTag(key, m []byte) api.Key {
	h := stdhmac.New(sha256.New, key)
	h.Write(m)
	return api.Key(h.Sum(nil))
}

// cut divides a message into pieces whose lengths repeat the given ones, and whatever is left behind them.
func cut(m []byte, lengths ...int) [][]byte {
	var parts [][]byte
	for i := 0; len(m) > 0; i++ {
		n := min(len(m), lengths[i%len(lengths)])
		parts = append(parts, m[:n])
		m = m[n:]
	}
	return parts
}

// P3.1

func TestOwnOfShortKeys(t *testing.T) {
	for n := range 65 {
		key := message(n, 1)
		own := Own(key)
		if !bytes.Equal(own[:n], key) || !bytes.Equal(own[n:], make([]byte, 64-n)) {
			t.Errorf("Own of %d bytes = %x, want the key and zeros", n, own)
		}
	}
}

func TestOwnOfLongKeys(t *testing.T) {
	for _, n := range []int{65, 66, 96, 127, 128, 129, 131, 200, 1000} {
		key := message(n, 2)
		own := Own(key)
		want := sha256.Sum256(key)
		if !bytes.Equal(own[:32], want[:]) || !bytes.Equal(own[32:], make([]byte, 32)) {
			t.Errorf("Own of %d bytes = %x, want %x and zeros", n, own, want)
		}
	}
}

func TestOwnOfEmptyKeys(t *testing.T) {
	if Own(nil) != [64]byte{} || Own([]byte{}) != [64]byte{} {
		t.Errorf("Own of no bytes = %x, %x, want zeros", Own(nil), Own([]byte{}))
	}
	// Spare room does not count as bytes of the key.
	room := message(200, 3)
	if Own(room[:0]) != [64]byte{} {
		t.Errorf("Own of no bytes with room behind them = %x, want zeros", Own(room[:0]))
	}
	if Own(room[:64]) != [64]byte(room[:64]) {
		t.Errorf("Own of 64 bytes with room behind them = %x, want %x", Own(room[:64]), room[:64])
	}
}

func TestOwnAroundABlock(t *testing.T) {
	key := bytes.Repeat([]byte{0xaa}, 65)
	of63, of64, of65 := Own(key[:63]), Own(key[:64]), Own(key)
	if of63[62] != 0xaa || of63[63] != 0 {
		t.Errorf("Own of 63 bytes ends with %x, want aa, 00", of63[62:])
	}
	if !bytes.Equal(of64[:], key[:64]) {
		t.Errorf("Own of 64 bytes = %x, want the key", of64)
	}
	d := sha256.Sum256(key)
	if !bytes.Equal(of65[:], append(d[:], make([]byte, 32)...)) {
		t.Errorf("Own of 65 bytes = %x, want %x and zeros", of65, d)
	}
}

func TestSumExamples(t *testing.T) {
	fifty := func(c byte) []byte { return bytes.Repeat([]byte{c}, 50) }
	counted, _ := hex.DecodeString("0102030405060708090a0b0c0d0e0f10111213141516171819")
	for _, x := range []struct {
		key, text []byte
		want      string
	}{
		{bytes.Repeat([]byte{11}, 20), []byte("Hi There"), "b0344c61d8db38535ca8afceaf0bf12b881dc200c9833da726e9376c2e32cff7"},
		{[]byte("Jefe"), []byte("what do ya want for nothing?"), "5bdcc146bf60754e6a042426089575c75a003f089d2739839dec58b964ec3843"},
		{bytes.Repeat([]byte{0xaa}, 20), fifty(0xdd), "773ea91e36800e46854db8ebd09181a72959098b3ef8c122d9635514ced565fe"},
		{counted, fifty(0xcd), "82558a389a443c0ea4cc819899f2083a85f0faa3e578f8077a2e3ff46729665b"},
		{bytes.Repeat([]byte{0xaa}, 131), []byte("Test Using Larger Than Block-Size Key - Hash Key First"), "60e431591ee0b67f0d8a26aacbf5b77f8e0bc6213728c5140546040f0ee37f54"},
		{bytes.Repeat([]byte{0xaa}, 131), []byte("This is a test using a larger than block-size key and a larger than block-size data. The key needs to be hashed before being used by the HMAC algorithm."), "9b09ffa71b942fcb27635fbcd5b0e944bfdc63644f0713938a7f51535c3a35e2"},
		{nil, nil, "b613679a0814d9ec772f95d778c35fc5ff1697c493715653c6c712144292c5ad"},
	} {
		k := Sum(x.key, x.text)
		if got := hex.EncodeToString(k[:]); got != x.want {
			t.Errorf("Sum(%x, %q) = %s, want %s", x.key, x.text, got, x.want)
		}
	}
}

func TestSumFollowsTheSentences(t *testing.T) {
	for _, n := range keySizes {
		for _, size := range messageSizes {
			key, m := message(n, 4), message(size, 5)
			want := slowSum(key, m)
			if got := Sum(key, m); got != want || got != libraryTag(key, m) {
				t.Errorf("Sum of a key of %d and a message of %d bytes = %x, want %x", n, size, got, want)
			}
		}
	}
}

func TestSumOfNoParts(t *testing.T) {
	for _, n := range keySizes {
		key := message(n, 6)
		want := slowSum(key, nil)
		for i, got := range []api.Key{
			Sum(key),
			Sum(key, nil),
			Sum(key, []byte{}),
			Sum(key, nil, []byte{}, nil),
			Sum(key, [][]byte{}...),
		} {
			if got != want {
				t.Errorf("form %d: Sum of a key of %d bytes and no message = %x, want %x", i, n, got, want)
			}
		}
	}
}

func TestSumOfALongKeyIsThatOfItsDigest(t *testing.T) {
	m := message(40, 7)
	for _, n := range []int{65, 66, 128, 1000} {
		key := message(n, 8)
		d := sha256.Sum256(key)
		if Sum(key, m) != Sum(d[:], m) {
			t.Errorf("Sum of a key of %d bytes differs from that of its digest", n)
		}
	}
	for _, n := range []int{1, 63, 64} {
		key := message(n, 8)
		d := sha256.Sum256(key)
		if Sum(key, m) == Sum(d[:], m) {
			t.Errorf("Sum of a key of %d bytes is that of its digest", n)
		}
	}
}

func TestSumOfZerosBehindAKey(t *testing.T) {
	m := message(40, 9)
	key := message(20, 9)
	for n := 20; n <= 64; n++ {
		longer := append(bytes.Clone(key), make([]byte, n-20)...)
		if Sum(longer, m) != Sum(key, m) {
			t.Errorf("zeros up to %d bytes change the tag of a shorter key", n)
		}
	}
	longer := append(bytes.Clone(key), make([]byte, 45)...)
	if Sum(longer, m) != slowSum(longer, m) || Sum(longer, m) == Sum(key, m) {
		t.Errorf("zeros up to 65 bytes: %x", Sum(longer, m))
	}
}

// P3.2

func TestSameOfEqualBytes(t *testing.T) {
	for n := range 130 {
		a := message(n, 1)
		if !Same(a, bytes.Clone(a)) || !Same(a, a) {
			t.Errorf("Same of equal %d bytes is false", n)
		}
	}
	// Spare room does not count.
	if !Same([]byte{1, 2, 3}[:2], []byte{1, 2, 4}[:2]) {
		t.Errorf("Same looks behind the bytes")
	}
}

func TestSameOfEmptySlices(t *testing.T) {
	empties := [][]byte{nil, {}, make([]byte, 0, 8), message(4, 0)[:0]}
	for _, a := range empties {
		for _, b := range empties {
			if !Same(a, b) {
				t.Errorf("Same(%#v, %#v) is false", a, b)
			}
		}
		for _, b := range [][]byte{{0}, {1}, {0, 0}} {
			if Same(a, b) || Same(b, a) {
				t.Errorf("Same of no bytes and %v is true", b)
			}
		}
	}
}

func TestSameOfDifferentLengths(t *testing.T) {
	for n := range 70 {
		for m := range 70 {
			// One is the start of the other one, so that only the length tells them apart.
			if got := Same(message(n, 2), message(m, 2)); got != (n == m) {
				t.Errorf("Same of %d and %d bytes = %t", n, m, got)
			}
			if got := Same(make([]byte, n), make([]byte, m)); got != (n == m) {
				t.Errorf("Same of %d and %d zeros = %t", n, m, got)
			}
		}
	}
	if Same(message(300, 2), message(300-256, 2)) {
		t.Errorf("Same of lengths that differ by 256 is true")
	}
}

func TestSameOfOneDifferentPlace(t *testing.T) {
	for _, n := range []int{1, 2, 3, 8, 31, 32, 33, 64, 100} {
		for at := range n {
			for bit := range 8 {
				a := message(n, 3)
				b := bytes.Clone(a)
				b[at] ^= 1 << bit
				if Same(a, b) || Same(b, a) {
					t.Errorf("Same of %d bytes that differ in bit %d of place %d is true", n, bit, at)
				}
			}
		}
	}
}

func TestSameOfDifferencesThatCancel(t *testing.T) {
	// Neither the exclusive or nor the sum of all differences may stand for them.
	for _, x := range [][2][]byte{
		{{1, 2}, {2, 1}},
		{{0, 0}, {1, 1}},
		{{0, 0}, {128, 128}},
		{{5, 5}, {4, 6}},
		{{0, 255}, {255, 0}},
		{{7, 7, 7}, {9, 7, 9}},
		{{1, 2, 3, 4}, {4, 3, 2, 1}},
	} {
		if Same(x[0], x[1]) || Same(x[1], x[0]) {
			t.Errorf("Same(%v, %v) is true", x[0], x[1])
		}
	}
}

func TestSameOfAllPairsOfBytes(t *testing.T) {
	for a := range 256 {
		for b := range 256 {
			if got := Same([]byte{byte(a)}, []byte{byte(b)}); got != (a == b) {
				t.Fatalf("Same of %d and %d = %t", a, b, got)
			}
		}
	}
}

func TestCheckOfTheCorrectTag(t *testing.T) {
	for _, n := range keySizes {
		for _, size := range messageSizes {
			key, m := message(n, 1), message(size, 2)
			if e := Check(key, slowSum(key, m), m); e != api.OK {
				t.Errorf("Check of a key of %d and a message of %d bytes = %d, want 0", n, size, e)
			}
		}
	}
	key := message(20, 1)
	for i, e := range []api.Errno{
		Check(key, slowSum(key, nil)),
		Check(key, slowSum(key, nil), nil),
		Check(key, slowSum(key, nil), []byte{}, nil),
		Check(nil, slowSum(nil, nil)),
		Check([]byte{}, slowSum(nil, nil)),
		Check(key, slowSum(key, []byte("Hi There")), []byte("Hi"), nil, []byte(" There")),
	} {
		if e != api.OK {
			t.Errorf("form %d: Check of the correct tag = %d, want 0", i, e)
		}
	}
}

func TestCheckOfOneWrongBit(t *testing.T) {
	key, m := bytes.Repeat([]byte{11}, 20), []byte("Hi There")
	tag := slowSum(key, m)
	for at := range tag {
		for bit := range 8 {
			wrong := tag
			wrong[at] ^= 1 << bit
			if e := Check(key, wrong, m); e != api.ErrTag {
				t.Errorf("Check with bit %d of byte %d changed = %d, want ErrTag", bit, at, e)
			}
		}
	}
}

func TestCheckOfAnotherKey(t *testing.T) {
	key, m := message(32, 1), message(50, 2)
	tag := slowSum(key, m)
	first, last := bytes.Clone(key), bytes.Clone(key)
	first[0] ^= 1
	last[31] ^= 128
	for _, other := range [][]byte{nil, first, last, key[:31], key[1:], append(bytes.Clone(key), 1), message(32, 3), message(64, 1), message(65, 1)} {
		if e := Check(other, tag, m); e != api.ErrTag {
			t.Errorf("Check of another key %x = %d, want ErrTag", other, e)
		}
		if e := Check(key, slowSum(other, m), m); e != api.ErrTag {
			t.Errorf("Check of the tag of another key %x = %d, want ErrTag", other, e)
		}
	}
}

func TestCheckOfAnotherMessage(t *testing.T) {
	key, m := message(32, 1), message(50, 2)
	tag := slowSum(key, m)
	first, last := bytes.Clone(m), bytes.Clone(m)
	first[0] ^= 1
	last[49] ^= 128
	for _, other := range [][]byte{nil, first, last, m[:49], m[1:], append(bytes.Clone(m), 0), message(50, 3), append(bytes.Clone(m), m...)} {
		if e := Check(key, tag, other); e != api.ErrTag {
			t.Errorf("Check of another message %x = %d, want ErrTag", other, e)
		}
		if e := Check(key, slowSum(key, other), m); e != api.ErrTag {
			t.Errorf("Check of the tag of another message %x = %d, want ErrTag", other, e)
		}
	}
	if e := Check(key, tag); e != api.ErrTag {
		t.Errorf("Check of no parts = %d, want ErrTag", e)
	}
	if e := Check(key, tag, m[25:], m[:25]); e != api.ErrTag {
		t.Errorf("Check of the parts in another order = %d, want ErrTag", e)
	}
	if e := Check(key, tag, m, m[:1]); e != api.ErrTag {
		t.Errorf("Check of a further part = %d, want ErrTag", e)
	}
}

func TestCheckOfOtherKeysAsTags(t *testing.T) {
	key, m := message(32, 1), message(50, 2)
	full := api.Key(bytes.Repeat([]byte{255}, 32))
	inner := api.Key(sha256.Sum256(m))
	for _, tag := range []api.Key{{}, full, inner, api.Key(key)} {
		if e := Check(key, tag, m); e != api.ErrTag {
			t.Errorf("Check of %x = %d, want ErrTag", tag, e)
		}
	}
}

// P3.3

func TestPartsDoNotMatter(t *testing.T) {
	cuts := [][]int{
		{1}, {2}, {3, 0, 5}, {0, 1}, {7, 57}, {63, 1}, {1, 63}, {64}, {0, 64, 0}, {65}, {63}, {128, 1},
		{1, 0, 0, 2, 3, 5, 8, 13, 21, 34, 55, 89}, {1000},
	}
	for _, n := range []int{0, 20, 63, 64, 65, 131} {
		key := message(n, 1)
		for _, size := range messageSizes {
			m := message(size, 2)
			want := libraryTag(key, m)
			for _, c := range cuts {
				parts := cut(m, c...)
				if got := Sum(key, parts...); got != want {
					t.Errorf("a key of %d, %d bytes in parts %v: Sum %x, want %x", n, size, c, got, want)
				}
				if e := Check(key, want, parts...); e != api.OK {
					t.Errorf("a key of %d, %d bytes in parts %v: Check %d, want 0", n, size, c, e)
				}
			}
		}
	}
}

func TestEveryCutInThree(t *testing.T) {
	key, m := message(20, 1), message(70, 2)
	want := Sum(key, m)
	for i := range len(m) + 1 {
		for j := i; j <= len(m); j++ {
			if got := Sum(key, m[:i], m[i:j], m[j:]); got != want {
				t.Errorf("cut at %d and %d: Sum %x, want %x", i, j, got, want)
			}
		}
	}
}

func TestEmptyPartsDoNotMatter(t *testing.T) {
	key, a, b := message(20, 1), message(30, 2), message(40, 3)
	want := slowSum(key, slices.Concat(a, b))
	for i, got := range []api.Key{
		Sum(key, a, b),
		Sum(key, nil, a, b),
		Sum(key, a, nil, b),
		Sum(key, a, b, nil),
		Sum(key, []byte{}, a, []byte{}, []byte{}, b, []byte{}, nil),
	} {
		if got != want {
			t.Errorf("form %d: Sum %x, want %x", i, got, want)
		}
	}
}

// P1 and P2

func TestArgumentsStay(t *testing.T) {
	for _, n := range keySizes {
		// The room behind the bytes would take what is appended in place.
		room := func(size, seed int) []byte { return append(message(size, seed), bytes.Repeat([]byte{0xa5}, 200)...) }
		key, one, two := room(n, 1), room(n, 2), room(n/2, 3)
		parts := [][]byte{one[:n], two[:n/2], {1}, {2}}
		tag := Sum(key[:n], parts[:2]...)
		Own(key[:n])
		Check(key[:n], tag, parts[:2]...)
		Check(key[:n], api.Key{}, parts[:2]...)
		Same(one[:n], two[:n/2])
		Same(key[:n], one[:n])
		if !bytes.Equal(key, room(n, 1)) || !bytes.Equal(one, room(n, 2)) || !bytes.Equal(two, room(n/2, 3)) {
			t.Errorf("an argument of %d bytes changed", n)
		}
		if len(parts[0]) != n || len(parts[1]) != n/2 || !bytes.Equal(parts[2], []byte{1}) || !bytes.Equal(parts[3], []byte{2}) {
			t.Errorf("the list of parts changed")
		}
	}
}

func TestPartsThatShareMemory(t *testing.T) {
	b := message(100, 1)
	for _, n := range []int{20, 64, 65, 100} {
		want := slowSum(b[:n], slices.Concat(b, b[10:90], b[:n]))
		if got := Sum(b[:n], b, b[10:90], b[:n]); got != want {
			t.Errorf("a key of %d bytes that is a part too: Sum %x, want %x", n, got, want)
		}
	}
}

func TestCallsDoNotDependOnEarlierOnes(t *testing.T) {
	key, m := message(65, 1), message(50, 2)
	own, tag := Own(key), Sum(key, m)
	for i := range 3 {
		Own(message(64, i+3))
		Sum(message(10, i+3), message(100, i))
		Check(key, api.Key{}, m)
		Same(key, m)
		if Own(key) != own || Sum(key, m) != tag || Check(key, tag, m) != api.OK {
			t.Errorf("a call changed what later calls return")
		}
	}
	clear(own[:])
	if Own(key) == own {
		t.Errorf("results of Own share memory")
	}
}
