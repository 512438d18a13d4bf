package label

import (
	"bytes"
	"encoding/binary"
	"math"
	"math/big"
	"slices"
	"strings"
	"testing"

	"baton/api"
)

// message returns n bytes that differ for each seed.
func message(n, seed int) []byte {
	b := make([]byte, n)
	for i := range b {
		b[i] = byte(7*i + i/256 + 31*seed + 5)
	}
	return b
}

// slowJoin follows the sentence of P4.1 for lists without error, with Go's own big-endian numbers.
func slowJoin(parts ...[]byte) []byte {
	b := []byte{byte(len(parts))}
	for _, p := range parts {
		b = binary.BigEndian.AppendUint32(b, uint32(len(p)))
		b = append(b, p...)
	}
	return b
}

// slowSplit follows the sentence of P4.1 by an index that moves over b.
func slowSplit(b []byte) ([][]byte, api.Errno) {
	if len(b) == 0 {
		return nil, api.ErrShort
	}
	if b[0] > 64 {
		return nil, api.ErrFull
	}
	parts, at := [][]byte{}, 1
	for len(parts) < int(b[0]) {
		if at+4 > len(b) {
			return nil, api.ErrShort
		}
		n := int(binary.BigEndian.Uint32(b[at:]))
		at += 4
		if n > 1048576 {
			return nil, api.ErrSize
		}
		if at+n > len(b) {
			return nil, api.ErrShort
		}
		parts = append(parts, b[at:at+n])
		at += n
	}
	if at < len(b) {
		return nil, api.ErrLong
	}
	return parts, api.OK
}

// slowOf follows the sentence of P4.2 with numbers that don't wrap round.
func slowOf(name string, numbers ...int) []byte {
	b := append([]byte(name), 0)
	modulus := new(big.Int).Lsh(big.NewInt(1), 64)
	for _, n := range numbers {
		x := new(big.Int).Lsh(big.NewInt(1), 63)
		x.Add(x, big.NewInt(int64(n)))
		x.Mod(x, modulus)
		b = append(b, x.FillBytes(make([]byte, 8))...)
	}
	return b
}

func equalLists(a, b [][]byte) bool {
	return slices.EqualFunc(a, b, bytes.Equal)
}

// sampleLists are lists whose bytes look like numbers of parts, like lengths, and like whole encodings.
func sampleLists() [][][]byte {
	inner := slowJoin([]byte("a"), nil)
	l := [][][]byte{
		nil,
		{},
		{nil},
		{{}},
		{nil, {}},
		{{0}},
		{{0, 0, 0, 0}},
		{{0, 0, 0, 1}, {0, 0, 0, 1}},
		{[]byte("a"), {}},
		{{}, []byte("a")},
		{[]byte("ab"), nil, {7}},
		{{255}, {255, 255, 255, 255}, {64}, {65}},
		{inner},
		{inner, inner},
		{message(255, 1), message(256, 2), message(257, 3)},
		{message(65535, 1), message(65536, 2), message(65537, 3)},
	}
	for n := range MaxParts + 1 {
		var parts [][]byte
		for i := range n {
			parts = append(parts, message(i*i%11, i))
		}
		l = append(l, make([][]byte, n), parts)
	}
	return l
}

// P4.1

func TestConstants(t *testing.T) {
	if MaxPart != 1048576 || MaxParts != 64 {
		t.Errorf("MaxPart %d, MaxParts %d, want 1048576, 64", MaxPart, MaxParts)
	}
}

func TestJoinExamples(t *testing.T) {
	for _, x := range []struct {
		parts [][]byte
		want  []byte
	}{
		{[][]byte{[]byte("a"), nil}, []byte{2, 0, 0, 0, 1, 97, 0, 0, 0, 0}},
		{[][]byte{[]byte("a"), {}}, []byte{2, 0, 0, 0, 1, 97, 0, 0, 0, 0}},
		{nil, []byte{0}},
		{[][]byte{}, []byte{0}},
		{[][]byte{nil}, []byte{1, 0, 0, 0, 0}},
		{[][]byte{{}}, []byte{1, 0, 0, 0, 0}},
		{[][]byte{nil, {}, nil}, []byte{3, 0, 0, 0, 0, 0, 0, 0, 0, 0, 0, 0, 0}},
		{[][]byte{nil, []byte("a")}, []byte{2, 0, 0, 0, 0, 0, 0, 0, 1, 97}},
		{[][]byte{{0}}, []byte{1, 0, 0, 0, 1, 0}},
		{[][]byte{{1, 2}, {255, 0, 3}}, []byte{2, 0, 0, 0, 2, 1, 2, 0, 0, 0, 3, 255, 0, 3}},
	} {
		if got, e := Join(x.parts...); e != api.OK || !bytes.Equal(got, x.want) {
			t.Errorf("Join(%v) = %v, %d, want %v, 0", x.parts, got, e, x.want)
		}
		if got, e := Split(x.want); e != api.OK || !equalLists(got, x.parts) {
			t.Errorf("Split(%v) = %v, %d, want %v, 0", x.want, got, e, x.parts)
		}
	}
	if got, e := Join(); e != api.OK || !bytes.Equal(got, []byte{0}) {
		t.Errorf("Join() = %v, %d, want 0, 0", got, e)
	}
}

func TestJoinFollowsTheSentence(t *testing.T) {
	for _, parts := range sampleLists() {
		if got, e := Join(parts...); e != api.OK || !bytes.Equal(got, slowJoin(parts...)) {
			t.Errorf("Join of %d parts = %d bytes, %d, want %d bytes, 0", len(parts), len(got), e, len(slowJoin(parts...)))
		}
	}
}

func TestJoinOfTooManyParts(t *testing.T) {
	for _, n := range []int{65, 66, 128, 255, 256, 257, 320, 1000} {
		if got, e := Join(make([][]byte, n)...); e != api.ErrFull || len(got) != 0 {
			t.Errorf("Join of %d parts = %v, %d, want none, ErrFull", n, got, e)
		}
	}
	// A part that is too long is an error as well: ErrFull is mentioned first.
	parts := make([][]byte, 65)
	parts[0] = make([]byte, MaxPart+1)
	if got, e := Join(parts...); e != api.ErrFull || len(got) != 0 {
		t.Errorf("Join of 65 parts, one of them too long = %v, %d, want none, ErrFull", got, e)
	}
}

func TestJoinOfLongParts(t *testing.T) {
	long := message(MaxPart+1, 1)
	for _, at := range []int{0, 1, 31, 63} {
		parts := make([][]byte, 64)
		parts[at] = long[:MaxPart]
		b, e := Join(parts...)
		if e != api.OK || !bytes.Equal(b, slowJoin(parts...)) {
			t.Errorf("Join with a part of MaxPart bytes at %d = %d bytes, %d", at, len(b), e)
		}
		if got, e := Split(b); e != api.OK || !equalLists(got, parts) {
			t.Errorf("Split of a part of MaxPart bytes at %d = %d parts, %d", at, len(got), e)
		}
		parts[at] = long
		if b, e := Join(parts...); e != api.ErrSize || len(b) != 0 {
			t.Errorf("Join with a part of MaxPart + 1 bytes at %d = %d bytes, %d, want none, ErrSize", at, len(b), e)
		}
	}
	if b, e := Join(make([]byte, 3*MaxPart)); e != api.ErrSize || len(b) != 0 {
		t.Errorf("Join of a part of 3 MaxPart bytes = %d bytes, %d, want none, ErrSize", len(b), e)
	}
}

func TestTheLongestList(t *testing.T) {
	part := message(MaxPart, 1)
	parts := slices.Repeat([][]byte{part}, MaxParts)
	b, e := Join(parts...)
	if e != api.OK || len(b) != 1+64*(4+1048576) || b[0] != 64 {
		t.Fatalf("Join of 64 parts of MaxPart bytes = %d bytes, %d", len(b), e)
	}
	if got, e := Split(b); e != api.OK || !equalLists(got, parts) {
		t.Errorf("Split of 64 parts of MaxPart bytes = %d parts, %d", len(got), e)
	}
}

func TestSplitInvertsJoin(t *testing.T) {
	for _, parts := range sampleLists() {
		b, e := Join(parts...)
		if e != api.OK {
			t.Fatalf("Join of %d parts: %d", len(parts), e)
		}
		if got, e := Split(b); e != api.OK || !equalLists(got, parts) {
			t.Errorf("Split of the Join of %d parts = %d parts, %d", len(parts), len(got), e)
		}
	}
}

func TestSplitErrors(t *testing.T) {
	for _, x := range []struct {
		name string
		b    []byte
		want api.Errno
	}{
		{"nil", nil, api.ErrShort},
		{"no bytes", []byte{}, api.ErrShort},
		{"no parts", []byte{0}, api.OK},
		{"no parts and more", []byte{0, 0}, api.ErrLong},
		{"no parts and a part", []byte{0, 0, 0, 0, 0}, api.ErrLong},
		{"64 parts, none there", []byte{64}, api.ErrShort},
		{"65 parts, none there", []byte{65}, api.ErrFull},
		{"255 parts, none there", []byte{255}, api.ErrFull},
		{"65 parts, the first too long", []byte{65, 255, 255, 255, 255}, api.ErrFull},
		{"64 parts, the first too long", []byte{64, 255, 255, 255, 255}, api.ErrSize},
		{"a length of no bytes", []byte{1}, api.ErrShort},
		{"a length of one byte", []byte{1, 0}, api.ErrShort},
		{"a length of two bytes", []byte{1, 0, 16}, api.ErrShort},
		{"a length of three bytes", []byte{1, 255, 255, 255}, api.ErrShort},
		{"an empty part", []byte{1, 0, 0, 0, 0}, api.OK},
		{"MaxPart, the part is not there", []byte{1, 0, 16, 0, 0}, api.ErrShort},
		{"MaxPart + 1, the part is not there", []byte{1, 0, 16, 0, 1}, api.ErrSize},
		{"2^24, the part is not there", []byte{1, 1, 0, 0, 0}, api.ErrSize},
		{"2^31 - 1, the part is not there", []byte{1, 127, 255, 255, 255}, api.ErrSize},
		{"2^31, the part is not there", []byte{1, 128, 0, 0, 0}, api.ErrSize},
		{"2^32 - 1, the part is not there", []byte{1, 255, 255, 255, 255}, api.ErrSize},
		{"2^32 - 4, the part is not there", []byte{1, 255, 255, 255, 252, 1}, api.ErrSize},
		{"a part that is not there", []byte{1, 0, 0, 0, 1}, api.ErrShort},
		{"a part that is cut off", []byte{1, 0, 0, 0, 2, 9}, api.ErrShort},
		{"a part and more", []byte{1, 0, 0, 0, 2, 9, 9, 9}, api.ErrLong},
		{"a second part without a length", []byte{2, 0, 0, 0, 1, 9}, api.ErrShort},
		{"a second length that is cut off", []byte{2, 0, 0, 0, 1, 9, 255, 255, 255}, api.ErrShort},
		{"a second part that is too long", []byte{2, 0, 0, 0, 1, 9, 0, 16, 0, 1}, api.ErrSize},
		{"a second part that is cut off", []byte{2, 0, 0, 0, 1, 9, 0, 0, 0, 2, 9}, api.ErrShort},
		{"a part that is cut off ahead of one that is too long", []byte{2, 0, 0, 0, 9, 0, 16, 0, 1}, api.ErrShort},
		{"a part that is too long ahead of one that is cut off", []byte{2, 0, 16, 0, 1, 0, 0, 0, 1}, api.ErrSize},
		{"one part more than there are", []byte{1, 0, 0, 0, 0, 0, 0, 0, 0}, api.ErrLong},
		{"one part less than there are", []byte{2, 0, 0, 0, 0}, api.ErrShort},
	} {
		l, e := Split(x.b)
		if e != x.want || e != api.OK && len(l) != 0 {
			t.Errorf("%s: Split(%v) = %v, %d, want %d", x.name, x.b, l, e, x.want)
		}
	}
}

func TestSplitOfEveryFirstByte(t *testing.T) {
	for n := range 256 {
		b := make([]byte, 1+4*n)
		b[0] = byte(n)
		l, e := Split(b)
		if n <= 64 && (e != api.OK || !equalLists(l, make([][]byte, n))) {
			t.Errorf("Split of %d empty parts = %v, %d", n, l, e)
		}
		if n > 64 && (e != api.ErrFull || len(l) != 0) {
			t.Errorf("Split of %d empty parts = %v, %d, want none, ErrFull", n, l, e)
		}
	}
}

func TestSplitAtMaxPart(t *testing.T) {
	whole := append([]byte{1, 0, 16, 0, 0}, message(MaxPart+1, 2)...)
	for _, x := range []struct {
		size int
		want api.Errno
	}{{MaxPart - 1, api.ErrShort}, {MaxPart, api.OK}, {MaxPart + 1, api.ErrLong}} {
		l, e := Split(whole[:5+x.size])
		if e != x.want || e != api.OK && len(l) != 0 {
			t.Errorf("Split of a length of MaxPart and %d bytes = %d parts, %d, want %d", x.size, len(l), e, x.want)
		}
	}
	// All bytes are there, and yet the part is too long.
	whole[4] = 1
	if l, e := Split(whole); e != api.ErrSize || len(l) != 0 {
		t.Errorf("Split of a part of MaxPart + 1 bytes = %d parts, %d, want none, ErrSize", len(l), e)
	}
}

func TestSplitOfEveryCutAndOfMore(t *testing.T) {
	for _, parts := range sampleLists() {
		b := slowJoin(parts...)
		if len(b) > 2000 {
			continue
		}
		for n := range b {
			if l, e := Split(b[:n]); e != api.ErrShort || len(l) != 0 {
				t.Errorf("Split of %d of %d bytes = %v, %d, want none, ErrShort", n, len(b), l, e)
			}
		}
		for _, more := range [][]byte{{0}, {255}, {0, 0, 0, 0}, {0, 0, 0, 1, 9}, b} {
			if l, e := Split(slices.Concat(b, more)); e != api.ErrLong || len(l) != 0 {
				t.Errorf("Split of %d bytes and %v = %v, %d, want none, ErrLong", len(b), more, l, e)
			}
		}
	}
}

// shortStrings calls f with each string of at most n bytes out of those of the alphabet.
func shortStrings(n int, alphabet []byte, f func(b []byte)) {
	var extend func(b []byte)
	extend = func(b []byte) {
		f(b)
		if len(b) == n {
			return
		}
		for _, c := range alphabet {
			extend(append(b, c))
		}
	}
	extend(make([]byte, 0, n))
}

func TestSplitOfShortStrings(t *testing.T) {
	check := func(b []byte) {
		want, wantError := slowSplit(b)
		got, e := Split(b)
		if e != wantError || !equalLists(got, want) {
			t.Fatalf("Split(%v) = %v, %d, want %v, %d", b, got, e, want, wantError)
		}
		if e != api.OK {
			return
		}
		if back, e := Join(got...); e != api.OK || !bytes.Equal(back, b) {
			t.Fatalf("Join(Split(%v)) = %v, %d", b, back, e)
		}
	}
	shortStrings(7, []byte{0, 1, 2, 16, 255}, check)
	shortStrings(12, []byte{0, 2}, check)
	shortStrings(2, message(256, 0), check)
}

// P4.2

// ends are numbers around 0, around the ends of shorter kinds of numbers, and at those of int.
var ends = []int{
	0, 1, 2, -1, -2, 127, 128, 255, 256, -128, -129, -255, -256, -257, 65535, 65536,
	math.MaxInt32, math.MaxInt32 + 1, math.MinInt32, math.MinInt32 - 1, math.MaxUint32, math.MaxUint32 + 1,
	api.MaxEpoch, api.MaxCount, 0x0123456789abcdef, -0x0123456789abcdef,
	math.MaxInt - 1, math.MaxInt, math.MinInt, math.MinInt + 1,
}

func TestOfExamples(t *testing.T) {
	for _, x := range []struct {
		name    string
		numbers []int
		want    []byte
	}{
		{"", nil, []byte{0}},
		{"", []int{}, []byte{0}},
		{"k", nil, []byte{'k', 0}},
		{"", []int{0}, []byte{0, 128, 0, 0, 0, 0, 0, 0, 0}},
		{"k", []int{-1}, []byte{'k', 0, 127, 255, 255, 255, 255, 255, 255, 255}},
		{"k", []int{1}, []byte{'k', 0, 128, 0, 0, 0, 0, 0, 0, 1}},
		{"k", []int{258}, []byte{'k', 0, 128, 0, 0, 0, 0, 0, 1, 2}},
		{"k", []int{-256}, []byte{'k', 0, 127, 255, 255, 255, 255, 255, 255, 0}},
		{"k", []int{math.MinInt}, []byte{'k', 0, 0, 0, 0, 0, 0, 0, 0, 0}},
		{"k", []int{math.MaxInt}, []byte{'k', 0, 255, 255, 255, 255, 255, 255, 255, 255}},
		{"k", []int{0x0102030405060708}, []byte{'k', 0, 129, 2, 3, 4, 5, 6, 7, 8}},
		{"packet", []int{1, 0}, []byte{
			'p', 'a', 'c', 'k', 'e', 't', 0, 128, 0, 0, 0, 0, 0, 0, 1, 128, 0, 0, 0, 0, 0, 0, 0}},
		{"a\x00", nil, []byte{'a', 0, 0}},
		{"\xff\x80é", nil, []byte{255, 128, 0xc3, 0xa9, 0}},
	} {
		if got := Of(x.name, x.numbers...); !bytes.Equal(got, x.want) {
			t.Errorf("Of(%q, %d) = %v, want %v", x.name, x.numbers, got, x.want)
		}
	}
	if got := Of("ab"); !bytes.Equal(got, []byte{'a', 'b', 0}) {
		t.Errorf("Of(ab) = %v", got)
	}
	if got := Of("", math.MinInt, math.MaxInt); !bytes.Equal(got, slices.Concat(make([]byte, 9), bytes.Repeat([]byte{255}, 8))) {
		t.Errorf("Of of the least and the greatest number = %v", got)
	}
}

func TestOfFollowsTheSentence(t *testing.T) {
	names := []string{"", "a", "packet", "\x00", "a\x00b", strings.Repeat("long ", 1000), string(message(300, 1))}
	for _, name := range names {
		for i, n := range ends {
			for _, numbers := range [][]int{{n}, {n, n}, ends[i:], {0, n, ends[len(ends)-1-i]}} {
				if got := Of(name, numbers...); !bytes.Equal(got, slowOf(name, numbers...)) {
					t.Errorf("Of(%q, %d) = %v, want %v", name, numbers, got, slowOf(name, numbers...))
				}
			}
		}
	}
	// There is no greatest number of them, and a name may be longer than a part.
	many := make([]int, 5000)
	for i := range many {
		many[i] = 7*i - 10000
	}
	long := strings.Repeat("x", MaxPart+1)
	if !bytes.Equal(Of(long, many...), slowOf(long, many...)) {
		t.Errorf("Of of a long name and 5000 numbers is not its bytes")
	}
}

// P4.3

func TestListsThatDifferHaveDifferentEncodings(t *testing.T) {
	lists := [][][]byte{
		{[]byte("ab"), []byte("c")},
		{[]byte("a"), []byte("bc")},
		{[]byte("abc")},
		{[]byte("abc"), nil},
		{nil, []byte("abc")},
		{nil, nil, []byte("abc")},
		{[]byte("ab"), nil, []byte("c")},
		{[]byte("a"), nil, []byte("bc")},
		{[]byte("a"), []byte("b"), []byte("c")},
		{[]byte("c"), []byte("b"), []byte("a")},
		{{0, 0, 0, 0}},
		{{0, 0, 0, 0}, nil},
		{nil, {0, 0, 0, 0}},
		{slowJoin([]byte("a"), []byte("bc"))},
	}
	for n := range MaxParts + 1 {
		lists = append(lists, make([][]byte, n))
	}
	for i, a := range lists {
		for j, b := range lists {
			x, e := Join(a...)
			y, f := Join(b...)
			if e != api.OK || f != api.OK || bytes.Equal(x, y) != (i == j) {
				t.Errorf("Join of %q and of %q: %v, %d and %v, %d", a, b, x, e, y, f)
			}
		}
	}
}

func TestEveryShortListHasItsOwnEncoding(t *testing.T) {
	var parts [][]byte
	shortStrings(2, []byte{0, 1, 2}, func(b []byte) { parts = append(parts, bytes.Clone(b)) })
	shortStrings(5, []byte{0}, func(b []byte) { parts = append(parts, append(bytes.Clone(b), 0, 0, 0)) })
	seen := map[string][][]byte{}
	note := func(list ...[]byte) {
		b, e := Join(list...)
		if e != api.OK {
			t.Fatalf("Join(%v): %d", list, e)
		}
		if other, ok := seen[string(b)]; ok {
			t.Fatalf("Join of %v and of %v is %v", list, other, b)
		}
		seen[string(b)] = list
	}
	note()
	for _, p := range parts {
		note(p)
		for _, q := range parts {
			note(p, q)
			for _, r := range parts {
				note(p, q, r)
			}
		}
	}
}

func TestEmptyAndNilPartsAreEqual(t *testing.T) {
	a, e := Join(nil, []byte("x"), nil)
	b, f := Join([]byte{}, []byte("x"), []byte{})
	if e != api.OK || f != api.OK || !bytes.Equal(a, b) {
		t.Errorf("Join with nil parts = %v, %d, with empty ones %v, %d", a, e, b, f)
	}
}

func TestNamesAndNumbersHaveTheirOwnEncoding(t *testing.T) {
	// The names hold no byte 0: with one, a name could end in what looks like numbers.
	seen := map[string]int{}
	count := 0
	note := func(b []byte) {
		if other, ok := seen[string(b)]; ok {
			t.Errorf("labels %d and %d are both %v", other, count, b)
		}
		seen[string(b)] = count
		count++
	}
	for _, name := range []string{"", "a", "ab", "b", "packet", "ticket", "device", "\x80", "\x7f\xff"} {
		note(Of(name))
		for _, n := range ends {
			note(Of(name, n))
			for _, m := range ends {
				note(Of(name, n, m))
			}
		}
	}
}

// P1 and P2

// room returns the bytes of b with marked room behind them, which would take what is appended in place.
func room(b []byte) []byte {
	return append(bytes.Clone(b), bytes.Repeat([]byte{0xa5}, 40)...)
}

func TestArgumentsStay(t *testing.T) {
	one, two := room([]byte("one")), room([]byte("twotwo"))
	list := [][]byte{one[:3], two[:0], two[:6], {1}, {2}}
	joined := room(slowJoin([]byte("one"), nil, []byte("twotwo")))
	size := len(joined) - 40
	numbers := []int{1, -2, 3, 4, 5}
	for range 2 {
		Join(list[:3]...)
		Join(append(list[:3:3], make([]byte, MaxPart+1))...)
		Join(slices.Repeat(list[:3], 22)...)
		Split(joined[:size])
		Split(joined[:size-1])
		Split(joined)
		Of("name", numbers[:2]...)
	}
	if !bytes.Equal(one, room([]byte("one"))) || !bytes.Equal(two, room([]byte("twotwo"))) {
		t.Errorf("a part changed: %v, %v", one, two)
	}
	if !equalLists(list, [][]byte{[]byte("one"), nil, []byte("twotwo"), {1}, {2}}) {
		t.Errorf("the list of parts changed: %v", list)
	}
	if !bytes.Equal(joined, room(slowJoin([]byte("one"), nil, []byte("twotwo")))) {
		t.Errorf("the argument of Split changed: %v", joined)
	}
	if !slices.Equal(numbers, []int{1, -2, 3, 4, 5}) {
		t.Errorf("the list of numbers changed: %v", numbers)
	}
}

func TestJoinIsNewMemory(t *testing.T) {
	part := []byte("part")
	b, _ := Join(part, nil, part)
	want := bytes.Clone(b)
	clear(part)
	if !bytes.Equal(b, want) {
		t.Errorf("Join keeps a part")
	}
	part = []byte("part")
	again, _ := Join(part, nil, part)
	clear(b[:cap(b)])
	if string(part) != "part" || !bytes.Equal(again, want) {
		t.Errorf("the result of Join shares memory")
	}
	for _, parts := range [][][]byte{nil, {nil}} {
		b, _ := Join(parts...)
		want := bytes.Clone(b)
		b[0] = 99
		if got, _ := Join(parts...); !bytes.Equal(got, want) {
			t.Errorf("results of Join(%v) share memory", parts)
		}
	}
}

func TestSplitIsNewMemory(t *testing.T) {
	parts := [][]byte{[]byte("one"), nil, []byte("two"), nil, []byte("three")}
	b := slowJoin(parts...)
	l, _ := Split(b)
	other, _ := Split(b)
	clear(b)
	if !equalLists(l, parts) {
		t.Errorf("Split keeps its argument: %q", l)
	}
	b = slowJoin(parts...)
	for i := range l {
		// What is changed within a part, or appended to it, must be nowhere else.
		l[i] = append(l[i], "more than there is room for"...)
		clear(l[i][:cap(l[i])])
		for j := i + 1; j < len(l); j++ {
			if !bytes.Equal(l[j], parts[j]) {
				t.Errorf("part %d shares memory with part %d: %q", i, j, l[j])
			}
		}
	}
	l, _ = Split(b)
	for i := range l {
		clear(l[i][:cap(l[i])])
		for j := i + 1; j < len(l); j++ {
			if !bytes.Equal(l[j], parts[j]) {
				t.Errorf("part %d shares memory with part %d: %q", i, j, l[j])
			}
		}
	}
	if !equalLists(other, parts) || !bytes.Equal(b, slowJoin(parts...)) {
		t.Errorf("the result of Split shares memory: %q, %v", other, b)
	}
}

func TestOfIsNewMemory(t *testing.T) {
	for _, numbers := range [][]int{nil, {5}, {5, -5}} {
		b := Of("name", numbers...)
		clear(b[:cap(b)])
		if got := Of("name", numbers...); !bytes.Equal(got, slowOf("name", numbers...)) {
			t.Errorf("results of Of(name, %d) share memory: %v", numbers, got)
		}
	}
}

func TestFailedCallsHaveNoEffect(t *testing.T) {
	good := slowJoin([]byte("a"), nil)
	for range 3 {
		Join(make([][]byte, 65)...)
		Join([]byte("b"), make([]byte, MaxPart+1))
		Split(nil)
		Split([]byte{65})
		Split(good[:7])
		Split(append(bytes.Clone(good), 1))
		if b, e := Join([]byte("a"), nil); e != api.OK || !bytes.Equal(b, good) {
			t.Errorf("Join after failed calls = %v, %d", b, e)
		}
		if l, e := Split(good); e != api.OK || !equalLists(l, [][]byte{[]byte("a"), nil}) {
			t.Errorf("Split after failed calls = %v, %d", l, e)
		}
	}
}
