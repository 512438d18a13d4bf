package codec

import (
	"bytes"
	"encoding/binary"
	"math"
	"math/rand"
	"slices"
	"testing"

	"baton/api"
)

// numbers are those at which an encoding becomes longer, their neighbours, and the ends.
func numbers() []int {
	l := []int{0, 1, 2, 63, 64, 127, 128, 255, 256, 300, 12345, api.MaxEpoch, api.MaxCount, MaxNumber / 2, MaxNumber - 1, MaxNumber}
	for bits := 7; bits < 56; bits += 7 {
		l = append(l, 1<<bits-1, 1<<bits, 1<<bits+1)
	}
	return l
}

// beyond are numbers that have no encoding.
var beyond = []int{-1, -2, -128, math.MinInt32, -MaxNumber, -MaxNumber - 1, math.MinInt + 1, math.MinInt, MaxNumber + 1, MaxNumber + 2, 1 << 60, 1 << 62, math.MaxInt - 1, math.MaxInt}

// signeds are numbers that may be negative, with the same neighbours and ends.
func signeds() []int {
	l := []int{-1 << 55, 1<<55 - 1, -1<<55 + 1, 1<<55 - 2}
	for bits := range 55 {
		for _, n := range []int{1<<bits - 1, 1 << bits, 1<<bits + 1} {
			l = append(l, n, -n)
		}
	}
	return append(l, 0, -1, 12345, -12345, api.MaxEpoch, -api.MaxEpoch)
}

// beyondSigned are numbers that have no Signed encoding; twice some of them wraps round.
var beyondSigned = []int{-1<<55 - 1, 1 << 55, -1<<55 - 2, 1<<55 + 1, -1 << 56, 1 << 56, math.MinInt, math.MinInt + 1, math.MaxInt, math.MaxInt - 1, 1 << 62, -1 << 62, -1<<63 + 5, -1<<62 - 1}

// slowSigned follows the sentence of P6.1 with Go's own encoding of seven bits a byte.
func slowSigned(n int) []byte {
	if n < 0 {
		return slowNumber(-1 - 2*n)
	}
	return slowNumber(2 * n)
}

func slowNumber(n int) []byte {
	return binary.AppendUvarint(nil, uint64(n))
}

// slowRead follows the sentence of P6.2 by an index that moves over b. It returns the number and how many bytes it has.
func slowRead(b []byte) (int, int, api.Errno) {
	n, unit := 0, 1
	for at := 0; ; at++ {
		if at == len(b) {
			return 0, 0, api.ErrShort
		}
		if b[at] == 0 && at != 0 {
			return 0, 0, api.ErrForm
		}
		if b[at] < 128 {
			return n + unit*int(b[at]), at + 1, api.OK
		}
		if at == 7 {
			return 0, 0, api.ErrLong
		}
		n += unit * (int(b[at]) - 128)
		unit *= 128
	}
}

// message returns n bytes, none of which is 0.
func message(n, seed int) []byte {
	b := make([]byte, n)
	for i := range b {
		b[i] = byte((7*i+31*seed)%255 + 1)
	}
	return b
}

func counted() api.Key {
	return api.Key(message(32, 3))
}

// written returns what f writes to a new Writer.
func written(f func(w *Writer)) ([]byte, api.Errno) {
	w := NewWriter()
	f(w)
	return w.Bytes()
}

// writes checks what f writes to a new Writer, and behind other bytes.
func writes(t *testing.T, name string, f func(w *Writer), want []byte) {
	t.Helper()
	if b, e := written(f); e != api.OK || !bytes.Equal(b, want) {
		t.Errorf("%s writes %v, %d, want %v", name, b, e, want)
	}
	b, e := written(func(w *Writer) { w.Byte(200); f(w); w.Byte(201) })
	if e != api.OK || !bytes.Equal(b, slices.Concat([]byte{200}, want, []byte{201})) {
		t.Errorf("%s between 200 and 201 writes %v, %d, want %v", name, b, e, want)
	}
}

// fails checks that f sets an error of a new Writer, and of one with bytes.
func fails(t *testing.T, name string, f func(w *Writer), want api.Errno) {
	t.Helper()
	if b, e := written(f); e != want || len(b) != 0 {
		t.Errorf("%s writes %v, %d, want the error %d", name, b, e, want)
	}
	b, e := written(func(w *Writer) { w.Byte(200); f(w); w.Byte(201) })
	if e != want || len(b) != 0 {
		t.Errorf("%s between other bytes writes %v, %d, want the error %d", name, b, e, want)
	}
}

// each is every method that writes, with what is valid.
func each() map[string]func(w *Writer) {
	return map[string]func(w *Writer){
		"Byte":       func(w *Writer) { w.Byte(7) },
		"Number":     func(w *Writer) { w.Number(300) },
		"Signed":     func(w *Writer) { w.Signed(-1) },
		"Text":       func(w *Writer) { w.Text([]byte("ab")) },
		"empty Text": func(w *Writer) { w.Text(nil) },
		"Key":        func(w *Writer) { w.Key(counted()) },
		"true":       func(w *Writer) { w.Bool(true) },
		"false":      func(w *Writer) { w.Bool(false) },
	}
}

// P6.1

func TestNewWriter(t *testing.T) {
	for range 3 {
		w := NewWriter()
		for range 2 {
			if b, e := w.Bytes(); len(b) != 0 || e != api.OK {
				t.Errorf("Bytes of a new Writer = %v, %d", b, e)
			}
		}
		w.Byte(1)
	}
}

func TestExamplesOfTheChapter(t *testing.T) {
	writes(t, "Number(300)", func(w *Writer) { w.Number(300) }, []byte{172, 2})
	writes(t, "Signed(-1)", func(w *Writer) { w.Signed(-1) }, []byte{1})
	if n := NewReader([]byte{172, 2}).Number(); n != 300 {
		t.Errorf("Number of 172, 2 = %d", n)
	}
	if n := NewReader([]byte{1}).Signed(); n != -1 {
		t.Errorf("Signed of 1 = %d", n)
	}
}

func TestWriteEachByte(t *testing.T) {
	for b := range 256 {
		writes(t, "Byte", func(w *Writer) { w.Byte(byte(b)) }, []byte{byte(b)})
	}
}

func TestWriteNumberAtTheEnds(t *testing.T) {
	for _, x := range []struct {
		n    int
		want []byte
	}{
		{0, []byte{0}},
		{1, []byte{1}},
		{127, []byte{127}},
		{128, []byte{128, 1}},
		{255, []byte{255, 1}},
		{16383, []byte{255, 127}},
		{16384, []byte{128, 128, 1}},
		{1 << 49, []byte{128, 128, 128, 128, 128, 128, 128, 1}},
		{1<<49 - 1, []byte{255, 255, 255, 255, 255, 255, 127}},
		{MaxNumber, []byte{255, 255, 255, 255, 255, 255, 255, 127}},
	} {
		writes(t, "Number", func(w *Writer) { w.Number(x.n) }, x.want)
	}
	if MaxNumber != 72057594037927935 {
		t.Errorf("MaxNumber = %d", MaxNumber)
	}
}

func TestWriteNumberFollowsTheSentence(t *testing.T) {
	for _, n := range numbers() {
		writes(t, "Number", func(w *Writer) { w.Number(n) }, slowNumber(n))
	}
	for n := range 20000 {
		writes(t, "Number", func(w *Writer) { w.Number(n) }, slowNumber(n))
	}
}

func TestWriteNumberBeyondTheEnds(t *testing.T) {
	for _, n := range beyond {
		fails(t, "Number", func(w *Writer) { w.Number(n) }, api.ErrArg)
	}
}

func TestWriteSignedAtTheEnds(t *testing.T) {
	for _, x := range []struct {
		n    int
		want []byte
	}{
		{0, []byte{0}},
		{-1, []byte{1}},
		{1, []byte{2}},
		{-2, []byte{3}},
		{63, []byte{126}},
		{-64, []byte{127}},
		{64, []byte{128, 1}},
		{-65, []byte{129, 1}},
		{-1 << 55, []byte{255, 255, 255, 255, 255, 255, 255, 127}},
		{1<<55 - 1, []byte{254, 255, 255, 255, 255, 255, 255, 127}},
	} {
		writes(t, "Signed", func(w *Writer) { w.Signed(x.n) }, x.want)
	}
}

func TestWriteSignedFollowsTheSentence(t *testing.T) {
	for _, n := range signeds() {
		writes(t, "Signed", func(w *Writer) { w.Signed(n) }, slowSigned(n))
	}
	for n := range 20000 {
		writes(t, "Signed", func(w *Writer) { w.Signed(n - 10000) }, slowSigned(n-10000))
	}
}

func TestWriteSignedBeyondTheEnds(t *testing.T) {
	for _, n := range beyondSigned {
		fails(t, "Signed", func(w *Writer) { w.Signed(n) }, api.ErrArg)
	}
}

func TestWriteText(t *testing.T) {
	writes(t, "Text of nil", func(w *Writer) { w.Text(nil) }, []byte{0})
	writes(t, "Text of no bytes", func(w *Writer) { w.Text([]byte{}) }, []byte{0})
	writes(t, "Text of a byte", func(w *Writer) { w.Text([]byte{0}) }, []byte{1, 0})
	writes(t, "Text of ab", func(w *Writer) { w.Text([]byte("ab")) }, []byte{2, 'a', 'b'})
	for _, n := range []int{1, 2, 100, 127, 128, 129, 300, 16383, 16384, 1 << 17} {
		b := message(n, n)
		writes(t, "Text", func(w *Writer) { w.Text(b) }, slices.Concat(slowNumber(n), b))
	}
}

func TestWriteKey(t *testing.T) {
	zeros, k := api.Key{}, counted()
	writes(t, "Key of zeros", func(w *Writer) { w.Key(zeros) }, make([]byte, 32))
	writes(t, "Key", func(w *Writer) { w.Key(k) }, message(32, 3))
	writes(t, "Key of one byte", func(w *Writer) { w.Key(api.Key{31: 9}) }, append(make([]byte, 31), 9))
}

func TestWriteBool(t *testing.T) {
	writes(t, "Bool(true)", func(w *Writer) { w.Bool(true) }, []byte{1})
	writes(t, "Bool(false)", func(w *Writer) { w.Bool(false) }, []byte{0})
}

func TestWritesAreOneBehindTheOther(t *testing.T) {
	k := counted()
	b, e := written(func(w *Writer) {
		w.Bool(false)
		w.Text([]byte("xyz"))
		w.Number(300)
		w.Key(k)
		w.Signed(-65)
		w.Byte(0)
		w.Bool(true)
	})
	want := slices.Concat([]byte{0, 3, 'x', 'y', 'z', 172, 2}, k[:], []byte{129, 1, 0, 1})
	if e != api.OK || !bytes.Equal(b, want) {
		t.Errorf("Bytes = %v, %d, want %v", b, e, want)
	}
}

func TestFailOfAWriter(t *testing.T) {
	for _, e := range []api.Errno{api.ErrArg, api.ErrForm, api.ErrLine, 1000, -1, math.MinInt} {
		fails(t, "Fail", func(w *Writer) { w.Fail(e) }, e)
	}
}

func TestFailOfAWriterWithAnError(t *testing.T) {
	for _, first := range []api.Errno{api.ErrArg, api.ErrForm, -1} {
		for _, second := range []api.Errno{api.OK, api.ErrArg, api.ErrShort, api.ErrLine, -7} {
			fails(t, "Fail twice", func(w *Writer) { w.Fail(first); w.Fail(second) }, first)
		}
	}
	fails(t, "Number(-1) and Fail", func(w *Writer) { w.Number(-1); w.Fail(api.ErrForm) }, api.ErrArg)
	fails(t, "Signed(least) and Fail", func(w *Writer) { w.Signed(math.MinInt); w.Fail(api.ErrForm) }, api.ErrArg)
	fails(t, "Fail and Number(-1)", func(w *Writer) { w.Fail(api.ErrForm); w.Number(-1) }, api.ErrForm)
	fails(t, "Fail and Signed(greatest)", func(w *Writer) { w.Fail(api.ErrForm); w.Signed(math.MaxInt) }, api.ErrForm)
}

func TestFailWithOKOfAWriter(t *testing.T) {
	writes(t, "Fail(OK)", func(w *Writer) { w.Fail(api.OK) }, nil)
	writes(t, "Fail(OK) between bytes", func(w *Writer) { w.Byte(1); w.Fail(api.OK); w.Byte(2) }, []byte{1, 2})
	fails(t, "Fail(OK) and another", func(w *Writer) { w.Fail(api.OK); w.Fail(api.ErrTag) }, api.ErrTag)
}

func TestNothingIsWrittenBehindAnError(t *testing.T) {
	for name, f := range each() {
		for _, e := range []api.Errno{api.ErrArg, api.ErrSize, 99} {
			w := NewWriter()
			w.Byte(1)
			w.Fail(e)
			for range 3 {
				f(w)
				if b, got := w.Bytes(); len(b) != 0 || got != e {
					t.Errorf("%s behind the error %d: %v, %d", name, e, b, got)
				}
			}
		}
		fails(t, name+" behind Number(-1)", func(w *Writer) { w.Number(-1); f(w) }, api.ErrArg)
		fails(t, name+" ahead of Number(-1)", func(w *Writer) { f(w); w.Number(-1) }, api.ErrArg)
	}
}

func TestBytesChangesNothing(t *testing.T) {
	w := NewWriter()
	want := []byte{}
	for n := range 300 {
		w.Number(n)
		want = append(want, slowNumber(n)...)
		for range 2 {
			if b, e := w.Bytes(); e != api.OK || !bytes.Equal(b, want) {
				t.Fatalf("Bytes after %d = %v, %d", n, b, e)
			}
		}
	}
}

// P6.2

// reading is a method of a Reader, and whether it returned its zero value.
type reading struct {
	name string
	call func(r *Reader) bool
}

func readings() []reading {
	return []reading{
		{"Byte", func(r *Reader) bool { return r.Byte() == 0 }},
		{"Number", func(r *Reader) bool { return r.Number() == 0 }},
		{"Signed", func(r *Reader) bool { return r.Signed() == 0 }},
		{"Text(9)", func(r *Reader) bool { return len(r.Text(9)) == 0 }},
		{"Text(0)", func(r *Reader) bool { return len(r.Text(0)) == 0 }},
		{"Text(-1)", func(r *Reader) bool { return len(r.Text(-1)) == 0 }},
		{"Key", func(r *Reader) bool { return r.Key() == api.Key{} }},
		{"Bool", func(r *Reader) bool { return !r.Bool() }},
	}
}

// failed checks that r has that error, and that it keeps it whatever is called.
func failed(t *testing.T, name string, r *Reader, want api.Errno) {
	t.Helper()
	check := func(after string) {
		t.Helper()
		if r.Err() != want || r.Left() != 0 || r.Done() != want {
			t.Errorf("%s, after %s: Err %d, Left %d, Done %d, want the error %d", name, after, r.Err(), r.Left(), r.Done(), want)
		}
	}
	check("the call")
	for _, m := range readings() {
		if !m.call(r) {
			t.Errorf("%s: %s behind the error is not zero", name, m.name)
		}
		check(m.name)
	}
	for _, e := range []api.Errno{api.OK, api.ErrLine, -1} {
		r.Fail(e)
		check("Fail")
	}
}

// stands checks that r has no error, and so many bytes left.
func stands(t *testing.T, name string, r *Reader, left int) {
	t.Helper()
	want := api.OK
	if left > 0 {
		want = api.ErrLong
	}
	for range 2 {
		if r.Err() != api.OK || r.Left() != left || r.Done() != want {
			t.Errorf("%s: Err %d, Left %d, Done %d, want %d left", name, r.Err(), r.Left(), r.Done(), left)
		}
	}
}

func TestReaderOfNoBytes(t *testing.T) {
	for _, b := range [][]byte{nil, {}, make([]byte, 0, 64)} {
		stands(t, "a new Reader", NewReader(b), 0)
		for _, m := range readings() {
			r := NewReader(b)
			if !m.call(r) {
				t.Errorf("%s of no bytes is not zero", m.name)
			}
			failed(t, m.name, r, api.ErrShort)
		}
	}
}

func TestReadBytes(t *testing.T) {
	all := make([]byte, 256)
	for i := range all {
		all[i] = byte(i)
	}
	r := NewReader(all)
	for i := range all {
		stands(t, "ahead of a byte", r, 256-i)
		if b := r.Byte(); b != byte(i) {
			t.Errorf("Byte %d = %d", i, b)
		}
	}
	stands(t, "at the end", r, 0)
	if b := r.Byte(); b != 0 {
		t.Errorf("Byte behind the end = %d", b)
	}
	failed(t, "Byte behind the end", r, api.ErrShort)
}

// readsNumber checks Number and Signed of b, where the number has size bytes.
func readsNumber(t *testing.T, b []byte, want, size int) {
	t.Helper()
	r := NewReader(b)
	if n := r.Number(); n != want {
		t.Errorf("Number of %v = %d, want %d", b, n, want)
	}
	stands(t, "Number", r, len(b)-size)
	signed := want / 2
	if want%2 == 1 {
		signed = -signed - 1
	}
	r = NewReader(b)
	if n := r.Signed(); n != signed {
		t.Errorf("Signed of %v = %d, want %d", b, n, signed)
	}
	stands(t, "Signed", r, len(b)-size)
}

// readsNoNumber checks that Number, Signed and the length of a Text fail alike.
func readsNoNumber(t *testing.T, b []byte, want api.Errno) {
	t.Helper()
	r := NewReader(b)
	if n := r.Number(); n != 0 {
		t.Errorf("Number of %v = %d", b, n)
	}
	failed(t, "Number", r, want)
	r = NewReader(b)
	if n := r.Signed(); n != 0 {
		t.Errorf("Signed of %v = %d", b, n)
	}
	failed(t, "Signed", r, want)
	for _, most := range []int{MaxNumber, 0, -1, math.MaxInt, math.MinInt} {
		r = NewReader(b)
		if l := r.Text(most); len(l) != 0 {
			t.Errorf("Text(%d) of %v = %v", most, b, l)
		}
		failed(t, "Text", r, want)
	}
}

func TestReadNumbers(t *testing.T) {
	l := numbers()
	for n := range 20000 {
		l = append(l, n)
	}
	for _, n := range l {
		b := slowNumber(n)
		readsNumber(t, b, n, len(b))
	}
}

func TestReadSignedAtTheEnds(t *testing.T) {
	for _, n := range signeds() {
		r := NewReader(slowSigned(n))
		if got := r.Signed(); got != n {
			t.Errorf("Signed of %d = %d", n, got)
		}
		stands(t, "Signed", r, 0)
	}
}

func TestNumbersThatAreCutOff(t *testing.T) {
	for _, n := range append(numbers(), 0x55aa55aa55aa55) {
		b := slowNumber(n)
		for size := range b {
			readsNoNumber(t, b[:size], api.ErrShort)
		}
	}
	for size := range 8 {
		readsNoNumber(t, bytes.Repeat([]byte{128}, size), api.ErrShort)
		readsNoNumber(t, bytes.Repeat([]byte{255}, size), api.ErrShort)
	}
}

func TestNumbersWithALaterByteZero(t *testing.T) {
	for at := 1; at < 8; at++ {
		for _, first := range []byte{128, 129, 255} {
			b := append(bytes.Repeat([]byte{first}, at), 0)
			readsNoNumber(t, b, api.ErrForm)
			readsNoNumber(t, append(b, 0), api.ErrForm)
			readsNoNumber(t, append(b, 1, 2, 3), api.ErrForm)
			readsNoNumber(t, append(b, 128, 128, 128, 128, 128, 128, 128, 128), api.ErrForm)
		}
	}
	// A first byte 0 is a number, whatever follows.
	readsNumber(t, []byte{0}, 0, 1)
	readsNumber(t, []byte{0, 0}, 0, 1)
	readsNumber(t, []byte{0, 128}, 0, 1)
}

func TestNumbersWithEightBytes(t *testing.T) {
	for _, first := range []byte{128, 129, 170, 255} {
		start := bytes.Repeat([]byte{first}, 7)
		low, _ := binary.Uvarint(append(slices.Clone(start), 0))
		for last := range 256 {
			b := append(slices.Clone(start), byte(last))
			for _, behind := range [][]byte{nil, {0}, {1}, {128}, {255, 255, 255}} {
				all := slices.Concat(b, behind)
				switch {
				case last == 0:
					readsNoNumber(t, all, api.ErrForm)
				case last < 128:
					readsNumber(t, all, int(low)+last<<49, 8)
				default:
					readsNoNumber(t, all, api.ErrLong)
				}
			}
		}
	}
}

func TestReadNumberFollowsTheSentence(t *testing.T) {
	check := func(b []byte) {
		if want, size, e := slowRead(b); e != api.OK {
			readsNoNumber(t, b, e)
		} else {
			readsNumber(t, b, want, size)
		}
	}
	for i := range 256 {
		check([]byte{byte(i)})
		for j := range 256 {
			check([]byte{byte(i), byte(j)})
		}
	}
	// Longer ones are drawn from the bytes at which the sentence changes, most of them such as another one follows.
	source := rand.New(rand.NewSource(6))
	kinds := []byte{0, 1, 127, 128, 129, 255}
	for range 20000 {
		b := make([]byte, source.Intn(12))
		for i := range b {
			b[i] = kinds[source.Intn(len(kinds))]
			if i < 7 && source.Intn(4) > 0 {
				b[i] |= 128
			}
		}
		check(b)
	}
}

func TestReadText(t *testing.T) {
	for _, n := range []int{0, 1, 2, 100, 127, 128, 129, 16383, 16384, 1 << 17} {
		text := message(n, n)
		b := slices.Concat(slowNumber(n), text, []byte{7, 8})
		for _, most := range []int{n, n + 1, MaxNumber, math.MaxInt} {
			r := NewReader(b)
			if got := r.Text(most); !bytes.Equal(got, text) {
				t.Errorf("Text(%d) of %d bytes = %v", most, n, got)
			}
			stands(t, "Text", r, 2)
			if r.Byte() != 7 || r.Byte() != 8 || r.Done() != api.OK {
				t.Errorf("behind a Text of %d bytes: %d", n, r.Done())
			}
		}
	}
}

func TestReadTextAboveMost(t *testing.T) {
	for _, n := range []int{0, 1, 2, 127, 128, 300} {
		b := slices.Concat(slowNumber(n), message(n, 1))
		for _, most := range []int{n - 1, n - 2, 0, -1, math.MinInt} {
			if most >= n {
				continue
			}
			r := NewReader(b)
			if got := r.Text(most); len(got) != 0 {
				t.Errorf("Text(%d) of %d bytes = %v", most, n, got)
			}
			failed(t, "Text above most", r, api.ErrSize)
		}
	}
}

func TestReadTextAtMostZero(t *testing.T) {
	for _, b := range [][]byte{{0}, {0, 5}} {
		r := NewReader(b)
		if got := r.Text(0); len(got) != 0 {
			t.Errorf("Text(0) of %v = %v", b, got)
		}
		stands(t, "Text(0)", r, len(b)-1)
	}
}

func TestReadTextWithTooFewBytes(t *testing.T) {
	for _, n := range []int{1, 2, 127, 128, 1 << 31, 1 << 32, 1 << 40, MaxNumber - 1, MaxNumber} {
		for _, have := range []int{0, 1, 5, 126, 127} {
			b := slices.Concat(slowNumber(n), message(have, 1))
			if have >= n {
				continue
			}
			for _, most := range []int{n, n + 1, math.MaxInt} {
				r := NewReader(b)
				if got := r.Text(most); len(got) != 0 {
					t.Errorf("Text(%d) of %d bytes of %d = %v", most, have, n, got)
				}
				failed(t, "Text cut off", r, api.ErrShort)
			}
			// Above most and too few: what the chapter mentions first.
			r := NewReader(b)
			r.Text(n - 1)
			failed(t, "Text above most and cut off", r, api.ErrSize)
		}
	}
}

func TestReadKey(t *testing.T) {
	b := message(40, 3)
	for size := range b {
		r := NewReader(b[:size])
		k := r.Key()
		if size < 32 {
			if k != (api.Key{}) {
				t.Errorf("Key of %d bytes = %v", size, k)
			}
			failed(t, "Key", r, api.ErrShort)
			continue
		}
		if k != api.Key(b[:32]) {
			t.Errorf("Key of %d bytes = %v", size, k)
		}
		stands(t, "Key", r, size-32)
	}
	r := NewReader(b)
	r.Byte()
	if k := r.Key(); k != api.Key(b[1:33]) || r.Byte() != b[33] {
		t.Errorf("Key behind a byte = %v", k)
	}
	if k := r.Key(); k != (api.Key{}) {
		t.Errorf("Key of the last 6 bytes = %v", k)
	}
	failed(t, "Key of the last bytes", r, api.ErrShort)
}

func TestReadBool(t *testing.T) {
	for b := range 256 {
		r := NewReader([]byte{byte(b), 1})
		if is := r.Bool(); is != (b == 1) {
			t.Errorf("Bool of %d = %t", b, is)
		}
		if b > 1 {
			failed(t, "Bool", r, api.ErrForm)
			continue
		}
		stands(t, "Bool", r, 1)
		if !r.Bool() {
			t.Errorf("Bool behind %d is false", b)
		}
		stands(t, "Bool", r, 0)
	}
}

func TestFailOfAReader(t *testing.T) {
	for _, e := range []api.Errno{api.ErrArg, api.ErrShort, api.ErrForm, api.ErrLine, 1000, -1, math.MinInt} {
		for _, b := range [][]byte{nil, {1}, bytes.Repeat([]byte{1}, 100)} {
			r := NewReader(b)
			r.Fail(e)
			failed(t, "Fail of a new Reader", r, e)
			r = NewReader(append([]byte{1}, b...))
			r.Byte()
			r.Fail(e)
			failed(t, "Fail behind a byte", r, e)
		}
	}
}

func TestFailWithOKOfAReader(t *testing.T) {
	r := NewReader([]byte{5, 6})
	r.Fail(api.OK)
	stands(t, "Fail(OK)", r, 2)
	if r.Byte() != 5 {
		t.Error("Byte behind Fail(OK) is not the first")
	}
	r.Fail(api.OK)
	stands(t, "Fail(OK)", r, 1)
	r.Fail(api.ErrTag)
	failed(t, "Fail(OK) and another", r, api.ErrTag)
}

func TestEveryMethodBehindAnError(t *testing.T) {
	// Behind the error stand bytes of which every method would read something else than zero.
	rest := bytes.Repeat([]byte{1}, 100)
	for _, x := range []struct {
		name string
		b    []byte
		call func(r *Reader)
		want api.Errno
	}{
		{"Number", []byte{128, 0}, func(r *Reader) { r.Number() }, api.ErrForm},
		{"Number", bytes.Repeat([]byte{128}, 8), func(r *Reader) { r.Number() }, api.ErrLong},
		{"Signed", []byte{129, 0}, func(r *Reader) { r.Signed() }, api.ErrForm},
		{"Signed", bytes.Repeat([]byte{255}, 8), func(r *Reader) { r.Signed() }, api.ErrLong},
		{"Text", []byte{3}, func(r *Reader) { r.Text(2) }, api.ErrSize},
		{"Text", []byte{101}, func(r *Reader) { r.Text(101) }, api.ErrShort},
		{"Text", []byte{128, 0}, func(r *Reader) { r.Text(100) }, api.ErrForm},
		{"Bool", []byte{2}, func(r *Reader) { r.Bool() }, api.ErrForm},
		{"Fail", nil, func(r *Reader) { r.Fail(api.ErrSeq) }, api.ErrSeq},
	} {
		r := NewReader(slices.Concat(x.b, rest))
		x.call(r)
		failed(t, x.name, r, x.want)
		for _, m := range readings() {
			r := NewReader(slices.Concat(x.b, rest))
			x.call(r)
			if !m.call(r) || r.Err() != x.want {
				t.Errorf("%s behind a failed %s: not zero, or the error is %d", m.name, x.name, r.Err())
			}
		}
	}
	for _, m := range readings() {
		if r := NewReader(rest); m.name != "Text(0)" && m.name != "Text(-1)" && m.call(r) {
			t.Errorf("%s of bytes 1 is zero", m.name)
		}
	}
}

func TestDoneSetsNoError(t *testing.T) {
	r := NewReader([]byte{1, 2, 3})
	for want := 3; want > 0; want-- {
		stands(t, "Done", r, want)
		if r.Byte() != byte(4-want) {
			t.Errorf("Byte behind Done with %d left", want)
		}
	}
	stands(t, "Done", r, 0)
}

// P6.3

// item is one value, how it is written, and whether it is read back.
type item struct {
	write func(w *Writer)
	back  func(r *Reader) bool
}

func numberItem(n int) item {
	return item{func(w *Writer) { w.Number(n) }, func(r *Reader) bool { return r.Number() == n }}
}

func signedItem(n int) item {
	return item{func(w *Writer) { w.Signed(n) }, func(r *Reader) bool { return r.Signed() == n }}
}

func textItem(b []byte) item {
	return item{func(w *Writer) { w.Text(b) }, func(r *Reader) bool { return bytes.Equal(r.Text(len(b)), b) }}
}

func keyItem(k api.Key) item {
	return item{func(w *Writer) { w.Key(k) }, func(r *Reader) bool { return r.Key() == k }}
}

func boolItem(is bool) item {
	return item{func(w *Writer) { w.Bool(is) }, func(r *Reader) bool { return r.Bool() == is }}
}

func byteItem(b byte) item {
	return item{func(w *Writer) { w.Byte(b) }, func(r *Reader) bool { return r.Byte() == b }}
}

func items() []item {
	l := []item{boolItem(true), boolItem(false), keyItem(api.Key{}), keyItem(counted())}
	for _, n := range numbers() {
		l = append(l, numberItem(n))
	}
	for _, n := range signeds() {
		l = append(l, signedItem(n))
	}
	for _, n := range []int{0, 1, 2, 127, 128, 300} {
		l = append(l, textItem(message(n, 1)), textItem(make([]byte, n)))
	}
	for b := range 256 {
		l = append(l, byteItem(byte(b)))
	}
	return l
}

func TestWhatIsWrittenIsReadBack(t *testing.T) {
	for i, x := range items() {
		b, e := written(x.write)
		if e != api.OK {
			t.Fatalf("item %d: the error %d", i, e)
		}
		for _, behind := range [][]byte{nil, {0}, {1}, {127}, {128}, {255}, {0, 0}, {128, 0}, bytes.Repeat([]byte{255}, 40), make([]byte, 40), b} {
			r := NewReader(slices.Concat(b, behind))
			if !x.back(r) {
				t.Errorf("item %d: %v and behind it %v are not read back, error %d", i, b, behind, r.Err())
			}
			stands(t, "behind the item", r, len(behind))
		}
	}
}

func TestWhatIsWrittenInARowIsReadBack(t *testing.T) {
	source := rand.New(rand.NewSource(63))
	all := items()
	for range 500 {
		var row []item
		for range source.Intn(40) {
			row = append(row, all[source.Intn(len(all))])
		}
		b, e := written(func(w *Writer) {
			for _, x := range row {
				x.write(w)
			}
		})
		if e != api.OK {
			t.Fatalf("Bytes: the error %d", e)
		}
		behind := message(source.Intn(5), 9)
		r := NewReader(slices.Concat(b, behind))
		for i, x := range row {
			if !x.back(r) {
				t.Fatalf("item %d of %d is not read back, error %d", i, len(row), r.Err())
			}
		}
		stands(t, "behind the items", r, len(behind))
	}
}

func TestEveryNumberHasOneEncoding(t *testing.T) {
	// Whatever is read as a number is just what is written for it.
	check := func(b []byte) {
		r := NewReader(b)
		n := r.Number()
		if r.Err() != api.OK {
			return
		}
		size := len(b) - r.Left()
		if again, e := written(func(w *Writer) { w.Number(n) }); e != api.OK || !bytes.Equal(again, b[:size]) {
			t.Errorf("%v is read as %d, which is written as %v, %d", b, n, again, e)
		}
		r = NewReader(b)
		m := r.Signed()
		if again, e := written(func(w *Writer) { w.Signed(m) }); e != api.OK || !bytes.Equal(again, b[:size]) {
			t.Errorf("%v is read as Signed %d, which is written as %v, %d", b, m, again, e)
		}
	}
	for i := range 256 {
		for j := range 256 {
			check([]byte{byte(i), byte(j)})
			check([]byte{byte(i | 128), byte(j | 128), byte(i), byte(j)})
		}
	}
	source := rand.New(rand.NewSource(631))
	for range 100000 {
		b := make([]byte, 1+source.Intn(9))
		source.Read(b)
		for i := range b[:len(b)-1] {
			b[i] |= byte(source.Intn(2)) << 7
		}
		check(b)
	}
}

func TestFillingUpANumberIsNotRead(t *testing.T) {
	for _, n := range numbers() {
		b := slowNumber(n)
		for len(b) < 10 {
			b[len(b)-1] |= 128
			b = append(b, 0)
			r := NewReader(b)
			if got := r.Number(); got != 0 || r.Err() == api.OK {
				t.Errorf("%v is read as %d", b, got)
			}
		}
	}
}

// P1 and P2

func TestBytesOfAWriterAreNew(t *testing.T) {
	w := NewWriter()
	w.Text([]byte("abc"))
	first, _ := w.Bytes()
	second, _ := w.Bytes()
	clear(first[:cap(first)])
	if string(second) != "\x03abc" {
		t.Errorf("two results share memory: %v", second)
	}
	third, _ := w.Bytes()
	if string(third) != "\x03abc" {
		t.Errorf("a result shares memory with the Writer: %v", third)
	}
	w.Byte('d')
	_ = append(third, 'x', 'y')
	if b, _ := w.Bytes(); string(b) != "\x03abcd" {
		t.Errorf("spare capacity is shared with the Writer: %v", b)
	}
	kept, _ := w.Bytes()
	w.Text(message(100, 1))
	if string(kept) != "\x03abcd" {
		t.Errorf("a later write changed an earlier result: %v", kept)
	}
}

func TestTextIsNotKeptByAWriter(t *testing.T) {
	for _, n := range []int{1, 5, 200} {
		backing := message(n+10, 1)
		before := slices.Clone(backing)
		w := NewWriter()
		w.Text(backing[:n])
		w.Text(backing[:n])
		w.Byte(1)
		if !bytes.Equal(backing, before) {
			t.Errorf("the argument or what is behind it changed: %v", backing)
		}
		clear(backing)
		want := slices.Concat(slowNumber(n), before[:n], slowNumber(n), before[:n], []byte{1})
		if b, e := w.Bytes(); e != api.OK || !bytes.Equal(b, want) {
			t.Errorf("Bytes after a change of the argument = %v, %d", b, e)
		}
	}
}

func TestBytesAreNotKeptByAReader(t *testing.T) {
	backing := append([]byte{1, 3, 'a', 'b', 'c', 7}, message(10, 1)...)
	before := slices.Clone(backing)
	r := NewReader(backing[:6])
	r.Byte()
	clear(backing)
	if got := r.Text(3); string(got) != "abc" || r.Byte() != 7 || r.Done() != api.OK {
		t.Errorf("after a change of the argument: %q, %d", got, r.Done())
	}
	copy(backing, before)
	r = NewReader(backing[:6])
	r.Byte()
	text := r.Text(3)
	clear(text)
	_ = append(text, 9, 9, 9)
	r.Byte()
	r.Byte()
	if !bytes.Equal(backing, before) {
		t.Errorf("the argument or what is behind it changed: %v", backing)
	}
}

func TestTextOfAReaderIsNew(t *testing.T) {
	b := []byte{3, 'a', 'b', 'c', 3, 'd', 'e', 'f', 5}
	r := NewReader(b)
	first := r.Text(3)
	clear(first)
	_ = append(first, 9, 9, 9, 9, 9)
	second := r.Text(3)
	if string(second) != "def" {
		t.Errorf("a change of a text changed the next one: %q", second)
	}
	clear(second)
	_ = append(second, 9)
	if got := r.Byte(); got != 5 {
		t.Errorf("a change of a text changed what is behind it: %d", got)
	}
	if r := NewReader(b); string(r.Text(3)) != "abc" || string(r.Text(3)) != "def" || r.Byte() != 5 {
		t.Errorf("a change of a text changed the bytes: %v", b)
	}
}

func TestKeysAreNotShared(t *testing.T) {
	k := counted()
	w := NewWriter()
	w.Key(k)
	clear(k[:])
	b, _ := w.Bytes()
	if !bytes.Equal(b, message(32, 3)) {
		t.Errorf("a change of the key changed what was written: %v", b)
	}
	r := NewReader(slices.Concat(b, b))
	first := r.Key()
	clear(first[:])
	if r.Key() != counted() {
		t.Error("a change of a key changed the next one")
	}
}

func TestObjectsDoNotShare(t *testing.T) {
	v, w := NewWriter(), NewWriter()
	v.Byte(1)
	w.Byte(2)
	v.Fail(api.ErrArg)
	w.Byte(3)
	if b, e := w.Bytes(); e != api.OK || !bytes.Equal(b, []byte{2, 3}) {
		t.Errorf("Bytes of the second Writer = %v, %d", b, e)
	}
	b := []byte{4, 5}
	q, r := NewReader(b), NewReader(b)
	q.Byte()
	q.Fail(api.ErrArg)
	stands(t, "the second Reader", r, 2)
	if r.Byte() != 4 || r.Byte() != 5 {
		t.Error("the second Reader reads something else")
	}
}

func TestAnyBytesAreRead(t *testing.T) {
	// No call panics, and none goes back or past the end.
	source := rand.New(rand.NewSource(1))
	methods := readings()
	for range 20000 {
		b := make([]byte, source.Intn(60))
		source.Read(b)
		r := NewReader(b)
		left := len(b)
		for range 20 {
			m := methods[source.Intn(len(methods))]
			m.call(r)
			now := r.Left()
			if now < 0 || now > left || (r.Err() == api.OK && now == left) {
				t.Fatalf("%s of %v: %d left, then %d, error %d", m.name, b, left, now, r.Err())
			}
			left = now
		}
	}
}
