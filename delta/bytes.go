package delta

import (
	"baton/api"
	"baton/cell"
	"baton/codec"
)

// mostSpans is how many spans a valid delta has at most: each one but the last of a row has a position behind it that is in no span.
const mostSpans = api.MaxRows * ((api.MaxCols + 1) / 2)

// Bytes returns the bytes of d. ErrForm: d is not valid.
func Bytes(d Delta) ([]byte, api.Errno) {
	if !Right(d) {
		return nil, api.ErrForm
	}
	w := codec.NewWriter()
	w.Number(d.Rows)
	w.Number(d.Cols)
	w.Number(len(d.Spans))
	for _, s := range d.Spans {
		w.Number(s.Row)
		w.Number(s.Col)
		w.Number(len(s.Cells))
		cell.Write(w, s.Cells)
	}
	w.Number(d.Row)
	w.Number(d.Col)
	w.Bool(d.Hidden)
	w.Text([]byte(d.Title))
	w.Number(d.Bells)
	return w.Bytes()
}

// Read returns the delta whose bytes are b. ErrLong: bytes remain; ErrForm: a span has no or too many cells, or the delta is not valid. Its other errors are those of the Reader.
func Read(b []byte) (Delta, api.Errno) {
	r := codec.NewReader(b)
	var d Delta
	d.Rows = r.Number()
	d.Cols = r.Number()
	d.Spans = readSpans(r, r.Number())
	d.Row = r.Number()
	d.Col = r.Number()
	d.Hidden = r.Bool()
	d.Title = string(r.Text(api.MaxTitle))
	d.Bells = r.Number()
	if e := r.Done(); e != api.OK {
		return Delta{}, e
	}
	if !Right(d) {
		return Delta{}, api.ErrForm
	}
	return d, api.OK
}

// readSpans reads n spans. It returns them all if a valid delta may have as many, and more than that otherwise.
func readSpans(r *codec.Reader, n int) []Span {
	var out []Span
	for range n {
		s := readSpan(r)
		if r.Err() != api.OK {
			return nil
		}
		// What is behind these is only read for its errors: a few bytes make many cells, and millions of them more than there is memory for.
		if len(out) <= mostSpans {
			out = append(out, s)
		}
	}
	return out
}

// readSpan reads a span of 1 to MaxCols cells.
func readSpan(r *codec.Reader) Span {
	s := Span{Row: r.Number(), Col: r.Number()}
	n := r.Number()
	if n == 0 || n > api.MaxCols {
		r.Fail(api.ErrForm)
	}
	s.Cells = cell.Read(r, n)
	return s
}
