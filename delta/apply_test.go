package delta

import (
	"math/rand"
	"testing"

	"baton/api"
)

// apply returns what Apply returns for an image and a delta that are valid, and checks it.
func apply(t *testing.T, a api.Image, d Delta) api.Image {
	t.Helper()
	g, e := Apply(a, d)
	if want := slowApply(a, d); e != api.OK || !alike(g, want) {
		t.Fatalf("Apply(%v, %v) is %v, %d, not %v", a, d, g, e, want)
	}
	return g
}

// P18.2

func TestApplyToImagesThatAreNotValid(t *testing.T) {
	l := wrongs()
	for i, a := range invalidImages() {
		for _, d := range []Delta{sample(), {Rows: 3, Cols: 4}, {}, l[i%len(l)].delta} {
			if g, e := Apply(a, d); e != api.ErrArg || !alike(g, api.Image{}) {
				t.Errorf("Apply(%v, %v) is %v, %d", a, d, g, e)
			}
		}
	}
	for _, x := range l {
		if g, e := Apply(api.Image{}, x.delta); e != api.ErrArg || !alike(g, api.Image{}) {
			t.Errorf("%s: %v, %d", x.what, g, e)
		}
	}
}

func TestApplyOfDeltasThatAreNotValid(t *testing.T) {
	for _, a := range []api.Image{lettersOf(3, 6), blankOf(1, 1)} {
		for _, x := range wrongs() {
			if g, e := Apply(a, x.delta); e != api.ErrForm || !alike(g, api.Image{}) {
				t.Errorf("%s: Apply is %v, %d", x.what, g, e)
			}
		}
	}
}

func TestApplyByHand(t *testing.T) {
	a := letters("abcd", "efgh")
	a.Row, a.Title, a.Bells = 1, "before", 9
	x, y := []api.Cell{{Rune: 'X'}}, []api.Cell{{Rune: 'Y'}, {Rune: ' '}}
	for _, z := range []struct {
		d    Delta
		want []string
	}{
		{Delta{Rows: 2, Cols: 4}, []string{"abcd", "efgh"}},
		{Delta{Rows: 2, Cols: 4, Spans: []Span{{0, 0, x}}}, []string{"Xbcd", "efgh"}},
		{Delta{Rows: 2, Cols: 4, Spans: []Span{{0, 3, x}, {1, 0, y}}}, []string{"abcX", "Y gh"}},
		{Delta{Rows: 2, Cols: 4, Spans: []Span{{1, 0, x}, {1, 2, y}}}, []string{"abcd", "XfY "}},
		{Delta{Rows: 2, Cols: 4, Spans: []Span{{0, 0, x}, {0, 2, x}, {1, 3, x}}}, []string{"XbXd", "efgX"}},
		{Delta{Rows: 2, Cols: 3}, []string{"   ", "   "}},
		{Delta{Rows: 2, Cols: 5}, []string{"     ", "     "}},
		{Delta{Rows: 1, Cols: 4}, []string{"    "}},
		{Delta{Rows: 3, Cols: 4}, []string{"    ", "    ", "    "}},
		{Delta{Rows: 4, Cols: 2}, []string{"  ", "  ", "  ", "  "}},
		{Delta{Rows: 1, Cols: 8, Spans: []Span{{0, 6, y}}}, []string{"      Y "}},
		{Delta{Rows: 3, Cols: 1, Spans: []Span{{0, 0, x}, {2, 0, x}}}, []string{"X", " ", "X"}},
	} {
		if g := apply(t, a, z.d); !alike(g, letters(z.want...)) {
			t.Errorf("Apply of %v is %v, not %q", z.d, g, z.want)
		}
	}
}

func TestApplyTakesAllElseFromTheDelta(t *testing.T) {
	a := lettersOf(3, 6)
	for _, d := range rights() {
		g := apply(t, a, d)
		if g.Row != d.Row || g.Col != d.Col || g.Hidden != d.Hidden || g.Title != d.Title || g.Bells != d.Bells || g.Grid.Rows != d.Rows || g.Grid.Cols != d.Cols {
			t.Errorf("Apply of %v is %v", d, g)
		}
	}
}

func TestApplyOfEachSize(t *testing.T) {
	for _, from := range sizes() {
		a := lettersOf(from[0], from[1])
		for _, d := range rights() {
			apply(t, a, d)
		}
		for _, to := range sizes() {
			g := apply(t, a, Delta{Rows: to[0], Cols: to[1]})
			want := blankOf(to[0], to[1])
			if from == to {
				want.Grid = a.Grid
			}
			if !alike(g, want) {
				t.Errorf("from %v to %v: %v", from, to, g)
			}
		}
	}
}

func TestApplyOfRandomDeltas(t *testing.T) {
	r, n := rand.New(rand.NewSource(4)), 0
	for range 60000 {
		a := randomImage(r, 1+r.Intn(3), 1+r.Intn(6), someCells())
		d := randomDelta(r)
		if !slowRight(d) {
			if g, e := Apply(a, d); e != api.ErrForm || !alike(g, api.Image{}) {
				t.Fatalf("Apply of %v is %v, %d", d, g, e)
			}
			continue
		}
		apply(t, a, d)
		a.Grid = blankOf(d.Rows, d.Cols).Grid
		a.Row, a.Col = 0, 0
		apply(t, a, d)
		n++
	}
	if n < 10000 {
		t.Errorf("no more than %d are valid", n)
	}
}
