package screen

import (
	"bytes"
	"slices"
	"strconv"
	"strings"
	"testing"

	"baton/api"
	"baton/caret"
	"baton/pen"
	"baton/seqs"
)

// The slow screen is the chapter's sentences, read one by one. It takes from the layers below only how bytes become actions and how numbers change a pen; rows are moved one by one, the caret goes step by step, and all that went off is in one list.

type slowSaved struct {
	any      bool
	row, col int
	wait     bool
	pen      api.Pen
	origin   bool
}

type slow struct {
	rows, cols  int
	boards      [2][][]api.Cell // the main one, the alternate one
	which       int
	top, bottom int
	origin      bool
	row, col    int
	wait        bool
	pen         api.Pen
	stops       []bool
	parser      seqs.Parser
	wraps       bool
	inserts     bool
	hidden      bool
	title       string
	bells       int
	last        []rune
	saved       [2]slowSaved
	answers     string
	off         [][]api.Cell // the newest last
}

func blankRow(cols int, c api.Cell) []api.Cell {
	row := []api.Cell{}
	for range cols {
		row = append(row, c)
	}
	return row
}

func blankRows(rows, cols int) [][]api.Cell {
	out := [][]api.Cell{}
	for range rows {
		out = append(out, blankRow(cols, api.Cell{Rune: ' '}))
	}
	return out
}

// newSlow makes a slow screen of a valid size.
func newSlow(rows, cols int) *slow {
	m := &slow{rows: rows, cols: cols}
	m.renew()
	return m
}

// renew makes everything new, except the parser, the bell count, the answers and the scrollback.
func (m *slow) renew() {
	m.boards = [2][][]api.Cell{blankRows(m.rows, m.cols), nil}
	m.which = 0
	m.top, m.bottom, m.origin = 0, m.rows-1, false
	m.row, m.col, m.wait = 0, 0, false
	m.pen = api.Pen{}
	m.stops = nil
	for col := range m.cols {
		m.stops = append(m.stops, col != 0 && col%8 == 0)
	}
	m.wraps, m.inserts, m.hidden = true, false, false
	m.title = ""
	m.last = nil
	m.saved = [2]slowSaved{}
}

func (m *slow) blank() api.Cell {
	return api.Cell{Rune: ' ', Pen: api.Pen{Bg: m.pen.Bg}}
}

// newRow returns a row of Blank.
func (m *slow) newRow() []api.Cell {
	return blankRow(m.cols, m.blank())
}

func (m *slow) line() []api.Cell {
	return m.boards[m.which][m.row]
}

func (m *slow) feedBytes(b []byte) {
	for _, x := range b {
		for _, a := range m.parser.Put(x) {
			m.act(a)
		}
	}
}

func (m *slow) act(a seqs.Act) {
	switch a.Kind {
	case seqs.Print:
		m.print(a.Rune)
	case seqs.Control:
		m.control(a.Byte)
	case seqs.Escape:
		if a.Inter == 0 {
			m.escape(a.Byte)
		}
	case seqs.Csi:
		switch {
		case a.Mark == 0 && a.Inter == 0:
			m.csi(a)
		case a.Mark == '?' && a.Inter == 0 && a.Byte == 'h':
			for _, n := range a.Params {
				m.mode(n, true)
			}
		case a.Mark == '?' && a.Inter == 0 && a.Byte == 'l':
			for _, n := range a.Params {
				m.mode(n, false)
			}
		case a.Mark == 0 && a.Inter == '!' && a.Byte == 'p':
			m.pen = api.Pen{}
			m.whole()
			m.wraps, m.inserts, m.hidden = true, false, false
			m.saved[m.which] = slowSaved{}
			m.wait = false
		}
	case seqs.Osc:
		m.osc(a.Text)
	}
}

// whole makes the area Whole without Origin.
func (m *slow) whole() {
	m.top, m.bottom, m.origin = 0, m.rows-1, false
}

// up moves the rows from top to bottom up, once for each step. More steps than rows change nothing any more.
func (m *slow) up(top, bottom, n int) {
	b := m.boards[m.which]
	for range min(n, 100) {
		b = slices.Concat(b[:top], b[top+1:bottom+1], [][]api.Cell{m.newRow()}, b[bottom+1:])
	}
	m.boards[m.which] = b
}

// down moves the rows from top to bottom down, once for each step.
func (m *slow) down(top, bottom, n int) {
	b := m.boards[m.which]
	for range min(n, 100) {
		b = slices.Concat(b[:top], [][]api.Cell{m.newRow()}, b[top:bottom], b[bottom+1:])
	}
	m.boards[m.which] = b
}

func (m *slow) scrollUp(n int) {
	if m.top == 0 && m.which == 0 {
		for row := 0; row < n && row <= m.bottom; row++ {
			m.push(m.boards[0][row])
		}
	}
	m.up(m.top, m.bottom, n)
}

// push keeps a row without the blanks at its end, and the newest hundred rows.
func (m *slow) push(row []api.Cell) {
	l := slices.Clone(row)
	for len(l) > 0 && l[len(l)-1] == (api.Cell{Rune: ' '}) {
		l = l[:len(l)-1]
	}
	m.off = append(m.off, l)
	if len(m.off) > 100 {
		m.off = m.off[1:]
	}
}

func (m *slow) feed() {
	switch {
	case m.row == m.bottom:
		m.scrollUp(1)
	case m.row < m.rows-1:
		m.row++
	}
	m.wait = false
}

// insert moves the cells from the caret on to the right, once for each step.
func (m *slow) insert(n int) {
	for range min(n, 200) {
		l := m.line()
		m.boards[m.which][m.row] = slices.Concat(l[:m.col], []api.Cell{m.blank()}, l[m.col:len(l)-1])
	}
}

// remove takes the cell at the caret away, once for each step.
func (m *slow) remove(n int) {
	for range min(n, 200) {
		l := m.line()
		m.boards[m.which][m.row] = slices.Concat(l[:m.col], l[m.col+1:], []api.Cell{m.blank()})
	}
}

func (m *slow) print(c rune) {
	if m.wait && m.wraps {
		m.col = 0
		m.feed()
	}
	if m.inserts {
		m.insert(1)
	}
	m.line()[m.col] = api.Cell{Rune: c, Pen: m.pen}
	if m.col == m.cols-1 {
		m.wait = m.wraps
	} else {
		m.col++
		m.wait = false
	}
	m.last = []rune{c}
}

func (m *slow) control(b byte) {
	switch b {
	case 7:
		if m.bells < 1<<30 {
			m.bells++
		}
	case 8:
		m.sideways(-1, 1)
	case 9:
		m.tab(1, 1)
	case 10, 11, 12:
		m.feed()
	case 13:
		m.toCol(0)
	}
}

// toCol goes to a column, or to the last one if it does not exist.
func (m *slow) toCol(col int) {
	if col >= m.cols {
		col = m.cols - 1
	}
	m.col, m.wait = col, false
}

// sideways goes n steps in a direction within the row.
func (m *slow) sideways(by, n int) {
	m.wait = false
	for range min(n, 200) {
		if m.col+by >= 0 && m.col+by < m.cols {
			m.col += by
		}
	}
}

// upwards and downwards go n steps, but not across the border of the region that is ahead.
func (m *slow) upwards(n int) {
	m.wait = false
	for range min(n, 100) {
		if m.row != m.top && m.row != 0 {
			m.row--
		}
	}
}

func (m *slow) downwards(n int) {
	m.wait = false
	for range min(n, 100) {
		if m.row != m.bottom && m.row != m.rows-1 {
			m.row++
		}
	}
}

// tab goes on, column by column, until there is a stop or nothing more, n times.
func (m *slow) tab(by, n int) {
	m.wait = false
	for range min(n, 200) {
		for m.col+by >= 0 && m.col+by < m.cols {
			m.col += by
			if m.stops[m.col] {
				break
			}
		}
	}
}

// toPlace goes to a place that is counted from 1.
func (m *slow) toPlace(p, q int) {
	first, last := 0, m.rows-1
	if m.origin {
		first, last = m.top, m.bottom
	}
	m.row, m.col, m.wait = first, 0, false
	for i := 1; i < p; i++ {
		if m.row < last {
			m.row++
		}
	}
	for i := 1; i < q; i++ {
		if m.col < m.cols-1 {
			m.col++
		}
	}
}

func (m *slow) save() {
	m.saved[m.which] = slowSaved{true, m.row, m.col, m.wait, m.pen, m.origin}
}

func (m *slow) restore() {
	x := m.saved[m.which]
	if !x.any {
		m.row, m.col, m.wait, m.pen, m.origin = 0, 0, false, api.Pen{}, false
		return
	}
	m.row, m.col, m.wait, m.pen, m.origin = x.row, x.col, x.wait, x.pen, x.origin
	m.hold()
}

// hold brings the caret into the screen. It waits on in the last column only.
func (m *slow) hold() {
	if m.col != m.cols-1 {
		m.wait = false
	}
	for m.col > m.cols-1 {
		m.col--
	}
	for m.row > m.rows-1 {
		m.row--
	}
}

func (m *slow) escape(b byte) {
	switch b {
	case '7':
		m.save()
	case '8':
		m.restore()
	case 'D':
		m.feed()
	case 'E':
		m.col = 0
		m.feed()
	case 'M':
		if m.row == m.top {
			m.down(m.top, m.bottom, 1)
		} else if m.row > 0 {
			m.row--
		}
		m.wait = false
	case 'H':
		m.stops[m.col] = true
	case 'c':
		m.renew()
	}
}

// slowNumber returns a number of a sequence, where a missing one and -1 count as 0.
func slowNumber(l []int, i int) int {
	if len(l) <= i || l[i] == -1 {
		return 0
	}
	return l[i]
}

func (m *slow) csi(a seqs.Act) {
	p, q := slowNumber(a.Params, 0), slowNumber(a.Params, 1)
	n := p
	if p == 0 {
		n = 1
	}
	switch a.Byte {
	case 'A':
		m.upwards(n)
	case 'B':
		m.downwards(n)
	case 'C':
		m.sideways(1, n)
	case 'D':
		m.sideways(-1, n)
	case 'E':
		m.downwards(n)
		m.toCol(0)
	case 'F':
		m.upwards(n)
		m.toCol(0)
	case 'G', '`':
		m.toCol(n - 1)
	case 'H', 'f':
		m.toPlace(p, q)
	case 'd':
		col := m.col
		m.toPlace(n, 1)
		m.col = col
	case 'I':
		m.tab(1, n)
	case 'Z':
		m.tab(-1, n)
	case 's':
		m.save()
	case 'u':
		m.restore()
	case 'r':
		m.margins(p, q)
	case 'g':
		for col := range m.stops {
			if p == 3 || p == 0 && col == m.col {
				m.stops[col] = false
			}
		}
	case 'h', 'l':
		for _, x := range a.Params {
			if x == 4 {
				m.inserts = a.Byte == 'h'
			}
		}
	case 'm':
		m.pen = pen.Apply(m.pen, a.Params)
	case 'b':
		if len(m.last) == 1 {
			for i := 0; i < n && i < m.rows*m.cols; i++ {
				m.print(m.last[0])
			}
		}
	case 'c':
		if p == 0 {
			m.answer("\x1b[?6c")
		}
	case 'n':
		m.status(p)
	default:
		m.change(a.Byte, p, n)
	}
}

func (m *slow) margins(p, q int) {
	if p == 0 {
		p = 1
	}
	if q == 0 {
		q = m.rows
	}
	if p > m.rows {
		p = m.rows
	}
	if q > m.rows {
		q = m.rows
	}
	if p < q {
		m.top, m.bottom = p-1, q-1
		m.toPlace(1, 1)
	}
}

func (m *slow) status(p int) {
	if p == 5 {
		m.answer("\x1b[0n")
	}
	if p == 6 {
		row := m.row + 1
		if m.origin && m.row < m.top {
			row = 0
		} else if m.origin {
			row = m.row - m.top + 1
		}
		m.answer("\x1b[" + strconv.Itoa(row) + ";" + strconv.Itoa(m.col+1) + "R")
	}
}

func (m *slow) answer(text string) {
	if len(m.answers)+len(text) <= 256 {
		m.answers += text
	}
}

// change reads the sentences of P16.6: each cell is asked where it is.
func (m *slow) change(b byte, p, n int) {
	inRegion := m.row >= m.top && m.row <= m.bottom
	switch b {
	case 'J', 'K':
		if b == 'J' && p == 3 {
			m.off = nil
		}
		for row := range m.rows {
			for col := range m.cols {
				same := row == m.row
				after := same && col >= m.col || b == 'J' && row > m.row
				before := same && col <= m.col || b == 'J' && row < m.row
				all := same || b == 'J'
				if p == 0 && after || p == 1 && before || p == 2 && all {
					m.boards[m.which][row][col] = m.blank()
				}
			}
		}
	case 'L':
		if inRegion {
			m.down(m.row, m.bottom, n)
			m.toCol(0)
		}
	case 'M':
		if inRegion {
			m.up(m.row, m.bottom, n)
			m.toCol(0)
		}
	case '@':
		m.insert(n)
	case 'P':
		m.remove(n)
	case 'X':
		for col := m.col; col < m.col+n && col < m.cols; col++ {
			m.line()[col] = m.blank()
		}
	case 'S':
		m.scrollUp(n)
	case 'T':
		m.down(m.top, m.bottom, n)
	}
}

func (m *slow) mode(n int, on bool) {
	switch n {
	case 6:
		m.origin = on
		m.toPlace(1, 1)
	case 7:
		m.wraps = on
		m.wait = false
	case 25:
		m.hidden = !on
	case 47, 1047, 1049:
		if on && m.which == 0 {
			if n == 1049 {
				m.save()
			}
			m.boards[1] = blankRows(m.rows, m.cols)
			m.which = 1
			m.whole()
			m.wait = false
		} else if !on && m.which == 1 {
			m.which = 0
			m.boards[1] = nil
			m.whole()
			m.wait = false
			if n == 1049 {
				m.restore()
			}
		}
	}
}

func (m *slow) osc(text string) {
	if len(text) < 2 || text[:2] != "0;" && text[:2] != "2;" {
		return
	}
	rest := text[2:]
	if len(rest) <= 64 && strings.ToValidUTF8(rest, "") == rest {
		m.title = rest
	}
}

func (m *slow) resize(rows, cols int) api.Errno {
	if rows < 1 || rows > 60 || cols < 1 || cols > 132 {
		return api.ErrSize
	}
	if rows == m.rows && cols == m.cols {
		return api.OK
	}
	for i, old := range m.boards {
		if old == nil {
			continue
		}
		m.boards[i] = blankRows(rows, cols)
		for row := range min(rows, m.rows) {
			for col := range min(cols, m.cols) {
				m.boards[i][row][col] = old[row][col]
			}
		}
	}
	stops := []bool{}
	for col := range cols {
		if col < m.cols {
			stops = append(stops, m.stops[col])
		} else {
			stops = append(stops, col%8 == 0)
		}
	}
	m.stops = stops
	m.rows, m.cols = rows, cols
	m.top, m.bottom = 0, rows-1
	m.hold()
	return api.OK
}

func (m *slow) image() api.Image {
	return api.Image{
		Grid:   api.Grid{Rows: m.rows, Cols: m.cols, Cells: slices.Concat(m.boards[m.which]...)},
		Row:    m.row,
		Col:    m.col,
		Hidden: m.hidden,
		Title:  m.title,
		Bells:  m.bells,
	}
}

func (m *slow) takeAnswers() string {
	out := m.answers
	m.answers = ""
	return out
}

// sameImage reports whether two images are equal.
func sameImage(a, b api.Image) bool {
	return a.Grid.Rows == b.Grid.Rows && a.Grid.Cols == b.Grid.Cols && slices.Equal(a.Grid.Cells, b.Grid.Cells) &&
		a.Row == b.Row && a.Col == b.Col && a.Hidden == b.Hidden && a.Title == b.Title && a.Bells == b.Bells
}

// agree checks all that a screen tells, except its answers, against the model. What tells the story up to there.
func agree(t *testing.T, s *Screen, m *slow, what string) {
	t.Helper()
	if got, want := s.Image(), m.image(); !sameImage(got, want) {
		t.Fatalf("%s: the image is\n%s, want\n%s", what, tell(got), tell(want))
	}
	want := caret.Area{Rows: m.rows, Cols: m.cols, Top: m.top, Bottom: m.bottom, Origin: m.origin}
	if s.Area() != want {
		t.Fatalf("%s: the area is %v, want %v", what, s.Area(), want)
	}
	if s.Pen() != m.pen || s.Alt() != (m.which == 1) {
		t.Fatalf("%s: pen %v, alternate %v; want %v, %v", what, s.Pen(), s.Alt(), m.pen, m.which == 1)
	}
	if s.Gone() != len(m.off) {
		t.Fatalf("%s: %d lines went off, want %d", what, s.Gone(), len(m.off))
	}
	for n := range len(m.off) + 2 {
		line := []api.Cell(nil)
		if n < len(m.off) {
			line = m.off[len(m.off)-1-n]
		}
		if !slices.Equal(s.Off(n), line) {
			t.Fatalf("%s: Off(%d) is %v, want %v", what, n, s.Off(n), line)
		}
	}
}

// agreeAnswers takes the answers of both.
func agreeAnswers(t *testing.T, s *Screen, m *slow, what string) {
	t.Helper()
	if got, want := s.Answers(), m.takeAnswers(); !bytes.Equal(got, []byte(want)) {
		t.Fatalf("%s: answers %q, want %q", what, got, want)
	}
}

// tell returns an image as text, with the rows one below the other.
func tell(x api.Image) string {
	var out strings.Builder
	for row := range x.Grid.Rows {
		for _, c := range x.Grid.Cells[row*x.Grid.Cols : (row+1)*x.Grid.Cols] {
			out.WriteRune(c.Rune)
			if c.Pen != (api.Pen{}) {
				out.WriteString("(" + strconv.Itoa(c.Pen.Fg) + "," + strconv.Itoa(c.Pen.Bg) + "," + strconv.Itoa(c.Pen.Marks) + ")")
			}
		}
		out.WriteString("|\n")
	}
	out.WriteString("caret " + strconv.Itoa(x.Row) + ", " + strconv.Itoa(x.Col) + ", hidden " + strconv.FormatBool(x.Hidden))
	out.WriteString(", title " + strconv.Quote(x.Title) + ", bells " + strconv.Itoa(x.Bells))
	return out.String()
}
