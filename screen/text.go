package screen

import (
	"strings"

	"baton/api"
	"baton/caret"
	"baton/runes"
)

// Controls that have an effect.
const (
	bell           = 0x07
	backspace      = 0x08
	tab            = 0x09
	lineFeed       = 0x0a
	verticalTab    = 0x0b
	formFeed       = 0x0c
	carriageReturn = 0x0d
)

// print writes a rune at the caret, in the next row if the caret waits for that.
func (s *Screen) print(c rune) {
	if s.at.Wait && s.wraps {
		s.toCol(0)
		s.feed()
	}
	if s.inserts {
		s.board().Insert(s.at.Row, s.at.Col, 1, s.blank())
	}
	s.board().Put(s.at.Row, s.at.Col, api.Cell{Rune: c, Pen: s.pen})
	s.at = caret.Wrote(s.area, s.at, s.wraps)
	s.last = c
}

// toCol moves the caret within its row, to the last column if there is no such column.
func (s *Screen) toCol(col int) {
	s.at = caret.Caret{Row: s.at.Row, Col: min(col, s.area.Cols-1)}
}

// feed moves the caret one row down, or the rows of the scrolling region up.
func (s *Screen) feed() {
	at, scrolls := caret.Feed(s.area, s.at)
	if scrolls == 1 {
		s.scrollUp(1)
	}
	s.at = at
	s.at.Wait = false
}

// reverseFeed moves the caret one row up, or the rows of the scrolling region down.
func (s *Screen) reverseFeed() {
	at, scrolls := caret.Back(s.area, s.at)
	if scrolls == 1 {
		s.scrollDown(1)
	}
	s.at = at
	s.at.Wait = false
}

// scrollUp moves the rows of the scrolling region up by n. What leaves the main board at its first row goes to the scrollback.
func (s *Screen) scrollUp(n int) {
	if s.area.Top == 0 && s.alt == nil {
		for row := range min(n, s.area.Bottom+1) {
			s.lines.Push(s.main.Row(row))
		}
	}
	s.board().Up(s.area.Top, s.area.Bottom, n, s.blank())
}

// scrollDown moves the rows of the scrolling region down by n.
func (s *Screen) scrollDown(n int) {
	s.board().Down(s.area.Top, s.area.Bottom, n, s.blank())
}

// control performs a control.
func (s *Screen) control(b byte) {
	switch b {
	case bell:
		s.bells = min(s.bells+1, MaxBells)
	case backspace:
		s.at = caret.Left(s.area, s.at, 1)
	case tab:
		s.toCol(s.stops.Next(s.at.Col, 1))
	case lineFeed, verticalTab, formFeed:
		s.feed()
	case carriageReturn:
		s.toCol(0)
	}
}

// escape performs an escape sequence that has no Inter.
func (s *Screen) escape(b byte) {
	switch b {
	case '7':
		s.save()
	case '8':
		s.restore()
	case 'D':
		s.feed()
	case 'E':
		s.toCol(0)
		s.feed()
	case 'M':
		s.reverseFeed()
	case 'H':
		s.stops.Set(s.at.Col)
	case 'c':
		s.reset()
	}
}

// reset makes everything as it is on a new screen, except what outlasts it.
func (s *Screen) reset() {
	// The size is that of a board already, so there is no error.
	s.state, _ = fresh(s.area.Rows, s.area.Cols)
}

// entitle takes the title from a string that tells one.
func (s *Screen) entitle(text string) {
	title, found := strings.CutPrefix(text, "0;")
	if !found {
		title, found = strings.CutPrefix(text, "2;")
	}
	if found && len(title) <= api.MaxTitle && runes.Valid(title) {
		s.title = title
	}
}
