package screen

import (
	"baton/api"
	"baton/caret"
	"baton/grid"
	"baton/seqs"
)

// Private modes.
const (
	originMode   = 6
	wrapMode     = 7
	caretMode    = 25
	altMode      = 47
	altModeToo   = 1047
	savedAltMode = 1049 // the caret is saved ahead of the alternate board and restored behind it
)

// private performs a sequence with the Mark ? that switches private modes on or off, in the order of its numbers.
func (s *Screen) private(a seqs.Act) {
	if a.Byte != 'h' && a.Byte != 'l' {
		return
	}
	on := a.Byte == 'h'
	for _, mode := range a.Params {
		s.setMode(mode, on)
	}
}

// setMode switches one private mode on or off.
func (s *Screen) setMode(mode int, on bool) {
	switch mode {
	case originMode:
		s.area.Origin = on
		s.at = caret.Goto(s.area, 1, 1)
	case wrapMode:
		s.wraps = on
		s.at.Wait = false
	case caretMode:
		s.hidden = !on
	case altMode, altModeToo, savedAltMode:
		if on {
			s.toAlt(mode)
		} else {
			s.toMain(mode)
		}
	}
}

// toAlt switches to a new alternate board, unless there is one.
func (s *Screen) toAlt(mode int) {
	if s.alt != nil {
		return
	}
	if mode == savedAltMode {
		s.save()
	}
	// The size is that of a board already, so there is no error.
	s.alt, _ = grid.New(s.area.Rows, s.area.Cols)
	s.resetArea()
}

// toMain switches back to the main board, if the alternate one is current.
func (s *Screen) toMain(mode int) {
	if s.alt == nil {
		return
	}
	s.alt = nil
	s.resetArea()
	if mode == savedAltMode {
		s.restore()
	}
}

// resetArea makes all rows the scrolling region and positions absolute. The caret waits no more.
func (s *Screen) resetArea() {
	s.area.Top, s.area.Bottom = 0, s.area.Rows-1
	s.area.Origin = false
	s.at.Wait = false
}

// softReset makes how things are written as it is on a new screen; what is written stays.
func (s *Screen) softReset() {
	s.resetArea()
	s.pen = api.Pen{}
	s.wraps, s.inserts, s.hidden = true, false, false
	*s.saved() = record{}
}

// saved returns where what is saved for the current board is kept.
func (s *Screen) saved() *record {
	if s.alt != nil {
		return &s.onAlt
	}
	return &s.onMain
}

// save records the caret, the pen and Origin for the current board.
func (s *Screen) save() {
	*s.saved() = record{at: s.at, pen: s.pen, origin: s.area.Origin}
}

// restore applies what was saved for the current board.
func (s *Screen) restore() {
	from := s.saved()
	s.pen = from.pen
	s.area.Origin = from.origin
	s.at = caret.Hold(s.area, from.at)
}
