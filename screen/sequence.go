package screen

import (
	"slices"
	"strconv"

	"baton/caret"
	"baton/pen"
	"baton/seqs"
)

// insertMode is the number of the one mode that is no private one.
const insertMode = 4

// sequence performs a control sequence.
func (s *Screen) sequence(a seqs.Act) {
	switch {
	case a.Mark == '?' && a.Inter == 0:
		s.private(a)
	case a.Mark != 0:
		// All other sequences with a Mark have no effect.
	case a.Inter == '!' && a.Byte == 'p':
		s.softReset()
	case a.Inter == 0:
		// Each byte is performed by one of these at most.
		p, q := number(a.Params, 0), number(a.Params, 1)
		s.move(a.Byte, p, q)
		s.setting(a, p, q)
		s.edit(a.Byte, p)
		s.report(a.Byte, p)
	}
}

// number returns the number at that place, where a missing one is 0.
func number(params []int, place int) int {
	if place >= len(params) {
		return 0
	}
	return max(params[place], 0)
}

// times returns how often something is done for the number p.
func times(p int) int {
	return max(p, 1)
}

// move performs the sequences that move the caret, without anything else.
func (s *Screen) move(b byte, p, q int) {
	n := times(p)
	switch b {
	case 'A':
		s.at = caret.Up(s.area, s.at, n)
	case 'B':
		s.at = caret.Down(s.area, s.at, n)
	case 'C':
		s.at = caret.Ahead(s.area, s.at, n)
	case 'D':
		s.at = caret.Left(s.area, s.at, n)
	case 'E':
		s.at = caret.Down(s.area, s.at, n)
		s.toCol(0)
	case 'F':
		s.at = caret.Up(s.area, s.at, n)
		s.toCol(0)
	case 'G', '`':
		s.toCol(n - 1)
	case 'H', 'f':
		s.at = caret.Goto(s.area, p, q)
	case 'd':
		s.at = caret.Caret{Row: caret.Goto(s.area, n, 1).Row, Col: s.at.Col}
	case 'I':
		s.toCol(s.stops.Next(s.at.Col, n))
	case 'Z':
		s.toCol(s.stops.Back(s.at.Col, n))
	}
}

// setting performs the sequences that save, restore and set how others work.
func (s *Screen) setting(a seqs.Act, p, q int) {
	switch a.Byte {
	case 's':
		s.save()
	case 'u':
		s.restore()
	case 'r':
		s.setMargins(p, q)
	case 'g':
		s.clearStops(p)
	case 'h', 'l':
		if slices.Contains(a.Params, insertMode) {
			s.inserts = a.Byte == 'h'
		}
	case 'm':
		s.pen = pen.Apply(s.pen, a.Params)
	}
}

// setMargins makes the rows from top to bottom the scrolling region, if there are two of them at least.
func (s *Screen) setMargins(top, bottom int) {
	area, changed := caret.Margins(s.area, top, bottom)
	if changed {
		s.area = area
		s.at = caret.Goto(area, 1, 1)
	}
}

// clearStops clears the tab stop in the column of the caret, or all of them.
func (s *Screen) clearStops(p int) {
	switch p {
	case 0:
		s.stops.Clear(s.at.Col)
	case 3:
		s.stops.None()
	}
}

// edit performs the sequences that change the cells of the board.
func (s *Screen) edit(b byte, p int) {
	n := times(p)
	switch b {
	case 'b':
		s.printAgain(n)
	case 'J':
		s.erase(p)
	case 'K':
		s.eraseInRow(p)
	case 'L':
		s.insertRows(n)
	case 'M':
		s.deleteRows(n)
	case '@':
		s.board().Insert(s.at.Row, s.at.Col, n, s.blank())
	case 'P':
		s.board().Delete(s.at.Row, s.at.Col, n, s.blank())
	case 'X':
		s.board().Fill(s.at.Row, s.at.Col, s.at.Col+n, s.blank())
	case 'S':
		s.scrollUp(n)
	case 'T':
		s.scrollDown(n)
	}
}

// printAgain prints the last rune n more times, but not more often than the board has cells.
func (s *Screen) printAgain(n int) {
	if s.last == 0 {
		return
	}
	for range min(n, s.area.Rows*s.area.Cols) {
		s.print(s.last)
	}
}

// erase clears the board behind the caret, ahead of it or everywhere, or the scrollback.
func (s *Screen) erase(p int) {
	switch p {
	case 0:
		s.eraseInRow(0)
		s.eraseRows(s.at.Row+1, s.area.Rows)
	case 1:
		s.eraseInRow(1)
		s.eraseRows(0, s.at.Row)
	case 2:
		s.eraseRows(0, s.area.Rows)
	case 3:
		s.lines.Clear()
	}
}

// eraseRows clears the rows from first up to, but not including, end.
func (s *Screen) eraseRows(first, end int) {
	for row := first; row < end; row++ {
		s.board().Fill(row, 0, s.area.Cols, s.blank())
	}
}

// eraseInRow clears the row of the caret from it on, up to and including it, or all of it.
func (s *Screen) eraseInRow(p int) {
	from, to := 0, s.area.Cols
	switch p {
	case 0:
		from = s.at.Col
	case 1:
		to = s.at.Col + 1
	case 2:
		// Both ends are those of the row.
	default:
		return
	}
	s.board().Fill(s.at.Row, from, to, s.blank())
}

// insertRows moves the caret's row and those below it in the scrolling region down by n.
func (s *Screen) insertRows(n int) {
	if s.inRegion() {
		s.board().Down(s.at.Row, s.area.Bottom, n, s.blank())
		s.toCol(0)
	}
}

// deleteRows moves the rows below the caret in the scrolling region up by n. They don't go to the scrollback.
func (s *Screen) deleteRows(n int) {
	if s.inRegion() {
		s.board().Up(s.at.Row, s.area.Bottom, n, s.blank())
		s.toCol(0)
	}
}

// inRegion returns whether the caret is in the scrolling region.
func (s *Screen) inRegion() bool {
	return s.at.Row >= s.area.Top && s.at.Row <= s.area.Bottom
}

// report performs the sequences that are answered.
func (s *Screen) report(b byte, p int) {
	switch {
	case b == 'c' && p == 0:
		s.answer("\x1b[?6c")
	case b == 'n' && p == 5:
		s.answer("\x1b[0n")
	case b == 'n' && p == 6:
		s.answer("\x1b[" + strconv.Itoa(s.toldRow()) + ";" + strconv.Itoa(s.at.Col+1) + "R")
	}
}

// toldRow returns the caret's row as it is told: from 1, with Origin counted from the scrolling region's top, and 0 above that.
func (s *Screen) toldRow() int {
	if s.area.Origin {
		return max(s.at.Row-s.area.Top+1, 0)
	}
	return s.at.Row + 1
}

// answer adds to the pending answers, unless there would be too many bytes.
func (s *Screen) answer(text string) {
	if len(s.answers)+len(text) <= MaxAnswers {
		s.answers = append(s.answers, text...)
	}
}
