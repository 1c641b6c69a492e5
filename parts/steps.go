package parts

import "winkle/api"

// step takes what comes next, by what the line is so far.
type step func(s *Splitter, g sign)

// line begins a line.
func (s *Splitter) line() {
	s.seen, s.pads, s.last = 0, 0, false
	s.next = (*Splitter).start
}

// start takes what comes where the line is the border's beginning.
func (s *Splitter) start(g sign) {
	if g != sign(s.border[s.seen]) {
		s.miss(g)
		return
	}
	s.seen++
	if s.seen < len(s.border) {
		s.hold(g, (*Splitter).start)
		return
	}
	s.hold(g, (*Splitter).behindBorder)
}

// behindBorder takes what comes directly behind the border.
func (s *Splitter) behindBorder(g sign) {
	if g == '-' {
		s.hold(g, (*Splitter).behindDash)
		return
	}
	s.pad(g)
}

// behindDash takes what comes behind the first `-` that stands behind the border.
func (s *Splitter) behindDash(g sign) {
	if g != '-' {
		s.miss(g)
		return
	}
	s.last = true
	s.hold(g, (*Splitter).pad)
}

// pad takes what comes where the line is a delimiter, if it ends now.
func (s *Splitter) pad(g sign) {
	switch {
	case g == 10 || g == end:
		s.delimiter()
	case g == 13:
		s.hold(g, (*Splitter).behindPad)
	case (g == 9 || g == ' ') && s.pads < api.MaxPad:
		s.pads++
		s.hold(g, (*Splitter).pad)
	default:
		s.miss(g)
	}
}

// behindPad takes what comes behind a byte 13 that is a delimiter's, if a byte 10 follows.
func (s *Splitter) behindPad(g sign) {
	if g != 10 {
		s.miss(g)
		return
	}
	s.delimiter()
}

// within takes what comes where the line can't be a delimiter.
func (s *Splitter) within(g sign) {
	switch g {
	case 13:
		s.hold(g, (*Splitter).behindReturn)
	case 10:
		s.add(g)
		s.line()
	case end:
	default:
		s.add(g)
		s.know()
	}
}

// behindReturn takes what comes behind a byte 13 in such a line.
func (s *Splitter) behindReturn(g sign) {
	if g != 10 {
		s.miss(g)
		return
	}
	s.within(g)
}

// ignore takes what comes behind the last delimiter.
func (s *Splitter) ignore(sign) {}

// hold keeps a byte till it is known whose it is, and says which step comes next.
func (s *Splitter) hold(g sign, next step) {
	s.add(g)
	s.next = next
}

// miss says that what is held is the part's; what comes behind it may be the beginning of a line's end.
func (s *Splitter) miss(g sign) {
	s.know()
	s.next = (*Splitter).within
	s.within(g)
}

// delimiter says that the line is one, so that what is held is no part's.
func (s *Splitter) delimiter() {
	s.count = 0
	s.add(closes)
	s.inside, s.closed = !s.last, s.last
	s.add(opens)
	s.know()
	if s.closed {
		s.next = (*Splitter).ignore
		return
	}
	s.line()
}
