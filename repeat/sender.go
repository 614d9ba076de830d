package repeat

import (
	"slices"

	"roamwave/api"
)

// maxWaiting units of a sender are not done.
const maxWaiting = 64

// sending is a unit on its way.
type sending struct {
	text string
	// sent is how many bytes were, from the first one on.
	sent int
	// again are those of the sent bytes that are to be sent once more.
	again spans
	done  bool
}

// lose bytes: those that were sent are to be sent again, unless nobody needs them.
func (u *sending) lose(x span) {
	x.to = min(x.to, u.sent)
	if !u.done && x.from < x.to {
		u.again.add(x)
	}
}

// finish with the unit: nothing of it is sent any more.
func (u *sending) finish() {
	u.done = true
	u.again = nil
}

// open tells whether bytes are left that were never sent and are needed.
func (u *sending) open() bool { return !u.done && u.sent < len(u.text) }

// Sender of units.
type Sender struct {
	window int
	// begin is the number of the first unit.
	begin int
	// units from the first one on that is not done.
	units []sending
}

// NewSender: P25.
func NewSender(window int) (*Sender, api.Errno) {
	if err := checkWindow(window); err != api.OK {
		return nil, err
	}
	return &Sender{window: window}, api.OK
}

// Submit: P25.
func (s *Sender) Submit(unit string) api.Errno {
	if unit == "" {
		return api.ErrArg
	}
	if len(unit) > api.MaxBytes {
		return api.ErrLarge
	}
	if s.Waiting() >= maxWaiting {
		return api.ErrFull
	}
	s.units = append(s.units, sending{text: unit})
	return api.OK
}

// piece of the unit at a place, of these bytes.
func (s *Sender) piece(place int, x span) api.Piece {
	text := s.units[place].text
	return api.Piece{Number: behind(s.begin, place), From: x.from, Last: x.to == len(text), Data: text[x.from:x.to]}
}

// Next: P25.
func (s *Sender) Next(size int) (api.Piece, api.Errno) {
	if size < 1 || size > api.MaxBytes {
		return api.Piece{}, api.ErrArg
	}
	for i := range s.units {
		if u := &s.units[i]; len(u.again) > 0 {
			return s.piece(i, u.again.cut(size)), api.OK
		}
	}
	for i := range min(s.window, len(s.units)) {
		if u := &s.units[i]; u.open() {
			x := span{u.sent, min(u.sent+size, len(u.text))}
			u.sent = x.to
			return s.piece(i, x), api.OK
		}
	}
	return api.Piece{}, api.ErrAbsent
}

// begun is how many units were sent, wholly or in part: as they are sent in order, they are the first ones.
func (s *Sender) begun() int {
	count := 0
	for count < len(s.units) && s.units[count].sent > 0 {
		count++
	}
	return count
}

// checkGap answers the error of a gap in one of the first units, so many.
func (s *Sender) checkGap(g api.Gap, count int) api.Errno {
	if !isNumber(g.Number) || ahead(g.Number, s.begin) >= count {
		return api.ErrForm
	}
	length := len(s.units[ahead(g.Number, s.begin)].text)
	if g.From < 0 || g.From >= length {
		return api.ErrForm
	}
	if g.To >= 0 && (g.To <= g.From || g.To > length) {
		return api.ErrForm
	}
	return api.OK
}

// checkReport answers the error of a report.
func (s *Sender) checkReport(r api.Report) api.Errno {
	if !isNumber(r.Next) || ahead(r.Next, s.begin) > s.begun() {
		return api.ErrForm
	}
	for _, g := range r.Missing {
		if err := s.checkGap(g, ahead(r.Next, s.begin)); err != api.OK {
			return err
		}
	}
	return api.OK
}

// loseGaps answers which of the units, by their places, have gaps.
func (s *Sender) loseGaps(gaps []api.Gap) [maxWindow]bool {
	var lacking [maxWindow]bool
	for _, g := range gaps {
		place := ahead(g.Number, s.begin)
		lacking[place] = true
		u := &s.units[place]
		if g.To < 0 {
			g.To = len(u.text)
		}
		u.lose(span{g.From, g.To})
	}
	return lacking
}

// goOn to the first unit that is not done.
func (s *Sender) goOn() {
	count := 0
	for count < len(s.units) && s.units[count].done {
		count++
	}
	s.units = slices.Delete(s.units, 0, count)
	s.begin = behind(s.begin, count)
}

// Take: P25.
func (s *Sender) Take(r api.Report) api.Errno {
	if err := s.checkReport(r); err != api.OK {
		return err
	}
	lacking := s.loseGaps(r.Missing)
	told := ahead(r.Next, s.begin)
	for i := range s.units {
		u := &s.units[i]
		if i >= told {
			u.lose(span{0, len(u.text)})
		} else if !lacking[i] {
			u.finish()
		}
	}
	s.goOn()
	return api.OK
}

// Waiting: P25.
func (s *Sender) Waiting() int {
	count := 0
	for i := range s.units {
		if !s.units[i].done {
			count++
		}
	}
	return count
}
