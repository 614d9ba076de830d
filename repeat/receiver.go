package repeat

import (
	"slices"

	"roamwave/api"
)

// taking is a unit as far as it has come.
type taking struct {
	// data up to the last byte that is there; what stands in gaps of it means nothing.
	data  []byte
	there spans
	// length; 0, if it is not known.
	length int
}

// whole tells whether nothing is missing.
func (u *taking) whole() bool {
	return u.length > 0 && len(u.there) == 1 && u.there[0] == span{0, u.length}
}

// check answers the error of a piece beside what is known of its unit.
func (u *taking) check(p api.Piece) api.Errno {
	end := p.From + len(p.Data)
	if u.length > 0 && (end > u.length || p.Last && end != u.length) {
		return api.ErrForm
	}
	if p.Last && u.there.end() > end {
		return api.ErrForm
	}
	return api.OK
}

// add a piece. What is there stays: the piece fills gaps alone.
func (u *taking) add(p api.Piece) {
	x := span{p.From, p.From + len(p.Data)}
	if x.to > len(u.data) {
		u.data = append(u.data, make([]byte, x.to-len(u.data))...)
	}
	for _, g := range u.there.gaps(x) {
		copy(u.data[g.from:g.to], p.Data[g.from-x.from:])
	}
	u.there.add(x)
	if p.Last {
		u.length = x.to
	}
}

// gaps of the unit, rising; the last one's end is below 0, if nobody knows it.
func (u *taking) gaps() spans {
	if u.length > 0 {
		return u.there.gaps(span{0, u.length})
	}
	end := u.there.end()
	return append(u.there.gaps(span{0, end}), span{end, -1})
}

// Receiver of units.
type Receiver struct {
	// first is the number of the first unit that was not told.
	first int
	// units from that one on, as many as the window is wide.
	units []taking
}

// NewReceiver: P26.
func NewReceiver(window int) (*Receiver, api.Errno) {
	if err := checkWindow(window); err != api.OK {
		return nil, err
	}
	return &Receiver{units: make([]taking, window)}, api.OK
}

// checkPiece answers the error of a piece, whatever its unit is.
func checkPiece(p api.Piece) api.Errno {
	if !isNumber(p.Number) || p.From < 0 || p.Data == "" {
		return api.ErrForm
	}
	// From may be so great that nothing can be added to it.
	if p.From > api.MaxBytes-len(p.Data) {
		return api.ErrForm
	}
	return api.OK
}

// tell all whole units from the first one on; they are gone then.
func (r *Receiver) tell() []string {
	var told []string
	for _, u := range r.units {
		if !u.whole() {
			break
		}
		told = append(told, string(u.data))
	}
	r.units = append(slices.Delete(r.units, 0, len(told)), make([]taking, len(told))...)
	r.first = behind(r.first, len(told))
	return told
}

// Take: P26.
func (r *Receiver) Take(p api.Piece) ([]string, api.Errno) {
	if err := checkPiece(p); err != api.OK {
		return nil, err
	}
	place := ahead(p.Number, r.first)
	if place >= len(r.units) {
		return nil, api.ErrOld
	}
	u := &r.units[place]
	if err := u.check(p); err != api.OK {
		return nil, err
	}
	u.add(p)
	return r.tell(), api.OK
}

// begun is how many units there are up to the last one of which something is there.
func (r *Receiver) begun() int {
	count := len(r.units)
	for count > 0 && len(r.units[count-1].there) == 0 {
		count--
	}
	return count
}

// Report: P26.
func (r *Receiver) Report() api.Report {
	count := r.begun()
	report := api.Report{Next: behind(r.first, count)}
	for i := range count {
		for _, g := range r.units[i].gaps() {
			report.Missing = append(report.Missing, api.Gap{Number: behind(r.first, i), From: g.from, To: g.to})
		}
	}
	return report
}
