package repeat_test

import (
	"slices"
	"testing"

	"roamwave/api"
)

// spokenUnit is a sender's unit, byte by byte.
type spokenUnit struct {
	text        string
	sent, again []bool
	done        bool
}

// spokenSender does what P25 says, sentence by sentence; it keeps all units that ever were.
type spokenSender struct {
	window int
	units  []*spokenUnit
}

func (s *spokenSender) begin() int {
	i := slices.IndexFunc(s.units, func(u *spokenUnit) bool { return !u.done })
	if i < 0 {
		return len(s.units)
	}
	return i
}

func (s *spokenSender) waiting() int {
	n := 0
	for _, u := range s.units {
		if !u.done {
			n++
		}
	}
	return n
}

func (s *spokenSender) submit(unit string) api.Errno {
	switch {
	case unit == "":
		return api.ErrArg
	case len(unit) > 1500:
		return api.ErrLarge
	case s.waiting() == 64:
		return api.ErrFull
	}
	s.units = append(s.units, &spokenUnit{text: unit, sent: make([]bool, len(unit)), again: make([]bool, len(unit))})
	return api.OK
}

func (s *spokenSender) next(size int) (api.Piece, api.Errno) {
	if size < 1 || size > 1500 {
		return api.Piece{}, api.ErrArg
	}
	for i, u := range s.units {
		if from := slices.Index(u.again, true); from >= 0 {
			to := from
			for to < len(u.text) && to-from < size && u.again[to] {
				u.again[to] = false
				to++
			}
			return api.Piece{Number: i % 64, From: from, Last: to == len(u.text), Data: u.text[from:to]}, api.OK
		}
	}
	for i := s.begin(); i < s.begin()+s.window && i < len(s.units); i++ {
		u := s.units[i]
		if from := slices.Index(u.sent, false); from >= 0 && !u.done {
			to := from
			for to < len(u.text) && to-from < size {
				u.sent[to] = true
				to++
			}
			return api.Piece{Number: i % 64, From: from, Last: to == len(u.text), Data: u.text[from:to]}, api.OK
		}
	}
	return api.Piece{}, api.ErrAbsent
}

// sentUnits is how many from begin on were sent, wholly or in part.
func (s *spokenSender) sentUnits() int {
	n := 0
	for _, u := range s.units[s.begin():] {
		if slices.Contains(u.sent, true) {
			n++
		}
	}
	return n
}

// of is the place of a unit with this number among those of which a report speaks; below 0, if it is none.
func (s *spokenSender) of(number, d int) int {
	for i := s.begin(); i < s.begin()+d; i++ {
		if i%64 == number {
			return i
		}
	}
	return -1
}

// spokenD is of how many units a report speaks, from a begin on.
func spokenD(next, begin int) int {
	d := 0
	for (begin+d)%64 != next {
		d++
	}
	return d
}

func (s *spokenSender) take(r api.Report) api.Errno {
	if r.Next < 0 || r.Next > 63 {
		return api.ErrForm
	}
	begin := s.begin()
	d := spokenD(r.Next, begin)
	if d > s.sentUnits() {
		return api.ErrForm
	}
	gaps := map[int][]api.Gap{}
	for _, g := range r.Missing {
		i := s.of(g.Number, d)
		if i < 0 || g.From < 0 || g.From >= len(s.units[i].text) || g.To >= 0 && (g.To <= g.From || g.To > len(s.units[i].text)) {
			return api.ErrForm
		}
		gaps[i] = append(gaps[i], g)
	}
	for i := begin; i < len(s.units); i++ {
		u := s.units[i]
		if i < begin+d && len(gaps[i]) == 0 {
			u.done = true
		}
		for b := range len(u.text) {
			in := slices.ContainsFunc(gaps[i], func(g api.Gap) bool { return b >= g.From && (b < g.To || g.To < 0) })
			if u.sent[b] && (in || i >= begin+d) {
				u.again[b] = true
			}
			if u.done {
				u.again[b] = false
			}
		}
	}
	return api.OK
}

// gap in a unit of this length, often one that may be.
func (s *source) gap(number, length int) api.Gap {
	from := s.below(length)
	g := api.Gap{Number: number, From: from, To: from + 1 + s.below(length-from)}
	switch s.below(100) {
	case 0, 1, 2, 3, 4, 5, 6, 7, 8, 9:
		g.To = -1 - s.below(3)
	case 10:
		g.To = from - s.below(2)
	case 11:
		g.From, g.To = length, length+s.below(2)
	case 12:
		g.To = length + 1
	case 13:
		g.From = pick(s, wrongNumbers)
	case 14:
		g.Number = s.below(64)
	case 15:
		g.Number = pick(s, wrongUnits)
	}
	return g
}

// report to a sender, often one that may be.
func (s *source) report(to *spokenSender) api.Report {
	begin := to.begin()
	d := s.below(to.sentUnits() + 1)
	r := api.Report{Next: (begin + d) % 64}
	for i := begin; i < begin+d; i++ {
		for s.often(5) {
			r.Missing = append(r.Missing, s.gap(i%64, len(to.units[i].text)))
		}
	}
	for i := range r.Missing {
		k := s.below(i + 1)
		r.Missing[i], r.Missing[k] = r.Missing[k], r.Missing[i]
	}
	switch s.below(40) {
	case 0:
		r.Next = s.below(64)
	case 1:
		r.Next = pick(s, wrongUnits)
	}
	return r
}

// sizes of pieces.
var sizes = []int{1, 1, 2, 3, 5, 8, 13, 40, 1499, 1500, 0, 1501}

// TestSenderAsSpoken: whatever is submitted, sent and reported.
func TestSenderAsSpoken(t *testing.T) {
	for turn := range 200 {
		from := source(turn)
		window := 1 + turn%32
		s, spoken := newSender(t, window), &spokenSender{window: window}
		longest, busy := pick(&from, []int{1, 2, 6, 20, 60}), 1+from.below(9)
		for range 500 {
			switch from.below(4) {
			case 0:
				for range 1 + from.below(busy) {
					unit := from.text(from.below(1 + longest))
					submits(t, s, unit, spoken.submit(unit))
				}
			case 1, 2:
				for range 1 + from.below(busy) {
					size := pick(&from, sizes)
					p, err := s.Next(size)
					if want, wantErr := spoken.next(size); p != want || err != wantErr {
						t.Fatalf("window %d, Next(%d): %#v, %v, want %#v, %v", window, size, p, err, want, wantErr)
					}
				}
			default:
				r := from.report(spoken)
				hears(t, s, spoken.take(r), r.Next, r.Missing...)
			}
			waits(t, s, spoken.waiting())
			if t.Failed() {
				t.Fatalf("window %d", window)
			}
		}
	}
}

// spokenReceiver does what P26 says, sentence by sentence; it keeps all bytes that ever came, by their units.
type spokenReceiver struct {
	window, first int
	bytes         map[int]map[int]byte
	lengths       map[int]int
}

// behind is what is behind the last byte of a unit that is there.
func (r *spokenReceiver) behind(unit int) int {
	end := 0
	for b := range r.bytes[unit] {
		end = max(end, b+1)
	}
	return end
}

func (r *spokenReceiver) whole(unit int) bool {
	length, known := r.lengths[unit]
	return known && len(r.bytes[unit]) == length
}

// unit of a number within the window; below 0, if there is none.
func (r *spokenReceiver) unit(number int) int {
	for i := r.first; i < r.first+r.window; i++ {
		if i%64 == number {
			return i
		}
	}
	return -1
}

func (r *spokenReceiver) take(p api.Piece) ([]string, api.Errno) {
	if p.Number < 0 || p.Number > 63 || p.From < 0 || p.From > 1500 || p.From+len(p.Data) > 1500 || p.Data == "" {
		return nil, api.ErrForm
	}
	unit := r.unit(p.Number)
	if unit < 0 {
		return nil, api.ErrOld
	}
	end := p.From + len(p.Data)
	length, known := r.lengths[unit]
	if p.Last && known && length != end || known && end > length || p.Last && r.behind(unit) > end {
		return nil, api.ErrForm
	}
	if r.bytes[unit] == nil {
		r.bytes[unit] = map[int]byte{}
	}
	for i := range len(p.Data) {
		if _, there := r.bytes[unit][p.From+i]; !there {
			r.bytes[unit][p.From+i] = p.Data[i]
		}
	}
	if p.Last {
		r.lengths[unit] = end
	}
	var told []string
	for ; r.whole(r.first); r.first++ {
		var text []byte
		for b := range r.lengths[r.first] {
			text = append(text, r.bytes[r.first][b])
		}
		told = append(told, string(text))
	}
	return told, api.OK
}

func (r *spokenReceiver) report() api.Report {
	next := r.first
	for unit, bytes := range r.bytes {
		if len(bytes) > 0 {
			next = max(next, unit+1)
		}
	}
	x := api.Report{Next: next % 64}
	for unit := r.first; unit < next; unit++ {
		length, known := r.lengths[unit]
		if !known {
			length = r.behind(unit)
		}
		open := false
		for b := range length {
			_, there := r.bytes[unit][b]
			if !there && !open {
				x.Missing = append(x.Missing, api.Gap{Number: unit % 64, From: b})
			}
			if !there {
				x.Missing[len(x.Missing)-1].To = b + 1
			}
			open = !there
		}
		if !known {
			x.Missing = append(x.Missing, api.Gap{Number: unit % 64, From: length, To: -1})
		}
	}
	return x
}

// piece to a receiver, often one that may be, of units up to this length.
func (s *source) piece(to *spokenReceiver, longest int) api.Piece {
	length := 1 + (to.first+longest)%longest
	from := s.below(length)
	end := from + 1 + s.below(length-from)
	p := api.Piece{Number: (to.first + s.below(to.window)) % 64, From: from, Last: end == length, Data: s.text(end - from)}
	switch s.below(60) {
	case 0:
		p.Number = s.below(64)
	case 1:
		p.Number = pick(s, wrongUnits)
	case 2:
		p.From = pick(s, wrongNumbers)
	case 3:
		p.Data = ""
	case 4:
		p.Data = s.text(1501 - p.From)
	case 5, 6, 7, 8:
		p.Last = !p.Last
	case 9:
		p.Data += "x"
	}
	return p
}

// TestReceiverAsSpoken: whatever comes.
func TestReceiverAsSpoken(t *testing.T) {
	for turn := range 200 {
		from := source(turn)
		window := 1 + turn%32
		r, spoken := newReceiver(t, window), &spokenReceiver{window, 0, map[int]map[int]byte{}, map[int]int{}}
		longest := pick(&from, []int{1, 2, 4, 9, 30})
		for range 400 {
			p := from.piece(spoken, longest)
			want, wantErr := spoken.take(p)
			if wantErr != api.OK {
				takeIs(t, r, p, wantErr)
			} else {
				takes(t, r, p, want...)
			}
			x := spoken.report()
			reports(t, r, x.Next, x.Missing...)
			if t.Failed() {
				t.Fatalf("window %d", window)
			}
		}
	}
}
