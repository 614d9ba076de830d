package guard_test

import (
	"math"
	"slices"
	"strings"
	"testing"

	"roamwave/api"
)

// spokenSender does what P27 says, sentence by sentence; it keeps all data that ever was sent.
type spokenSender struct {
	t         *testing.T
	key       int
	sent      []string
	confirmed map[int]bool
}

func (s *spokenSender) send(data string) (api.Packet, api.Errno) {
	if len(data) > 500 {
		return api.Packet{}, api.ErrLarge
	}
	s.sent = append(s.sent, data)
	return packet(s.t, s.key, len(s.sent)-1, data), api.OK
}

func (s *spokenSender) confirm(count int) api.Errno {
	if count < 0 || count >= len(s.sent) {
		return api.ErrAbsent
	}
	for i := 0; i <= count; i++ {
		s.confirmed[i] = true
	}
	return api.OK
}

func (s *spokenSender) move(key int) ([]api.Packet, api.Errno) {
	if key < 0 || key > 1<<31-1 {
		return nil, api.ErrArg
	}
	s.key = key
	var l []api.Packet
	for count, data := range s.sent {
		if !s.confirmed[count] {
			l = append(l, packet(s.t, key, count, data))
		}
	}
	return l, api.OK
}

// key, mostly one that may be.
func (s *source) key() int {
	if s.often(2) {
		return pick(s, wrongKeys)
	}
	if s.often(5) {
		return pick(s, keys)
	}
	return s.below(1 << 31)
}

// data, mostly short.
func (s *source) data() string {
	switch s.below(30) {
	case 0:
		return s.text(490 + s.below(11))
	case 1:
		return strings.Repeat("x", 501+s.below(3))
	}
	return s.text(s.below(12))
}

// TestSenderAsSpoken: whatever is sent and confirmed, and wherever it moves.
func TestSenderAsSpoken(t *testing.T) {
	for turn := range 60 {
		from := source(turn)
		first := pick(&from, keys)
		s, spoken := newSender(t, first), &spokenSender{t: t, key: first, confirmed: map[int]bool{}}
		for range 200 {
			switch from.below(10) {
			case 0, 1:
				count := len(spoken.sent) - from.below(12) + 2
				confirms(t, s, count, spoken.confirm(count))
			case 2:
				key := from.key()
				l, err := s.Move(key)
				if want, wantErr := spoken.move(key); !slices.Equal(l, want) || err != wantErr {
					t.Fatalf("turn %d: Move(%d): %#v, %v, want %#v, %v", turn, key, l, err, want, wantErr)
				}
			default:
				data := from.data()
				p, err := s.Send(data)
				if want, wantErr := spoken.send(data); p != want || err != wantErr {
					t.Fatalf("turn %d: Send(%q): %#v, %v, want %#v, %v", turn, data, p, err, want, wantErr)
				}
			}
		}
		if t.Failed() {
			t.Fatalf("turn %d", turn)
		}
	}
}

// spokenReceiver does what P28 says, sentence by sentence.
type spokenReceiver struct {
	t          *testing.T
	key, first int
	there      map[int]string
}

// count of a Short: each one that may be is held against it.
func (r *spokenReceiver) count(short int) int {
	for count := r.first - 2048; count < r.first+2048; count++ {
		if (count+4096)%4096 == short {
			return count
		}
	}
	r.t.Fatalf("no count has the Short %d", short)
	return 0
}

// plain data of a packet: noise is added once more. So is a seal made of it, by the tests' own packet.
func (r *spokenReceiver) plain(p api.Packet, count int) (data, seal string) {
	once := packet(r.t, r.key, count, p.Data).Data
	return once, packet(r.t, r.key, count, once).Seal
}

func (r *spokenReceiver) take(p api.Packet) ([]string, api.Errno) {
	if p.Short < 0 || p.Short > 4095 || len(p.Seal) != 3 || len(p.Data) > 500 {
		return nil, api.ErrForm
	}
	count := r.count(p.Short)
	if count < 0 || count > 1<<24-1 {
		return nil, api.ErrForm
	}
	data, seal := r.plain(p, count)
	if p.Seal != seal {
		return nil, api.ErrSum
	}
	if count < r.first {
		return nil, api.ErrOld
	}
	if _, there := r.there[count]; there {
		return nil, api.ErrThere
	}
	r.there[count] = data
	var told []string
	for {
		data, there := r.there[r.first]
		if !there {
			return told, api.OK
		}
		delete(r.there, r.first)
		told = append(told, data)
		r.first++
	}
}

func (r *spokenReceiver) flush() []string {
	var told []string
	for count := r.first; len(r.there) > 0; count++ {
		if data, there := r.there[count]; there {
			delete(r.there, count)
			told = append(told, data)
			r.first = count + 1
		}
	}
	return told
}

// packet to a receiver, often one that may be, near what it waits for.
func (s *source) packet(to *spokenReceiver) api.Packet {
	count := to.first + s.below(9) - 3
	switch s.below(12) {
	case 0:
		count = to.first + 2047 - s.below(4)
	case 1:
		count = to.first + 2048 + s.below(3)
	case 2:
		count = to.first - 2048 - s.below(3)
	case 3:
		count = to.first + s.below(4096) - 2048
	}
	key := to.key
	if s.below(20) == 0 {
		key = pick(s, keys)
	}
	p := packet(to.t, key, max(count, 0), s.text(s.below(20)))
	switch s.below(30) {
	case 0:
		p.Short = pick(s, []int{-1, -2, 4096, 4097, math.MaxInt, math.MinInt, p.Short + 4096, p.Short - 4096})
	case 1:
		p.Seal = pick(s, []string{"", "ab", "abc", "abcd", p.Seal + "x", p.Seal[1:]})
	case 2:
		p.Data = pick(s, []string{"", p.Data + "x", strings.Repeat("x", 500), strings.Repeat("x", 501)})
	case 3:
		p.Short = (p.Short + 1 + s.below(3)) % 4096
	}
	return p
}

// TestReceiverAsSpoken: whatever comes, at the beginning, on the way and at the end.
func TestReceiverAsSpoken(t *testing.T) {
	for turn := range 45 {
		from := source(turn)
		key, first := pick(&from, keys), []int{0, 1, 2000, 2048, 4090, 1<<24 - 2100, 1<<24 - 2048, 1<<24 - 20, 70000}[turn%9]
		r, spoken := receiverAt(t, key, first), &spokenReceiver{t, key, first, map[int]string{}}
		for range 300 {
			switch from.below(60) {
			case 0:
				flushes(t, r, spoken.flush()...)
			case 1:
				if key := from.key(); slices.Contains(wrongKeys, key) {
					rekeys(t, r, key, api.ErrArg)
				} else {
					rekeys(t, r, key, api.OK)
					spoken.key = key
				}
			default:
				p := from.packet(spoken)
				want, wantErr := spoken.take(p)
				if wantErr != api.OK {
					takeIs(t, r, p, wantErr)
				} else {
					takes(t, r, p, want...)
				}
			}
			counts(t, r, spoken.first)
			if t.Failed() {
				t.Fatalf("turn %d", turn)
			}
		}
	}
}
