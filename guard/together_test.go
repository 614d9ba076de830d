package guard_test

import (
	"slices"
	"testing"

	"roamwave/api"
	"roamwave/guard"
)

// late is a packet under way, with its count.
type late struct {
	count int
	what  api.Packet
}

// pair of a sender and a receiver, of what was sent, and of what was told of it, by its counts.
type pair struct {
	t    *testing.T
	key  int
	s    *guard.Sender
	r    *guard.Receiver
	sent []string
	told []int
	way  []late
}

func newPair(t *testing.T, key int) *pair {
	t.Helper()
	return &pair{t: t, key: key, s: newSender(t, key), r: newReceiver(t, key)}
}

// send data: it is lost, or under way, perhaps twice.
func (x *pair) send(from *source, lost int) {
	x.t.Helper()
	// The count stands in the data too, so that what is told says of itself whose it is.
	count := len(x.sent)
	data := string([]byte{byte(count >> 16), byte(count >> 8), byte(count)}) + from.text(from.below(6))
	p := good[api.Packet](x.t)(x.s.Send(data))
	x.sent = append(x.sent, data)
	for range 1 + from.below(2) {
		if !from.often(lost) {
			x.way = append(x.way, late{count, p})
		}
	}
}

// tell what a receiver told: each count above the last one, with the data that it was sent with.
func (x *pair) tell(l []string) {
	x.t.Helper()
	for _, data := range l {
		count := int(data[0])<<16 | int(data[1])<<8 | int(data[2])
		if count >= len(x.sent) || data != x.sent[count] {
			x.t.Fatalf("told %q, which was not sent", data)
		}
		if n := len(x.told); n > 0 && x.told[n-1] >= count {
			x.t.Fatalf("told %d behind %d", count, x.told[n-1])
		}
		x.told = append(x.told, count)
	}
}

// take a packet, unless it is older than 2048 counts, or too far ahead for its Short to tell.
func (x *pair) take(p late) {
	x.t.Helper()
	first := x.r.Count()
	if p.count < first-2048 || p.count >= first+2048 {
		return
	}
	l, err := x.r.Take(p.what)
	if err != api.OK && err != api.ErrOld && err != api.ErrThere {
		x.t.Fatalf("Take of %d at %d: %v", p.count, first, err)
	}
	if old := p.count < first; old != (err == api.ErrOld) {
		x.t.Fatalf("Take of %d at %d: %v", p.count, first, err)
	}
	x.tell(l)
}

// arrive: any of what is under way, in any order; some of it is sent again by somebody.
func (x *pair) arrive(from *source) {
	x.t.Helper()
	for len(x.way) > 0 && from.often(7) {
		i := from.below(len(x.way))
		x.take(x.way[i])
		if from.often(8) {
			x.way = slices.Delete(x.way, i, i+1)
		}
	}
}

// move both to another key, as a handover does: what is told is confirmed, what was sent and is not comes again.
func (x *pair) move(from *source) {
	x.t.Helper()
	if first := x.r.Count(); first > 0 && from.often(8) {
		confirms(x.t, x.s, first-1-from.below(min(first, 3)), api.OK)
	}
	x.key = from.below(1 << 31)
	rekeys(x.t, x.r, x.key, api.OK)
	again := good[[]api.Packet](x.t)(x.s.Move(x.key))
	// By another key than the receiver's: all that was under way is lost.
	x.way = nil
	for i, p := range again {
		x.way = append(x.way, late{len(x.sent) - len(again) + i, p})
	}
}

// settle: all that Move of the sender says comes, in any order; then all that was sent is told, each once, in order.
func (x *pair) settle(from *source) {
	x.t.Helper()
	x.move(from)
	for len(x.way) > 0 {
		i := from.below(len(x.way))
		x.take(x.way[i])
		x.way = slices.Delete(x.way, i, i+1)
	}
	if len(x.told) != len(x.sent) || x.r.Count() != len(x.sent) {
		x.t.Fatalf("told %d of %d, Count %d", len(x.told), len(x.sent), x.r.Count())
	}
}

// TestEachOnceInOrder: through losses, doubling, turning about and handovers all that was sent is told.
func TestEachOnceInOrder(t *testing.T) {
	for turn := range 60 {
		from := source(turn)
		x := newPair(t, pick(&from, keys))
		lost := from.below(10)
		for range 400 {
			x.send(&from, lost)
			x.arrive(&from)
			if from.below(60) == 0 {
				x.move(&from)
			}
		}
		x.settle(&from)
	}
}

// TestAtMostOnceWithFlush: what is flushed away is not told later; all else holds still.
func TestAtMostOnceWithFlush(t *testing.T) {
	for turn := range 60 {
		from := source(turn)
		x := newPair(t, pick(&from, keys))
		lost := from.below(8)
		for range 400 {
			x.send(&from, lost)
			x.arrive(&from)
			switch from.below(60) {
			case 0:
				x.tell(x.r.Flush())
			case 1:
				x.move(&from)
			}
		}
		for _, p := range x.way {
			x.take(p)
		}
		x.tell(x.r.Flush())
		if n := len(x.told); n == 0 || x.r.Count() != x.told[n-1]+1 {
			t.Fatalf("turn %d: told %v, Count %d", turn, x.told, x.r.Count())
		}
	}
}

// TestLongWay: many thousand packets, so that their Shorts go round.
func TestLongWay(t *testing.T) {
	var from source = 5
	x := newPair(t, 31)
	for range 15000 {
		x.send(&from, 0)
		x.arrive(&from)
		if len(x.way) > 1000 {
			for _, p := range x.way {
				x.take(p)
			}
			x.way = nil
		}
	}
	for _, p := range x.way {
		x.take(p)
	}
	if len(x.told) != 15000 {
		t.Errorf("told %d", len(x.told))
	}
}
