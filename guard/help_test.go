package guard_test

import (
	"math"
	"slices"
	"testing"

	"roamwave/api"
	"roamwave/bits"
	"roamwave/guard"
)

// wrongKeys of senders and receivers.
var wrongKeys = []int{-1, -2, -5, -12345, -1 << 31, -1<<31 - 1, 1 << 31, 1<<31 + 5, 1<<32 - 1, 1 << 32, 1<<32 + 5, -1 << 32, 1 << 40,
	math.MaxInt, math.MaxInt - 1, math.MinInt, math.MinInt + 1}

// keys that may be, the edges among them, and those with which a seed goes round.
var keys = []int{0, 1, 2, 5, 9, 1<<24 - 1, 1 << 24, 1 << 30, 1<<31 - 12346, 1<<31 - 12345, 1<<31 - 12344, 1<<31 - 2, 1<<31 - 1}

// source of numbers that are mixed, but always the same.
type source uint64

func (s *source) below(n int) int {
	*s = *s*6364136223846793005 + 1442695040888963407
	return int(uint64(*s)>>33) % n
}

// often tells true so many times of ten.
func (s *source) often(times int) bool { return s.below(10) < times }

// text of so many bytes.
func (s *source) text(n int) string {
	d := make([]byte, n)
	for i := range d {
		d[i] = byte(s.below(256))
	}
	return string(d)
}

// pick one of a list.
func pick[T any](s *source, l []T) T { return l[s.below(len(l))] }

// good is what a call answers that can't go wrong here.
func good[T any](t *testing.T) func(T, api.Errno) T {
	return func(x T, err api.Errno) T {
		t.Helper()
		if err != api.OK {
			t.Fatal(err)
		}
		return x
	}
}

// packet of a count as P27 says it, bit by bit, so that receivers can be tried without a sender.
func packet(t *testing.T, key, count int, data string) api.Packet {
	t.Helper()
	plain := good[[]byte](t)(bits.Unpack(data, 8*len(data)))
	seed := (int64(key) + 48271*int64(count) + 12345) % (1 << 31)
	covered := good[[]byte](t)(bits.Noise(int(seed), len(plain)))
	for i := range covered {
		covered[i] = (covered[i] + plain[i]) % 2
	}
	var sealed []byte
	for place := 23; place >= 0; place-- {
		sealed = append(sealed, byte(count>>place&1))
	}
	sum := good[[]byte](t)(bits.Sum(append(sealed, plain...), api.Sum24))
	return api.Packet{Short: count % 4096, Data: good[string](t)(bits.Pack(covered)), Seal: good[string](t)(bits.Pack(sum))}
}

// newSender of a key that may be.
func newSender(t *testing.T, key int) *guard.Sender {
	t.Helper()
	s, err := guard.NewSender(key)
	if err != api.OK || s == nil {
		t.Fatalf("NewSender(%d): %v, %v", key, s, err)
	}
	return s
}

// newReceiver of a key that may be.
func newReceiver(t *testing.T, key int) *guard.Receiver {
	t.Helper()
	r, err := guard.NewReceiver(key)
	if err != api.OK || r == nil {
		t.Fatalf("NewReceiver(%d): %v, %v", key, r, err)
	}
	return r
}

// receiverAt this first count. It is not led there packet by packet: Flush leaves out those that did not come.
func receiverAt(t *testing.T, key, first int) *guard.Receiver {
	t.Helper()
	r := newReceiver(t, key)
	for r.Count() < first {
		last := min(r.Count()+2047, first-1)
		if _, err := r.Take(packet(t, key, last, "")); err != api.OK {
			t.Fatalf("Take of %d at %d: %v", last, r.Count(), err)
		}
		r.Flush()
	}
	counts(t, r, first)
	return r
}

// senderAt this count.
func senderAt(t *testing.T, key, count int) *guard.Sender {
	t.Helper()
	s := newSender(t, key)
	for i := range count {
		if _, err := s.Send(""); err != api.OK {
			t.Fatalf("Send of %d: %v", i, err)
		}
		confirms(t, s, i, api.OK)
	}
	return s
}

// sends fails unless a Send answers this packet.
func sends(t *testing.T, s *guard.Sender, data string, want api.Packet) {
	t.Helper()
	if p, err := s.Send(data); p != want || err != api.OK {
		t.Errorf("Send(%q): %#v, %v, want %#v", data, p, err, want)
	}
}

// sendIs fails unless a Send tells an error, and nothing else.
func sendIs(t *testing.T, s *guard.Sender, data string, want api.Errno) {
	t.Helper()
	if p, err := s.Send(data); p != (api.Packet{}) || err != want {
		t.Errorf("Send of %d bytes: %#v, %v, want %v", len(data), p, err, want)
	}
}

// confirms fails unless a Confirm tells this.
func confirms(t *testing.T, s *guard.Sender, count int, want api.Errno) {
	t.Helper()
	if err := s.Confirm(count); err != want {
		t.Errorf("Confirm(%d): %v, want %v", count, err, want)
	}
}

// moves fails unless a sender's Move answers these packets.
func moves(t *testing.T, s *guard.Sender, key int, want ...api.Packet) {
	t.Helper()
	if l, err := s.Move(key); !slices.Equal(l, want) || err != api.OK {
		t.Errorf("Move(%d): %#v, %v, want %#v", key, l, err, want)
	}
}

// takes fails unless this data is told when a packet is taken.
func takes(t *testing.T, r *guard.Receiver, p api.Packet, want ...string) {
	t.Helper()
	if l, err := r.Take(p); !slices.Equal(l, want) || err != api.OK {
		t.Errorf("Take of %#v: %q, %v, want %q", p, l, err, want)
	}
}

// takeIs fails unless a Take tells an error, and nothing else.
func takeIs(t *testing.T, r *guard.Receiver, p api.Packet, want api.Errno) {
	t.Helper()
	if l, err := r.Take(p); l != nil || err != want {
		t.Errorf("Take of %#v: %q, %v, want %v", p, l, err, want)
	}
}

// flushes fails unless a Flush tells this data.
func flushes(t *testing.T, r *guard.Receiver, want ...string) {
	t.Helper()
	if l := r.Flush(); !slices.Equal(l, want) {
		t.Errorf("Flush: %q, want %q", l, want)
	}
}

// counts fails unless this is the first count that was not told.
func counts(t *testing.T, r *guard.Receiver, want int) {
	t.Helper()
	if n := r.Count(); n != want {
		t.Errorf("Count: %d, want %d", n, want)
	}
}

// rekeys fails unless a receiver's Move tells this.
func rekeys(t *testing.T, r *guard.Receiver, key int, want api.Errno) {
	t.Helper()
	if err := r.Move(key); err != want {
		t.Errorf("Move(%d): %v, want %v", key, err, want)
	}
}
