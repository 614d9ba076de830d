package repeat_test

import (
	"slices"
	"testing"

	"roamwave/api"
	"roamwave/repeat"
)

// late is a piece, or a report, under way, with the unit that it is of, or that is next, numbered without end.
type late[T any] struct {
	unit int
	what T
}

// pair of a sender and a receiver, and what was told so far of what was submitted.
type pair struct {
	t         *testing.T
	s         *repeat.Sender
	r         *repeat.Receiver
	submitted []string
	told      []string
	pieces    []late[api.Piece]
	reports   []late[api.Report]
}

// nearest unit to one that has a number: at most 32 ahead of it, or less behind.
func nearest(unit, number int) int {
	return unit + (number-unit%64+64+32)%64 - 32
}

// take a piece, unless it is older than 32 units; what is told must be what was submitted next.
func (x *pair) take(p late[api.Piece]) {
	x.t.Helper()
	if len(x.told)-p.unit > 32 {
		return
	}
	l, err := x.r.Take(p.what)
	if err != api.OK && err != api.ErrOld {
		x.t.Fatalf("Take of %#v: %v", p.what, err)
	}
	x.told = append(x.told, l...)
	if len(x.told) > len(x.submitted) || !slices.Equal(x.told, x.submitted[:len(x.told)]) {
		x.t.Fatalf("told %q of %q", x.told, x.submitted)
	}
}

// hear a report, unless units that were done with since have its number again.
func (x *pair) hear(r late[api.Report]) {
	x.t.Helper()
	begin := len(x.submitted) - x.s.Waiting()
	if begin-r.unit > 31 {
		return
	}
	if err := x.s.Take(r.what); err != api.OK && err != api.ErrForm {
		x.t.Fatalf("Take of %#v: %v", r.what, err)
	}
}

// send a piece: it is lost, or under way, perhaps twice.
func (x *pair) send(from *source, size, lost int) {
	x.t.Helper()
	p, err := x.s.Next(size)
	if err == api.ErrAbsent || from.often(lost) {
		return
	}
	for range 1 + from.below(2) {
		x.pieces = append(x.pieces, late[api.Piece]{nearest(len(x.told), p.Number), p})
	}
}

// report what is missing: that is lost too, or under way.
func (x *pair) report(from *source, lost int) {
	if r := x.r.Report(); !from.often(lost) {
		x.reports = append(x.reports, late[api.Report]{nearest(len(x.told), r.Next), r})
	}
}

// arrive: any of what is under way, in any order.
func arrive[T any](from *source, l *[]late[T], take func(late[T])) {
	for len(*l) > 0 && from.often(7) {
		i := from.below(len(*l))
		take((*l)[i])
		if from.often(8) {
			*l = slices.Delete(*l, i, i+1)
		}
	}
}

// settle sends and reports without loss, over and over, until all that was submitted is told and done.
func (x *pair) settle(size int) {
	x.t.Helper()
	for range 2*len(x.submitted) + 2 {
		for _, p := range sendAll(x.t, x.s, size) {
			x.take(late[api.Piece]{nearest(len(x.told), p.Number), p})
		}
		if err := x.s.Take(x.r.Report()); err != api.OK {
			x.t.Fatal(err)
		}
	}
	if !slices.Equal(x.told, x.submitted) || x.s.Waiting() != 0 {
		x.t.Fatalf("told %d of %d, %d wait", len(x.told), len(x.submitted), x.s.Waiting())
	}
}

// submit a unit, if there is room for it.
func (x *pair) submit(unit string) {
	if x.s.Submit(unit) == api.OK {
		x.submitted = append(x.submitted, unit)
	}
}

func newPair(t *testing.T, sends, takes int) *pair {
	t.Helper()
	return &pair{t: t, s: newSender(t, sends), r: newReceiver(t, takes)}
}

// TestExactlyOnceInOrder: through losses, doubling, turning about, lost and late reports; and then without loss all of it.
func TestExactlyOnceInOrder(t *testing.T) {
	for turn := range 300 {
		from := source(turn)
		x := newPair(t, pick(&from, []int{1, 2, 8, 31, 32}), pick(&from, []int{1, 2, 8, 31, 32}))
		lost, longest, size := from.below(8), 1+from.below(30), 1+from.below(12)
		for range 1500 {
			if from.often(1) {
				x.submit(from.text(1 + from.below(longest)))
			}
			x.send(&from, size, lost)
			if from.often(3) {
				x.report(&from, lost)
			}
			arrive(&from, &x.pieces, x.take)
			arrive(&from, &x.reports, x.hear)
		}
		x.settle(size)
	}
}

// TestWithoutLoss: each unit of each window is told, in pieces of each size.
func TestWithoutLoss(t *testing.T) {
	var from source = 4
	for _, sends := range []int{1, 2, 7, 32} {
		for _, takes := range []int{1, 2, 7, 32} {
			for _, size := range []int{1, 2, 12, 100, 1500} {
				x := newPair(t, sends, takes)
				for range 2 {
					for range 64 {
						x.submit(from.text(1 + from.below(40)))
					}
					x.settle(size)
				}
				x.submit(from.text(1500))
				x.settle(size)
				if len(x.told) != 129 {
					t.Fatalf("windows %d and %d, size %d: told %d", sends, takes, size, len(x.told))
				}
			}
		}
	}
}

// TestAllIsLostAtFirst: nothing is left to be sent then, until a report says that nothing came.
func TestAllIsLostAtFirst(t *testing.T) {
	x := newPair(t, 4, 4)
	for _, unit := range []string{"one", "two", "three", "four", "five"} {
		x.submit(unit)
	}
	for range 3 {
		if l := sendAll(t, x.s, 3); len(l) != 6 {
			t.Fatalf("sent %v", l)
		}
		nextIs(t, x.s, 3, api.ErrAbsent)
		hears(t, x.s, api.OK, 0)
	}
	x.settle(3)
}
