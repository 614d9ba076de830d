package guard_test

import (
	"math"
	"strings"
	"testing"

	"roamwave/api"
	"roamwave/guard"
)

func TestWrongKeys(t *testing.T) {
	for _, key := range wrongKeys {
		if s, err := guard.NewSender(key); s != nil || err != api.ErrArg {
			t.Errorf("NewSender(%d): %v, %v", key, s, err)
		}
		if r, err := guard.NewReceiver(key); r != nil || err != api.ErrArg {
			t.Errorf("NewReceiver(%d): %v, %v", key, r, err)
		}
	}
}

// TestKnownPackets: computed apart from the program, by a script that follows the document's words (P4, P5 and P27), so without the layers beneath.
func TestKnownPackets(t *testing.T) {
	for _, x := range []struct {
		key, count int
		data       string
		want       api.Packet
	}{
		{5, 0, "one", api.Packet{Short: 0, Data: "\x49\xb2\xc4", Seal: "\x2f\x57\x85"}},
		{5, 1, "two", api.Packet{Short: 1, Data: "\x02\xfe\x55", Seal: "\x04\x43\xe3"}},
		{0, 0, "", api.Packet{Short: 0, Data: "", Seal: "\x00\x00\x00"}},
		{0, 0, "\x00\x00\x00\x00", api.Packet{Short: 0, Data: "\x66\x63\xf4\xd0", Seal: "\x00\x00\x00"}},
		{1<<31 - 1, 0, "hello", api.Packet{Short: 0, Data: "\x0e\x9f\x89\xb2\x79", Seal: "\xe4\x4e\x70"}},
		{1<<31 - 12345, 0, "hello", api.Packet{Short: 0, Data: "\x6a\x7f\x7e\x16\x4a", Seal: "\xe4\x4e\x70"}},
		{1<<31 - 12346, 0, "hello", api.Packet{Short: 0, Data: "\x95\x6e\x9f\xe2\x41", Seal: "\xe4\x4e\x70"}},
		{9, 4095, "edge", api.Packet{Short: 4095, Data: "\x5a\xaa\x34\xdf", Seal: "\x12\xf8\x7a"}},
		{9, 4096, "edge", api.Packet{Short: 0, Data: "\x6e\x76\xea\xc5", Seal: "\x9b\xa5\x93"}},
		{9, 4097, "", api.Packet{Short: 1, Data: "", Seal: "\xf7\x8b\x97"}},
		{9, 44488, "wrap", api.Packet{Short: 3528, Data: "\x48\xbc\xfe\xa4", Seal: "\xcb\xfe\xe1"}},
	} {
		sends(t, senderAt(t, x.key, x.count), x.data, x.want)
		if p := packet(t, x.key, x.count, x.data); p != x.want {
			t.Errorf("the tests' own packet of %d, %d, %q is %#v, want %#v", x.key, x.count, x.data, p, x.want)
		}
	}
	last := api.Packet{Short: 4095, Data: "\x98\x03\xb9\x9e", Seal: "\xc9\x63\x2e"}
	if p := packet(t, 0x12345678, 1<<24-1, "last"); p != last {
		t.Errorf("the tests' own last packet is %#v, want %#v", p, last)
	}
}

func TestSendSizes(t *testing.T) {
	var from source = 1
	s := newSender(t, 77)
	count := 0
	for _, n := range []int{0, 1, 2, 3, 4, 255, 256, 499, 500} {
		for _, wrong := range []int{501, 502, 512, 1000, 1500, 1501, 1 << 16, 1 << 20} {
			sendIs(t, s, strings.Repeat("x", wrong), api.ErrLarge)
		}
		data := from.text(n)
		sends(t, s, data, packet(t, 77, count, data))
		count++
	}
	confirms(t, s, count, api.ErrAbsent)
	confirms(t, s, count-1, api.OK)
}

func TestSendByKeys(t *testing.T) {
	var from source = 2
	for _, key := range keys {
		s := newSender(t, key)
		for count := range 20 {
			data := from.text(from.below(30))
			sends(t, s, data, packet(t, key, count, data))
		}
	}
}

// TestCountsGoOn beyond the shorts, confirmed or not.
func TestCountsGoOn(t *testing.T) {
	for _, confirm := range []bool{false, true} {
		s := newSender(t, 3)
		for count := range 3*4096 + 2 {
			sends(t, s, "ab", packet(t, 3, count, "ab"))
			confirms(t, s, count+1, api.ErrAbsent)
			if confirm && count%7 == 0 {
				confirms(t, s, count, api.OK)
			}
		}
	}
}

func TestConfirmOfWhatWasNotSent(t *testing.T) {
	s := newSender(t, 5)
	wrong := []int{-1, -2, -4096, math.MinInt, math.MinInt32, math.MaxInt32, math.MaxInt, 1 << 24, 1<<24 - 1, 4096, 1 << 32, -1 << 32}
	for sent := range 4 {
		for _, count := range append([]int{sent, sent + 1}, wrong...) {
			confirms(t, s, count, api.ErrAbsent)
		}
		sends(t, s, "data", packet(t, 5, sent, "data"))
	}
	moves(t, s, 5, packet(t, 5, 0, "data"), packet(t, 5, 1, "data"), packet(t, 5, 2, "data"), packet(t, 5, 3, "data"))
}

// TestConfirmUpTo: the one that is named and all ahead of it; one that was confirmed already changes nothing.
func TestConfirmUpTo(t *testing.T) {
	data := []string{"zero", "one", "two", "three", "four", "five"}
	for first := range data {
		for second := range data {
			s := newSender(t, 8)
			for i, d := range data {
				sends(t, s, d, packet(t, 8, i, d))
			}
			confirms(t, s, first, api.OK)
			confirms(t, s, second, api.OK)
			confirms(t, s, first, api.OK)
			confirms(t, s, 0, api.OK)
			confirms(t, s, len(data), api.ErrAbsent)
			var want []api.Packet
			for i := max(first, second) + 1; i < len(data); i++ {
				want = append(want, packet(t, 4, i, data[i]))
			}
			moves(t, s, 4, want...)
			sends(t, s, "six", packet(t, 4, 6, "six"))
			confirms(t, s, 5, api.OK)
			moves(t, s, 6, packet(t, 6, 6, "six"))
		}
	}
}

// TestMoveOfASender: what is not confirmed is made anew by the key of now, however many there were; what is sent later too.
func TestMoveOfASender(t *testing.T) {
	s := newSender(t, 1)
	moves(t, s, 2)
	sends(t, s, "one", packet(t, 2, 0, "one"))
	sends(t, s, "", packet(t, 2, 1, ""))
	moves(t, s, 3, packet(t, 3, 0, "one"), packet(t, 3, 1, ""))
	sends(t, s, "three", packet(t, 3, 2, "three"))
	moves(t, s, 3, packet(t, 3, 0, "one"), packet(t, 3, 1, ""), packet(t, 3, 2, "three"))
	confirms(t, s, 0, api.OK)
	moves(t, s, 1<<31-1, packet(t, 1<<31-1, 1, ""), packet(t, 1<<31-1, 2, "three"))
	confirms(t, s, 2, api.OK)
	moves(t, s, 0)
	sends(t, s, "four", packet(t, 0, 3, "four"))
	moves(t, s, 0, packet(t, 0, 3, "four"))
}

// TestMoveToWrongKeys changes nothing.
func TestMoveToWrongKeys(t *testing.T) {
	s := newSender(t, 6)
	sends(t, s, "one", packet(t, 6, 0, "one"))
	for i, key := range wrongKeys {
		if l, err := s.Move(key); l != nil || err != api.ErrArg {
			t.Errorf("Move(%d): %#v, %v", key, l, err)
		}
		sends(t, s, "more", packet(t, 6, i+1, "more"))
	}
	confirms(t, s, len(wrongKeys)-1, api.OK)
	moves(t, s, 7, packet(t, 7, len(wrongKeys), "more"))
}

// TestMoveOfMany: all of them, far more than there are shorts.
func TestMoveOfMany(t *testing.T) {
	s := newSender(t, 1)
	for range 10000 {
		if _, err := s.Send("x"); err != api.OK {
			t.Fatal(err)
		}
	}
	confirms(t, s, 99, api.OK)
	var want []api.Packet
	for count := 100; count < 10000; count++ {
		want = append(want, packet(t, 2, count, "x"))
	}
	moves(t, s, 2, want...)
}
