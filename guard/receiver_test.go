package guard_test

import (
	"math"
	"strings"
	"testing"

	"roamwave/api"
)

func TestNewReceiverHasNothing(t *testing.T) {
	for _, key := range keys {
		r := newReceiver(t, key)
		counts(t, r, 0)
		flushes(t, r)
		counts(t, r, 0)
		takes(t, r, packet(t, key, 0, "first"), "first")
		counts(t, r, 1)
	}
}

// TestTakeSizes: all data that may be sent, as it was.
func TestTakeSizes(t *testing.T) {
	var from source = 3
	r := newReceiver(t, 12)
	for count, n := range []int{0, 1, 2, 3, 4, 255, 256, 499, 500} {
		data := from.text(n)
		takes(t, r, packet(t, 12, count, data), data)
		counts(t, r, count+1)
	}
}

// TestToldInOrder: what is there waits for what is ahead of it, and is told together with it.
func TestToldInOrder(t *testing.T) {
	r := newReceiver(t, 4)
	takes(t, r, packet(t, 4, 3, "d"))
	takes(t, r, packet(t, 4, 1, "b"))
	counts(t, r, 0)
	takes(t, r, packet(t, 4, 0, "a"), "a", "b")
	counts(t, r, 2)
	takes(t, r, packet(t, 4, 5, ""))
	takes(t, r, packet(t, 4, 2, "c"), "c", "d")
	counts(t, r, 4)
	takes(t, r, packet(t, 4, 4, "e"), "e", "")
	counts(t, r, 6)
}

// TestOnce: neither what was told nor what is there is taken again, also if it has other data now.
func TestOnce(t *testing.T) {
	r := newReceiver(t, 4)
	takes(t, r, packet(t, 4, 0, "a"), "a")
	takes(t, r, packet(t, 4, 2, "c"))
	for _, data := range []string{"a", "c", "", "other"} {
		takeIs(t, r, packet(t, 4, 0, data), api.ErrOld)
		takeIs(t, r, packet(t, 4, 2, data), api.ErrThere)
	}
	counts(t, r, 1)
	takes(t, r, packet(t, 4, 1, "b"), "b", "c")
	takeIs(t, r, packet(t, 4, 2, "c"), api.ErrOld)
}

// TestNearestCount: of those with a Short the one from 2048 below first up to 2047 above it, told by what is said of packets that have its count.
func TestNearestCount(t *testing.T) {
	for _, first := range []int{2048, 2049, 4095, 4096, 4097, 6143, 6144, 6145, 8191, 8192, 100000} {
		r := receiverAt(t, 7, first)
		for count := first - 2048; count < first; count++ {
			takeIs(t, r, packet(t, 7, count, "x"), api.ErrOld)
		}
		for count := first + 1; count < first+2048; count++ {
			takes(t, r, packet(t, 7, count, "x"))
		}
		for _, count := range []int{first - 4096, first - 2049, first + 2048, first + 2049, first + 4096} {
			if count >= 0 {
				takeIs(t, r, packet(t, 7, count, "x"), api.ErrSum)
			}
		}
		counts(t, r, first)
		if l, err := r.Take(packet(t, 7, first, "y")); len(l) != 2048 || l[0] != "y" || l[2047] != "x" || err != api.OK {
			t.Errorf("at %d: told %d, %v", first, len(l), err)
		}
		counts(t, r, first+2048)
	}
}

// TestCountsBelowNought are of no packet, whatever its seal is.
func TestCountsBelowNought(t *testing.T) {
	for _, first := range []int{0, 1, 2, 2046, 2047} {
		r := receiverAt(t, 7, first)
		for short := first + 2048; short < 4096; short++ {
			takeIs(t, r, packet(t, 7, short, "x"), api.ErrForm)
			takeIs(t, r, api.Packet{Short: short, Seal: "abc", Data: "x"}, api.ErrForm)
		}
		takeIs(t, r, api.Packet{Short: first + 2047, Seal: "abc", Data: "x"}, api.ErrSum)
		takes(t, r, packet(t, 7, first+2047, "x"))
		if first > 0 {
			takeIs(t, r, packet(t, 7, 0, "x"), api.ErrOld)
		}
		counts(t, r, first)
	}
}

// TestLastCounts: behind 2^24 - 1 there is none.
func TestLastCounts(t *testing.T) {
	const end = 1 << 24
	r := receiverAt(t, 7, end-2048)
	takes(t, r, packet(t, 7, end-1, "z"))
	flushes(t, r, "z")
	counts(t, r, end)
	r = receiverAt(t, 7, end-2047)
	takeIs(t, r, packet(t, 7, 0, "x"), api.ErrForm)
	takes(t, r, packet(t, 7, end-1, "z"))
	takeIs(t, r, packet(t, 7, end-1, "z"), api.ErrThere)
	takeIs(t, r, packet(t, 7, end-4095, "x"), api.ErrOld)
	flushes(t, r, "z")
	r = receiverAt(t, 7, end-1)
	takeIs(t, r, packet(t, 7, end-2, "y"), api.ErrOld)
	takes(t, r, packet(t, 7, end-1, "z"), "z")
	for range 2 {
		counts(t, r, end)
		for short := range 2048 {
			takeIs(t, r, packet(t, 7, short, "x"), api.ErrForm)
			takeIs(t, r, packet(t, 7, end-2048+short, "x"), api.ErrOld)
		}
		flushes(t, r)
	}
}

// wrongPackets of any receiver.
func wrongPackets(p api.Packet) []api.Packet {
	var l []api.Packet
	for _, short := range []int{-1, -2, -4096, -4095, 4096, 4097, 8192, 1 << 16, 1 << 24, 1 << 31, 1 << 32, -1 << 32, math.MaxInt, math.MaxInt - 4095, math.MinInt, math.MinInt + 1} {
		l = append(l, api.Packet{Short: short, Data: p.Data, Seal: p.Seal})
	}
	for _, seal := range []string{"", "a", "ab", "abcd", p.Seal[:2], p.Seal + "\x00", p.Seal + p.Seal, strings.Repeat("x", 1<<16)} {
		l = append(l, api.Packet{Short: p.Short, Data: p.Data, Seal: seal})
	}
	for _, n := range []int{501, 502, 512, 513, 1500, 1 << 16, 1 << 20} {
		l = append(l, api.Packet{Short: p.Short, Data: strings.Repeat("x", n), Seal: p.Seal})
	}
	return l
}

func TestWrongPackets(t *testing.T) {
	for _, first := range []int{0, 1, 3000, 4096} {
		r := receiverAt(t, 7, first)
		takes(t, r, packet(t, 7, first+1, "there"))
		right := packet(t, 7, first, "right")
		for _, p := range wrongPackets(right) {
			if l, err := r.Take(p); l != nil || err != api.ErrForm {
				t.Errorf("at %d: Take of Short %d, %d and %d bytes: %q, %v", first, p.Short, len(p.Data), len(p.Seal), l, err)
			}
			counts(t, r, first)
		}
		takes(t, r, right, "right", "there")
	}
}

// TestEachTurnedBitIsSeen: of the data, of the seal, and of the Short, before it is asked whether the count is old, or there.
func TestEachTurnedBitIsSeen(t *testing.T) {
	var from source = 4
	r := receiverAt(t, 7, 3000)
	takes(t, r, packet(t, 7, 3001, "there"))
	for _, count := range []int{2999, 3000, 3001, 3002} {
		p := packet(t, 7, count, from.text(40))
		for place := range 8 * len(p.Data) {
			takeIs(t, r, api.Packet{Short: p.Short, Data: turned(p.Data, place), Seal: p.Seal}, api.ErrSum)
		}
		for place := range 24 {
			takeIs(t, r, api.Packet{Short: p.Short, Data: p.Data, Seal: turned(p.Seal, place)}, api.ErrSum)
		}
		for short := range 4096 {
			if short != p.Short {
				takeIs(t, r, api.Packet{Short: short, Data: p.Data, Seal: p.Seal}, api.ErrSum)
			}
		}
		for n := range len(p.Data) {
			takeIs(t, r, api.Packet{Short: p.Short, Data: p.Data[:n], Seal: p.Seal}, api.ErrSum)
		}
	}
	counts(t, r, 3000)
	flushes(t, r, "there")
}

// turned is a text with one bit of it turned.
func turned(s string, place int) string {
	b := []byte(s)
	b[place/8] ^= 1 << (place % 8)
	return string(b)
}

// TestFlush tells all that is there, rising, and goes on behind it.
func TestFlush(t *testing.T) {
	r := newReceiver(t, 4)
	for _, count := range []int{9, 3, 7, 2, 2047, 4, 500} {
		takes(t, r, packet(t, 4, count, string(rune('a'+count%26))))
	}
	flushes(t, r, "c", "d", "e", "h", "j", "g", "t")
	counts(t, r, 2048)
	flushes(t, r)
	counts(t, r, 2048)
	for count := range 2048 {
		takeIs(t, r, packet(t, 4, count, "x"), api.ErrOld)
	}
	takes(t, r, packet(t, 4, 2049, "late"))
	takes(t, r, packet(t, 4, 2048, "early"), "early", "late")
	takes(t, r, packet(t, 4, 2051, "gap"))
	flushes(t, r, "gap")
	counts(t, r, 2052)
	takeIs(t, r, packet(t, 4, 2050, "lost"), api.ErrOld)
}

// TestFlushOfAll that may be there at a time.
func TestFlushOfAll(t *testing.T) {
	for _, first := range []int{0, 1, 5000} {
		r := receiverAt(t, 4, first)
		for i := 2047; i > 0; i-- {
			takes(t, r, packet(t, 4, first+i, string([]byte{byte(i >> 8), byte(i)})))
		}
		l := r.Flush()
		if len(l) != 2047 {
			t.Fatalf("told %d", len(l))
		}
		for i, data := range l {
			if data != string([]byte{byte((i + 1) >> 8), byte(i + 1)}) {
				t.Fatalf("told %q at %d", data, i)
			}
		}
		counts(t, r, first+2048)
	}
}

// TestMoveOfAReceiver: what comes from now on is by the new key; what is there stays.
func TestMoveOfAReceiver(t *testing.T) {
	r := newReceiver(t, 1)
	takes(t, r, packet(t, 1, 0, "zero"), "zero")
	takes(t, r, packet(t, 1, 2, "two and two"))
	rekeys(t, r, 2, api.OK)
	counts(t, r, 1)
	for count, data := range []string{"zero", "one and one", "two and two", "three and three"} {
		takeIs(t, r, packet(t, 1, count, data), api.ErrSum)
	}
	takeIs(t, r, packet(t, 2, 0, "zero"), api.ErrOld)
	takeIs(t, r, packet(t, 2, 2, "two and two"), api.ErrThere)
	takes(t, r, packet(t, 2, 1, "one and one"), "one and one", "two and two")
	takes(t, r, packet(t, 2, 4, "four and four"))
	rekeys(t, r, 1, api.OK)
	flushes(t, r, "four and four")
	takes(t, r, packet(t, 1, 5, "five"), "five")
}

// TestReceiverMovesToWrongKeys: nothing is changed.
func TestReceiverMovesToWrongKeys(t *testing.T) {
	r := newReceiver(t, 6)
	takes(t, r, packet(t, 6, 1, "there"))
	for _, key := range wrongKeys {
		rekeys(t, r, key, api.ErrArg)
	}
	takes(t, r, packet(t, 6, 0, "by the old key"), "by the old key", "there")
}

// TestOtherKeys: each of them is told from the receiver's own.
func TestOtherKeys(t *testing.T) {
	for _, own := range keys {
		r := newReceiver(t, own)
		for _, key := range keys {
			if key != own {
				takeIs(t, r, packet(t, key, 0, "by another key"), api.ErrSum)
			}
		}
		takes(t, r, packet(t, own, 0, "by its own"), "by its own")
	}
}
