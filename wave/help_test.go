package wave_test

import (
	"math"
	"slices"
	"testing"

	"roamwave/api"
	"roamwave/wave"
)

// orders that there are.
var orders = []int{2, 4, 6}

// wrongOrders are none.
var wrongOrders = []int{0, 1, 3, 5, 7, 8, 10, 12, 256, 258, -1, -2, -4, -6, 1<<32 + 2, 1<<32 + 6,
	math.MaxInt32, math.MinInt32, math.MaxInt, math.MaxInt - 1, math.MinInt, math.MinInt + 2, math.MinInt + 6}

// wrongHeights are neither an I nor a Q that may be heard.
var wrongHeights = []int{1001, -1001, 1002, -1002, 65536, -65536, 1 << 32, -1 << 32,
	math.MaxInt32, math.MinInt32, math.MaxInt, math.MaxInt - 7, math.MinInt, math.MinInt + 1}

// list of bits of a text of the digits 0 and 1; blanks are for the reader.
func list(s string) []byte {
	b := []byte{}
	for _, c := range s {
		if c != ' ' {
			b = append(b, byte(c-'0'))
		}
	}
	return b
}

// text is for telling bits.
func text(b []byte) string {
	t := make([]byte, len(b))
	for i, x := range b {
		t[i] = x + '0'
	}
	return string(t)
}

// source of numbers that are mixed, but always the same.
type source uint64

func (s *source) below(n int) int {
	*s = *s*6364136223846793005 + 1442695040888963407
	return int(uint64(*s)>>33) % n
}

func (s *source) bits(n int) []byte {
	b := make([]byte, n)
	for i := range b {
		b[i] = byte(s.below(2))
	}
	return b
}

// points that are at most so far from 0.
func (s *source) points(n, most int) []api.Point {
	l := make([]api.Point, n)
	for i := range l {
		l[i] = api.Point{I: s.below(2*most+1) - most, Q: s.below(2*most+1) - most}
	}
	return l
}

// withByte is n bits 0, but for one byte at a place.
func withByte(n, place int, x byte) []byte {
	b := make([]byte, n)
	b[place] = x
	return b
}

// withPoint is n points {0, 0}, but for one at a place.
func withPoint(n, place int, p api.Point) []api.Point {
	l := make([]api.Point, n)
	l[place] = p
	return l
}

// spokenPoint of one point's bits, as the chapter spells it.
func spokenPoint(b []byte) api.Point {
	var s [6]int
	for i, x := range b {
		s[i] = 1 - 2*int(x)
	}
	switch len(b) {
	case 2:
		return api.Point{I: s[0], Q: s[1]}
	case 4:
		return api.Point{I: s[0] * (2 - s[2]), Q: s[1] * (2 - s[3])}
	}
	return api.Point{I: s[0] * (4 - s[2]*(2-s[4])), Q: s[1] * (4 - s[3]*(2-s[5]))}
}

// star is a point of a constellation, and its bits.
type star struct {
	bits  []byte
	point api.Point
}

// sky is a whole constellation, 0 ahead of 1 from the first bit on.
func sky(order int) []star {
	lists := [][]byte{{}}
	for range order {
		var longer [][]byte
		for _, b := range lists {
			longer = append(longer, append(slices.Clone(b), 0), append(slices.Clone(b), 1))
		}
		lists = longer
	}
	var stars []star
	for _, b := range lists {
		stars = append(stars, star{b, spokenPoint(b)})
	}
	return stars
}

func distance(p, q api.Point) int {
	return (p.I-q.I)*(p.I-q.I) + (p.Q-q.Q)*(p.Q-q.Q)
}

// leastWith is the least square of the distance to a star with a bit at a place.
func leastWith(stars []star, p api.Point, place int, bit byte) int {
	least := -1
	for _, s := range stars {
		if d := distance(p, s.point); s.bits[place] == bit && (least < 0 || d < least) {
			least = d
		}
	}
	return least
}

// spokenHear looks at all stars for each bit of a point.
func spokenHear(stars []star, p api.Point) []int {
	var soft []int
	for place := range stars[0].bits {
		soft = append(soft, leastWith(stars, p, place, 1)-leastWith(stars, p, place, 0))
	}
	return soft
}

// spokenNear is the bits of the first star to which none is nearer.
func spokenNear(stars []star, p api.Point) []byte {
	best := stars[0]
	for _, s := range stars {
		if distance(p, s.point) < distance(p, best.point) {
			best = s
		}
	}
	return best.bits
}

// send what may be sent.
func send(t *testing.T, b []byte, order int) []api.Point {
	t.Helper()
	l, err := wave.Send(b, order)
	if err != api.OK || len(l)*order != len(b) {
		t.Fatalf("Send(%s, %d): %v, %v", text(b), order, l, err)
	}
	return l
}

// hear what may be heard.
func hear(t *testing.T, l []api.Point, order int) []int {
	t.Helper()
	soft, err := wave.Hear(l, order)
	if err != api.OK || len(soft) != len(l)*order {
		t.Fatalf("Hear(%v, %d): %v, %v", l, order, soft, err)
	}
	return soft
}

// near is the bits of what may be heard.
func near(t *testing.T, l []api.Point, order int) []byte {
	t.Helper()
	b, err := wave.Near(l, order)
	if err != api.OK || len(b) != len(l)*order {
		t.Fatalf("Near(%v, %d): %s, %v", l, order, text(b), err)
	}
	return b
}
