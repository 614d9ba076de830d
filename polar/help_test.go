package polar_test

import (
	"math"
	"slices"
	"testing"

	"roamwave/api"
)

// sizes that a code may have.
var sizes = []int{1, 2, 4, 8, 16, 32, 64, 128, 256, 512}

// wrongSizes are some that no code has.
var wrongSizes = []int{0, -1, -2, -8, 3, 5, 6, 7, 9, 12, 255, 257, 384, 511, 513, 768, 1024, 4096, 1 << 20,
	math.MaxInt32, math.MinInt32, math.MaxInt, math.MinInt, math.MinInt + 1}

// wrongSoft are numbers that soft may not have.
var wrongSoft = []int{api.MaxSoft + 1, -api.MaxSoft - 1, math.MaxInt32, math.MinInt32, math.MaxInt, math.MinInt, math.MinInt + 1}

// list of bits of a text of the digits 0 and 1; blanks are for the reader.
func list(s string) []byte {
	b := []byte{}
	for _, c := range s {
		if c != ' ' {
			b = append(b, byte(c-'0'))
		}
	}
	return b
}

// text is for telling bits.
func text(b []byte) string {
	t := make([]byte, len(b))
	for i, x := range b {
		t[i] = x + '0'
	}
	return string(t)
}

// source of numbers that are mixed, but always the same.
type source uint64

func (s *source) below(n int) int {
	*s = *s*6364136223846793005 + 1442695040888963407
	return int(uint64(*s)>>33) % n
}

func (s *source) bits(n int) []byte {
	b := make([]byte, n)
	for i := range b {
		b[i] = byte(s.below(2))
	}
	return b
}

// soft numbers from -most to most.
func (s *source) soft(n, most int) []int {
	soft := make([]int, n)
	for i := range soft {
		soft[i] = s.below(2*most+1) - most
	}
	return soft
}

// withByte is n bits 0, but for one byte at a place.
func withByte(n, place int, x byte) []byte {
	b := make([]byte, n)
	b[place] = x
	return b
}

// withNumber is n numbers 0, but for one at a place.
func withNumber(n, place, x int) []int {
	soft := make([]int, n)
	soft[place] = x
	return soft
}

// added is two lists of bits, added place by place.
func added(a, b []byte) []byte {
	sum := make([]byte, len(a))
	for i := range sum {
		sum[i] = (a[i] + b[i]) % 2
	}
	return sum
}

// spokenTurn is Turn as its chapter spells it.
func spokenTurn(b []byte) []byte {
	if len(b) == 1 {
		return []byte{b[0]}
	}
	first, second := spokenTurn(b[:len(b)/2]), spokenTurn(b[len(b)/2:])
	return append(added(first, second), second...)
}

// worth of a place as its chapter spells it.
func worth(place int) int {
	sum := 0
	for _, x := range [][2]int{{1, 1000}, {2, 1189}, {4, 1414}, {8, 1681}, {16, 2000}, {32, 2378}, {64, 2828}, {128, 3363}, {256, 4000}} {
		if place&x[0] != 0 {
			sum += x[1]
		}
	}
	return sum
}

// betterThan each place of n: how many are.
func betterThan(n int) []int {
	better := make([]int, n)
	for p := range better {
		for q := range n {
			if worth(q) > worth(p) || worth(q) == worth(p) && q > p {
				better[p]++
			}
		}
	}
	return better
}

// ahead are the places that have fewer than k better ones.
func ahead(better []int, k int) []int {
	places := []int{}
	for p, x := range better {
		if x < k {
			places = append(places, p)
		}
	}
	return places
}

// spokenPlaces are Places as their chapter spells them.
func spokenPlaces(n, k int) []int {
	return ahead(betterThan(n), k)
}

// spokenCode is what Encode says as its chapter spells it.
func spokenCode(b []byte, n int) []byte {
	all := make([]byte, n)
	for i, p := range spokenPlaces(n, len(b)) {
		all[p] = b[i]
	}
	return spokenTurn(all)
}

// size of a number.
func size(x int) int {
	if x < 0 {
		return -x
	}
	return x
}

// sight of one place as its chapter spells it, each time from the whole list on; found are the bits ahead of the place.
func sight(heard []int, place int, found []byte) int {
	if len(heard) == 1 {
		return heard[0]
	}
	h := len(heard) / 2
	half := make([]int, h)
	if place < h {
		for i := range half {
			half[i] = min(size(heard[i]), size(heard[h+i]))
			if heard[i] < 0 && heard[h+i] >= 0 || heard[i] >= 0 && heard[h+i] < 0 {
				half[i] = -half[i]
			}
		}
		return sight(half, place, found)
	}
	turned := spokenTurn(found[:h])
	for i := range half {
		if turned[i] == 1 {
			half[i] = heard[h+i] - heard[i]
		} else {
			half[i] = heard[h+i] + heard[i]
		}
	}
	return sight(half, place-h, found[h:])
}

// spokenDecode finds bit for bit, each by its sight.
func spokenDecode(soft []int, k int) []byte {
	places := spokenPlaces(len(soft), k)
	var found, answer []byte
	for p := range soft {
		var bit byte
		if open := slices.Contains(places, p); open {
			if sight(soft, p, found) < 0 {
				bit = 1
			}
			answer = append(answer, bit)
		}
		found = append(found, bit)
	}
	return answer
}

// heard is what is heard of coded bits, each as sure as the numbers say.
func heard(coded []byte, sure func() int) []int {
	soft := make([]int, len(coded))
	for i, x := range coded {
		soft[i] = sure() * (1 - 2*int(x))
	}
	return soft
}

// sameBits fails unless an answer is the bits that are wanted.
func sameBits(t *testing.T, what string, got []byte, err api.Errno, want []byte) {
	t.Helper()
	if err != api.OK || !slices.Equal(got, want) {
		t.Errorf("%s: %s, %v; want %s", what, text(got), err, text(want))
	}
}
