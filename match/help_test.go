package match_test

import (
	"math"
	"slices"
	"testing"

	"roamwave/api"
	"roamwave/match"
)

// wrongNumbers are neither a version, nor a count, nor how many bits there are.
var wrongNumbers = []int{-1, -2, -4, -8, -4096, api.MaxBits + 1, api.MaxBits + 8, 1 << 20,
	math.MaxInt32, math.MinInt32, math.MaxInt, math.MaxInt/2 + 1, math.MinInt, math.MinInt + 1}

// wrongVersions are none.
var wrongVersions = append([]int{4, 5, 8, 256}, wrongNumbers...)

// wrongSizes are those that no coded bits may have that go round.
var wrongSizes = append([]int{0}, wrongNumbers...)

// wrongSoft are numbers that soft may not have.
var wrongSoft = []int{api.MaxSoft + 1, -api.MaxSoft - 1, math.MaxInt32, math.MinInt32, math.MaxInt, math.MinInt, math.MinInt + 1}

// lengths with and without a short last row, and both edges.
var lengths = []int{1, 2, 3, 4, 5, 7, 8, 9, 10, 15, 16, 17, 31, 63, 64, 65, 100, 1001, 4088, 4089, 4095, 4096}

// list of bits of a text of the digits 0 and 1; blanks are for the reader.
func list(s string) []byte {
	b := []byte{}
	for _, c := range s {
		if c != ' ' {
			b = append(b, byte(c-'0'))
		}
	}
	return b
}

// text is for telling bits.
func text(b []byte) string {
	t := make([]byte, len(b))
	for i, x := range b {
		t[i] = x + '0'
	}
	return string(t)
}

// source of numbers that are mixed, but always the same.
type source uint64

func (s *source) below(n int) int {
	*s = *s*6364136223846793005 + 1442695040888963407
	return int(uint64(*s)>>33) % n
}

func (s *source) bits(n int) []byte {
	b := make([]byte, n)
	for i := range b {
		b[i] = byte(s.below(2))
	}
	return b
}

// soft numbers from -most to most.
func (s *source) soft(n, most int) []int {
	soft := make([]int, n)
	for i := range soft {
		soft[i] = s.below(2*most+1) - most
	}
	return soft
}

// withByte is n bits 0, but for one byte at a place.
func withByte(n, place int, x byte) []byte {
	b := make([]byte, n)
	b[place] = x
	return b
}

// withNumber is n numbers 0, but for one at a place.
func withNumber(n, place, x int) []int {
	soft := make([]int, n)
	soft[place] = x
	return soft
}

// spokenOrder writes the numbers into a table row by row, and reads it column by column, as its chapter spells it.
func spokenOrder(n int) []int {
	var table [][]int
	for i := range n {
		if i%8 == 0 {
			table = append(table, nil)
		}
		last := len(table) - 1
		table[last] = append(table[last], i)
	}
	order := []int{}
	for _, column := range []int{0, 4, 2, 6, 1, 5, 3, 7} {
		for _, row := range table {
			if column < len(row) {
				order = append(order, row[column])
			}
		}
	}
	return order
}

// spokenBegin counts up how often four goes into version times n.
func spokenBegin(n, version int) int {
	begin := 0
	for left := version * n; left >= 4; left -= 4 {
		begin++
	}
	return begin
}

// walk is the places that a Pick goes through, step by step.
func walk(n, version, count int) []int {
	order := spokenOrder(n)
	at := spokenBegin(n, version)
	places := make([]int, count)
	for i := range places {
		places[i] = order[at]
		at++
		if at == n {
			at = 0
		}
	}
	return places
}

// newBuffer of n coded bits, which may be.
func newBuffer(t *testing.T, n int) *match.Buffer {
	t.Helper()
	b, err := match.New(n)
	if err != api.OK || b == nil {
		t.Fatalf("New(%d): %v, %v", n, b, err)
	}
	return b
}

// add what may be added.
func add(t *testing.T, b *match.Buffer, soft []int, version int) {
	t.Helper()
	if err := b.Add(soft, version); err != api.OK {
		t.Fatalf("Add of %d numbers of the version %d: %v", len(soft), version, err)
	}
}

// gathered fails unless a buffer has the numbers that are wanted.
func gathered(t *testing.T, what string, b *match.Buffer, want []int) {
	t.Helper()
	if got := b.Soft(); !slices.Equal(got, want) {
		t.Errorf("%s: gathered %v, want %v", what, got, want)
	}
}
