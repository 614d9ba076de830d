package conv_test

import (
	"math"
	"slices"
	"testing"

	"roamwave/api"
	"roamwave/conv"
)

// wrongSoft are numbers that soft may not have.
var wrongSoft = []int{api.MaxSoft + 1, -api.MaxSoft - 1, math.MaxInt32, math.MinInt32, math.MaxInt, math.MinInt, math.MinInt + 1}

func TestScoreAsSpelt(t *testing.T) {
	s := source(3)
	for n := range 401 {
		b, soft := s.bits(n), s.soft(3*(n+6), api.MaxSoft)
		if got, err := conv.Score(b, soft); err != api.OK || got != scored(b, soft) {
			t.Errorf("Score of %d bits: %d, %v; want %d", n, got, err, scored(b, soft))
		}
	}
}

func TestScoreAtItsEdges(t *testing.T) {
	soft := heard(spoken(make([]byte, 400)), func(int) int { return api.MaxSoft })
	if got, err := conv.Score(make([]byte, 400), soft); err != api.OK || got != 1218*api.MaxSoft {
		t.Errorf("all surely right: %d, %v", got, err)
	}
	for i := range soft {
		soft[i] = -api.MaxSoft
	}
	if got, err := conv.Score(make([]byte, 400), soft); err != api.OK || got != -1218*api.MaxSoft {
		t.Errorf("all surely wrong: %d, %v", got, err)
	}
	if got, err := conv.Score(nil, withNumber(18, 17, -5)); err != api.OK || got != -5 {
		t.Errorf("no bits: %d, %v", got, err)
	}
}

func TestScoreRefuses(t *testing.T) {
	refused := func(name string, b []byte, soft []int, want api.Errno) {
		t.Helper()
		if got, err := conv.Score(b, soft); err != want || got != 0 {
			t.Errorf("%s: %d, %v; want 0, %v", name, got, err, want)
		}
	}
	for name, x := range wrongBits {
		fitting := make([]int, 3*(len(x.b)+6))
		refused(name, x.b, fitting, x.want)
		fitting[0] = api.MaxSoft + 1
		refused(name+", wrong soft", x.b, fitting, x.want)
		refused(name+", no soft", x.b, nil, x.want)
	}
	for _, x := range wrongSoft {
		refused("wrong first", []byte{1}, withNumber(21, 0, x), api.ErrArg)
		refused("wrong last", []byte{1}, withNumber(21, 20, x), api.ErrArg)
	}
	for _, n := range []int{0, 1, 3, 17, 18, 20, 22, 24, 1218, 100000} {
		refused("another length", []byte{1}, make([]int, n), api.ErrArg)
	}
	refused("nothing of nothing", nil, nil, api.ErrArg)
}

func TestDecodeOfSilence(t *testing.T) {
	for n := range 401 {
		b, score, err := conv.Decode(make([]int, 3*(n+6)))
		sameBits(t, "Decode of silence", b, err, make([]byte, n))
		if score != 0 {
			t.Errorf("Decode of silence, %d bits: scores %d", n, score)
		}
	}
}

// tried is what Decode must answer, found by trying all bits in their order.
func tried(soft []int) ([]byte, int) {
	n := len(soft)/3 - 6
	var best []byte
	most := math.MinInt
	for x := range 1 << n {
		b := make([]byte, n)
		for i := range b {
			b[i] = byte(x >> (n - 1 - i) & 1)
		}
		if score := scored(b, soft); score > most {
			best, most = b, score
		}
	}
	return best, most
}

func TestDecodeAgainstAllBits(t *testing.T) {
	s := source(4)
	for n := range 10 {
		for _, most := range []int{0, 1, 2, 5, 1000, api.MaxSoft} {
			for range 12 {
				soft := s.soft(3*(n+6), most)
				want, score := tried(soft)
				got, gotScore, err := conv.Decode(soft)
				sameBits(t, "Decode", got, err, want)
				if gotScore != score {
					t.Errorf("%d bits: scores %d, want %d", n, gotScore, score)
				}
			}
		}
	}
}

// TestDecodeOfFewHeard has many bits of one score each time: the first in their order must win.
func TestDecodeOfFewHeard(t *testing.T) {
	s := source(5)
	for range 300 {
		n := 1 + s.below(8)
		soft := make([]int, 3*(n+6))
		for range 1 + s.below(4) {
			soft[s.below(len(soft))] = 2*s.below(2) - 1
		}
		want, score := tried(soft)
		got, gotScore, err := conv.Decode(soft)
		sameBits(t, "Decode of few heard", got, err, want)
		if gotScore != score {
			t.Errorf("scores %d, want %d", gotScore, score)
		}
	}
}

// way that has been gone, and what it scored.
type way struct {
	bits  string
	score int
}

// better is the one that scores more, or is first in the order of bits.
func better(a, b way) way {
	if b.score > a.score || b.score == a.score && b.bits < a.bits {
		return b
	}
	return a
}

// gone is what Decode must answer, found from the beginning on: of all ways that end in the same six bits the best one is kept whole.
func gone(soft []int) way {
	n := len(soft)/3 - 6
	ways := map[string]way{"000000": {}}
	for i := range n + 6 {
		next := map[string]way{}
		for last, w := range ways {
			for _, bit := range "01" {
				if i >= n && bit == '1' {
					continue
				}
				seven := list(last + string(bit))
				three := spoken(seven)[18:21]
				to := way{w.bits + string(bit), w.score}
				for j, x := range three {
					to.score += soft[3*i+j] * (1 - 2*int(x))
				}
				key := last[1:] + string(bit)
				if was, ok := next[key]; ok {
					to = better(was, to)
				}
				next[key] = to
			}
		}
		ways = next
	}
	w := ways["000000"]
	return way{w.bits[:n], w.score}
}

func TestDecodeOfManyBits(t *testing.T) {
	s := source(6)
	for _, n := range []int{6, 7, 30, 63, 64, 65, 128, 399, 400} {
		for _, most := range []int{1, 3, api.MaxSoft} {
			soft := s.soft(3*(n+6), most)
			want := gone(soft)
			got, score, err := conv.Decode(soft)
			sameBits(t, "Decode of many", got, err, list(want.bits))
			if score != want.score || score != scored(got, soft) {
				t.Errorf("%d bits: scores %d, want %d", n, score, want.score)
			}
		}
	}
}

func TestDecodeOfWhatWasEncoded(t *testing.T) {
	s := source(7)
	for n := range 401 {
		b := s.bits(n)
		soft := heard(spoken(b), func(int) int { return 1 + s.below(api.MaxSoft) })
		got, score, err := conv.Decode(soft)
		sameBits(t, "Decode of what was encoded", got, err, b)
		if score != scored(b, soft) {
			t.Errorf("%d bits: scores %d, want %d", n, score, scored(b, soft))
		}
	}
}

func TestDecodeAtItsEdges(t *testing.T) {
	ones := slices.Repeat([]byte{1}, 400)
	soft := heard(spoken(ones), func(int) int { return api.MaxSoft })
	got, score, err := conv.Decode(soft)
	sameBits(t, "Decode of the surest", got, err, ones)
	if score != 1218*api.MaxSoft {
		t.Errorf("the surest: scores %d", score)
	}
	if got, score, err := conv.Decode(withNumber(18, 3, -api.MaxSoft)); err != api.OK || len(got) != 0 || score != -api.MaxSoft {
		t.Errorf("no bits, surely wrong: %v, %d, %v", got, score, err)
	}
}

// TestDecodeOfTurned: any two ways differ at fifteen places or more, so up to seven that are turned are mended.
func TestDecodeOfTurned(t *testing.T) {
	s := source(8)
	for range 200 {
		b := s.bits(s.below(401))
		soft := heard(spoken(b), func(int) int { return 9 })
		for range 7 {
			i := s.below(len(soft))
			soft[i] = 9 * (2*int(spoken(b)[i]) - 1)
		}
		got, score, err := conv.Decode(soft)
		sameBits(t, "Decode of turned", got, err, b)
		if score != scored(b, soft) {
			t.Errorf("Decode of turned: scores %d, want %d", score, scored(b, soft))
		}
	}
}

func TestDecodeRefuses(t *testing.T) {
	refused := func(name string, soft []int) {
		t.Helper()
		if got, score, err := conv.Decode(soft); err != api.ErrArg || got != nil || score != 0 {
			t.Errorf("%s, %d numbers: %v, %d, %v; want ErrArg alone", name, len(soft), got, score, err)
		}
	}
	refused("nil", nil)
	for n := range 1300 {
		if n%3 != 0 || n < 18 || n > 1218 {
			refused("no such length", make([]int, n))
		}
	}
	refused("far too many", make([]int, 300000))
	for _, x := range wrongSoft {
		refused("wrong first", withNumber(21, 0, x))
		refused("wrong last", withNumber(1218, 1217, x))
		refused("wrong in the tail of no bits", withNumber(18, 9, x))
		refused("wrong, and no such length", withNumber(17, 3, x))
	}
}

func TestCheckSoft(t *testing.T) {
	if err := conv.CheckSoft([]int{api.MaxSoft, -api.MaxSoft, 0}); err != api.OK {
		t.Errorf("the edges: %v", err)
	}
	if err := conv.CheckSoft(nil); err != api.OK {
		t.Errorf("nothing: %v", err)
	}
	for _, x := range wrongSoft {
		if err := conv.CheckSoft([]int{0, 1, x}); err != api.ErrArg {
			t.Errorf("%d: %v", x, err)
		}
	}
}
