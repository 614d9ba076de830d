package repeat_test

import (
	"strings"
	"testing"

	"roamwave/api"
	"roamwave/repeat"
)

func TestNewReceiverHasNothing(t *testing.T) {
	for window := 1; window <= 32; window++ {
		r := newReceiver(t, window)
		reports(t, r, 0)
		takes(t, r, api.Piece{Last: true, Data: "x"}, "x")
		reports(t, r, 1)
	}
}

func TestWholeInOnePiece(t *testing.T) {
	var from source = 3
	r := newReceiver(t, 1)
	for i, n := range []int{1, 2, 255, 256, 1499, 1500} {
		unit := from.text(n)
		takes(t, r, api.Piece{Number: i, Last: true, Data: unit}, unit)
		reports(t, r, i+1)
	}
}

// TestWholeByPieces: in any order, doubled, lying over one another.
func TestWholeByPieces(t *testing.T) {
	head := api.Piece{Data: "abc"}
	middle := api.Piece{From: 2, Data: "cdef"}
	end := api.Piece{From: 6, Last: true, Data: "gh"}
	for _, l := range [][]api.Piece{{head, middle, end}, {head, end, middle}, {middle, head, end}, {middle, end, head}, {end, head, middle}, {end, middle, head}} {
		r := newReceiver(t, 1)
		for _, p := range []api.Piece{l[0], l[0], l[1], l[0], l[1]} {
			takes(t, r, p)
		}
		takes(t, r, l[2], "abcdefgh")
		for _, p := range l {
			takeIs(t, r, p, api.ErrOld)
		}
		reports(t, r, 1)
	}
}

// TestBytesStay as they came first.
func TestBytesStay(t *testing.T) {
	r := newReceiver(t, 1)
	takes(t, r, api.Piece{From: 2, Data: "cd"})
	takes(t, r, api.Piece{From: 6, Data: "gh"})
	takes(t, r, api.Piece{From: 2, Data: "XX"})
	takes(t, r, api.Piece{From: 1, Data: "bXXeXX"})
	takes(t, r, api.Piece{From: 7, Last: true, Data: "Xi"})
	takes(t, r, api.Piece{From: 0, Data: "aXXXXfXXX"}, "abcdeXghi")
}

// TestToldInOrder: whole units wait for those ahead of them, and are told together.
func TestToldInOrder(t *testing.T) {
	r := newReceiver(t, 4)
	takes(t, r, api.Piece{Number: 3, Last: true, Data: "d"})
	takes(t, r, api.Piece{Number: 1, Last: true, Data: "b"})
	takes(t, r, api.Piece{Number: 1, Last: true, Data: "b"})
	takes(t, r, api.Piece{Number: 0, Last: true, Data: "a"}, "a", "b")
	takeIs(t, r, api.Piece{Number: 0, Last: true, Data: "a"}, api.ErrOld)
	takeIs(t, r, api.Piece{Number: 1, Last: true, Data: "b"}, api.ErrOld)
	takes(t, r, api.Piece{Number: 5, Last: true, Data: "f"})
	takes(t, r, api.Piece{Number: 2, From: 1, Last: true, Data: "c"})
	takes(t, r, api.Piece{Number: 2, Data: "C"}, "Cc", "d")
	takes(t, r, api.Piece{Number: 4, Last: true, Data: "e"}, "e", "f")
	reports(t, r, 6)
}

// TestWindowOfAReceiver: as many units as it is wide, from first on; all others are old.
func TestWindowOfAReceiver(t *testing.T) {
	for window := 1; window <= 32; window++ {
		r := newReceiver(t, window)
		for first := range 70 {
			for away := window; away < 64; away++ {
				takeIs(t, r, api.Piece{Number: (first + away) % 64, Last: true, Data: "x"}, api.ErrOld)
			}
			takes(t, r, api.Piece{Number: (first + window - 1) % 64, Data: "x"})
			if first < window-1 {
				takes(t, r, api.Piece{Number: first % 64, Last: true, Data: "x"}, "x")
			} else {
				takes(t, r, api.Piece{Number: first % 64, From: 1, Last: true, Data: "y"}, "xy")
			}
		}
	}
}

// wrongPieces of any receiver.
func wrongPieces() []api.Piece {
	l := []api.Piece{{}, {Last: true}, {Number: 1}, {From: 3}, {From: 1500, Last: true}, {Number: 40}}
	for _, number := range wrongUnits {
		l = append(l, api.Piece{Number: number, Last: true, Data: "x"}, api.Piece{Number: number})
	}
	for _, from := range append([]int{1500}, wrongNumbers...) {
		l = append(l, api.Piece{From: from, Last: true, Data: "x"}, api.Piece{From: from, Data: "x"}, api.Piece{From: from, Data: strings.Repeat("x", 1500)}, api.Piece{Number: 40, From: from, Data: "x"})
	}
	for _, n := range []int{1501, 1502, 3000, 1 << 20} {
		l = append(l, api.Piece{Data: strings.Repeat("x", n)}, api.Piece{Last: true, Data: strings.Repeat("x", n)})
	}
	for from := 1; from < 1500; from += 107 {
		l = append(l, api.Piece{From: from, Data: strings.Repeat("x", 1501-from)}, api.Piece{From: from, Last: true, Data: strings.Repeat("x", 1501-from)})
	}
	return l
}

// TestWrongPieces change nothing; what may be no piece is told ahead of one that is old.
func TestWrongPieces(t *testing.T) {
	r := newReceiver(t, 2)
	for _, p := range wrongPieces() {
		takeIs(t, r, p, api.ErrForm)
	}
	reports(t, r, 0)
	takes(t, r, api.Piece{Number: 1, From: 1, Data: "b"})
	for _, p := range wrongPieces() {
		takeIs(t, r, p, api.ErrForm)
	}
	reports(t, r, 2, api.Gap{To: -1}, api.Gap{Number: 1, To: 1}, api.Gap{Number: 1, From: 2, To: -1})
	takeIs(t, r, api.Piece{Number: 2, Data: "x"}, api.ErrOld)
	takeIs(t, r, api.Piece{Number: 63, Data: "x"}, api.ErrOld)
	reports(t, r, 2, api.Gap{To: -1}, api.Gap{Number: 1, To: 1}, api.Gap{Number: 1, From: 2, To: -1})
}

// clash is a receiver that took pieces, and pieces that can't be of the same unit.
type clash struct {
	taken, wrong []api.Piece
}

// clashes of the unit 1, where 0 has not come.
func clashes() []clash {
	return []clash{
		{ // the length is 4, all is there
			[]api.Piece{{Number: 1, Last: true, Data: "abcd"}},
			[]api.Piece{{Number: 1, Last: true, Data: "abc"}, {Number: 1, Last: true, Data: "abcde"}, {Number: 1, Data: "abcde"}, {Number: 1, From: 4, Data: "e"}, {Number: 1, From: 4, Last: true, Data: "e"}, {Number: 1, From: 1499, Data: "e"}},
		},
		{ // the length is 4, its last byte alone is there
			[]api.Piece{{Number: 1, From: 3, Last: true, Data: "d"}},
			[]api.Piece{{Number: 1, Last: true, Data: "a"}, {Number: 1, From: 2, Last: true, Data: "c"}, {Number: 1, From: 3, Last: true, Data: "de"}, {Number: 1, From: 3, Data: "de"}, {Number: 1, From: 4, Data: "e"}, {Number: 1, From: 1000, Last: true, Data: "x"}},
		},
		{ // the length is not known
			[]api.Piece{{Number: 1, From: 3, Data: "d"}, {Number: 1, From: 1, Data: "b"}},
			[]api.Piece{{Number: 1, Last: true, Data: "a"}, {Number: 1, Last: true, Data: "ab"}, {Number: 1, From: 2, Last: true, Data: "c"}, {Number: 1, Last: true, Data: "abc"}},
		},
	}
}

// TestClashes change nothing: neither what is there nor the length.
func TestClashes(t *testing.T) {
	ends := [][]api.Piece{
		{{Number: 1, Last: true, Data: "XXXX"}, {Number: 1, From: 3, Data: "X"}},
		{{Number: 1, Data: "abc"}},
		{{Number: 1, Data: "abcX"}, {Number: 1, From: 3, Last: true, Data: "X"}},
	}
	for i, x := range clashes() {
		r := newReceiver(t, 2)
		for _, p := range x.taken {
			takes(t, r, p)
		}
		before := r.Report()
		for _, p := range x.wrong {
			takeIs(t, r, p, api.ErrForm)
			reports(t, r, before.Next, before.Missing...)
		}
		for _, p := range ends[i] {
			takes(t, r, p)
		}
		takes(t, r, api.Piece{Last: true, Data: "0"}, "0", "abcd")
	}
}

// TestNoClash: what is known may come again, and more that goes with it.
func TestNoClash(t *testing.T) {
	r := newReceiver(t, 2)
	takes(t, r, api.Piece{Number: 1, From: 3, Data: "d"})
	takes(t, r, api.Piece{Number: 1, From: 3, Last: true, Data: "d"})
	takes(t, r, api.Piece{Number: 1, From: 3, Last: true, Data: "d"})
	takes(t, r, api.Piece{Number: 1, From: 3, Data: "d"})
	takes(t, r, api.Piece{Number: 1, From: 1, Last: true, Data: "bcd"})
	takes(t, r, api.Piece{Number: 1, Data: "a"})
	takes(t, r, api.Piece{Last: true, Data: "0"}, "0", "abcd")
}

// TestLengthIsForgotten with its unit: the next one of that number, or at that place, has its own.
func TestLengthIsForgotten(t *testing.T) {
	r := newReceiver(t, 1)
	for i := range 200 {
		unit := strings.Repeat(string(rune('a'+i%26)), 1+i*37%1500)
		takes(t, r, api.Piece{Number: i % 64, From: len(unit) - 1, Last: true, Data: unit[:1]}, whole(unit, 1)...)
		if len(unit) > 1 {
			takes(t, r, api.Piece{Number: i % 64, Data: unit[1:]}, unit)
		}
		reports(t, r, (i+1)%64)
	}
}

// whole is a unit that has so many bytes, or nothing.
func whole(unit string, n int) []string {
	if len(unit) == n {
		return []string{unit}
	}
	return nil
}

// TestReportOfGaps: rising, one behind the other as one; the end is told, if the length is known.
func TestReportOfGaps(t *testing.T) {
	r := newReceiver(t, 8)
	takes(t, r, api.Piece{Data: "hel"})
	reports(t, r, 1, api.Gap{From: 3, To: -1})
	takes(t, r, api.Piece{From: 5, Data: "x"})
	reports(t, r, 1, api.Gap{From: 3, To: 5}, api.Gap{From: 6, To: -1})
	takes(t, r, api.Piece{From: 9, Data: "yz"})
	reports(t, r, 1, api.Gap{From: 3, To: 5}, api.Gap{From: 6, To: 9}, api.Gap{From: 11, To: -1})
	takes(t, r, api.Piece{From: 14, Last: true, Data: "!"})
	reports(t, r, 1, api.Gap{From: 3, To: 5}, api.Gap{From: 6, To: 9}, api.Gap{From: 11, To: 14})
	takes(t, r, api.Piece{From: 4, Data: "o"})
	takes(t, r, api.Piece{From: 7, Data: "."})
	reports(t, r, 1, api.Gap{From: 3, To: 4}, api.Gap{From: 6, To: 7}, api.Gap{From: 8, To: 9}, api.Gap{From: 11, To: 14})
	takes(t, r, api.Piece{From: 6, Data: ".X."})
	takes(t, r, api.Piece{From: 3, Data: "l"})
	takes(t, r, api.Piece{From: 12, Data: "??"})
	reports(t, r, 1, api.Gap{From: 11, To: 12})
	takes(t, r, api.Piece{From: 11, Data: "?"}, "hellox...yz???!")
	reports(t, r, 1)
}

// TestReportOfUnits: those of which nothing is there are missing from their first byte on; those that are whole are not.
func TestReportOfUnits(t *testing.T) {
	r := newReceiver(t, 6)
	takes(t, r, api.Piece{Number: 4, Last: true, Data: "whole"})
	reports(t, r, 5, api.Gap{To: -1}, api.Gap{Number: 1, To: -1}, api.Gap{Number: 2, To: -1}, api.Gap{Number: 3, To: -1})
	takes(t, r, api.Piece{Number: 2, From: 1, Last: true, Data: "b"})
	takes(t, r, api.Piece{Number: 1, Last: true, Data: "whole"})
	takes(t, r, api.Piece{Number: 5, Data: "a"})
	reports(t, r, 6, api.Gap{To: -1}, api.Gap{Number: 2, To: 1}, api.Gap{Number: 3, To: -1}, api.Gap{Number: 5, From: 1, To: -1})
	takes(t, r, api.Piece{Last: true, Data: "0"}, "0", "whole")
	reports(t, r, 6, api.Gap{Number: 2, To: 1}, api.Gap{Number: 3, To: -1}, api.Gap{Number: 5, From: 1, To: -1})
	takes(t, r, api.Piece{Number: 2, Data: "a"}, "ab")
	takes(t, r, api.Piece{Number: 3, Last: true, Data: "3"}, "3", "whole")
	reports(t, r, 6, api.Gap{Number: 5, From: 1, To: -1})
	takes(t, r, api.Piece{Number: 5, From: 1, Last: true, Data: "b"}, "ab")
	reports(t, r, 6)
}

// TestReportGoesRound: behind 63 comes 0.
func TestReportGoesRound(t *testing.T) {
	for first := range 64 {
		r := receiverAt(t, first)
		reports(t, r, first)
		takes(t, r, api.Piece{Number: (first + 31) % 64, From: 2, Data: "x"})
		var want []api.Gap
		for i := range 31 {
			want = append(want, api.Gap{Number: (first + i) % 64, To: -1})
		}
		want = append(want, api.Gap{Number: (first + 31) % 64, To: 2}, api.Gap{Number: (first + 31) % 64, From: 3, To: -1})
		reports(t, r, (first+32)%64, want...)
	}
}

// receiverAt has told units up to one of this number.
func receiverAt(t *testing.T, first int) *repeat.Receiver {
	t.Helper()
	r := newReceiver(t, 32)
	for i := range first {
		takes(t, r, api.Piece{Number: i, Last: true, Data: "x"}, "x")
	}
	return r
}

// TestAllBytesButNoEnd: a unit of MaxBytes whose end was not told is not whole; its report says so.
func TestAllBytesButNoEnd(t *testing.T) {
	unit := strings.Repeat("x", 1500)
	r := newReceiver(t, 2)
	takes(t, r, api.Piece{Data: unit})
	reports(t, r, 1, api.Gap{From: 1500, To: -1})
	takeIs(t, r, api.Piece{From: 1498, Last: true, Data: "x"}, api.ErrForm)
	takes(t, r, api.Piece{From: 1499, Last: true, Data: "y"}, unit)
	reports(t, r, 1)
}
