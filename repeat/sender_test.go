package repeat_test

import (
	"slices"
	"strings"
	"testing"

	"roamwave/api"
	"roamwave/repeat"
)

func TestWrongWindows(t *testing.T) {
	for _, window := range append([]int{0, 33, 34, 63, 64, 65, 96, 1500}, wrongNumbers...) {
		if s, err := repeat.NewSender(window); s != nil || err != api.ErrArg {
			t.Errorf("NewSender(%d): %v, %v", window, s, err)
		}
		if r, err := repeat.NewReceiver(window); r != nil || err != api.ErrArg {
			t.Errorf("NewReceiver(%d): %v, %v", window, r, err)
		}
	}
}

func TestNewSenderHasNothing(t *testing.T) {
	for window := 1; window <= 32; window++ {
		s := newSender(t, window)
		waits(t, s, 0)
		nextIs(t, s, 1, api.ErrAbsent)
		hears(t, s, api.OK, 0)
		hears(t, s, api.ErrForm, 1)
		hears(t, s, api.ErrForm, 63)
		hears(t, s, api.ErrForm, 0, api.Gap{To: 1})
		waits(t, s, 0)
	}
}

func TestSubmitSizes(t *testing.T) {
	var from source = 1
	s := newSender(t, 32)
	for i, n := range []int{1, 2, 255, 256, 1499, 1500} {
		unit := from.text(n)
		submits(t, s, unit, api.OK)
		nexts(t, s, 1500, api.Piece{Number: i, Last: true, Data: unit})
	}
	for _, n := range []int{1501, 1502, 3000, 1 << 16, 1 << 20} {
		submits(t, s, strings.Repeat("x", n), api.ErrLarge)
	}
	submits(t, s, "", api.ErrArg)
	waits(t, s, 6)
	nextIs(t, s, 1500, api.ErrAbsent)
}

// TestFull: no more than 64 units that are not done; what a unit may not be is told first.
func TestFull(t *testing.T) {
	s := newSender(t, 32)
	for i := range 64 {
		waits(t, s, i)
		submits(t, s, "ab", api.OK)
	}
	for range 2 {
		submits(t, s, "ab", api.ErrFull)
		submits(t, s, strings.Repeat("x", 1500), api.ErrFull)
		submits(t, s, "", api.ErrArg)
		submits(t, s, strings.Repeat("x", 1501), api.ErrLarge)
		waits(t, s, 64)
	}
	sendAll(t, s, 1)
	submits(t, s, "ab", api.ErrFull)
	hears(t, s, api.OK, 1)
	submits(t, s, "cd", api.OK)
	submits(t, s, "ab", api.ErrFull)
}

// TestFullOfWhatIsNotDone: units that are done make room, though they are there still behind one that is not.
func TestFullOfWhatIsNotDone(t *testing.T) {
	s := newSender(t, 32)
	for i := range 64 {
		submits(t, s, string(rune('0'+i)), api.OK)
	}
	sendAll(t, s, 1)
	hears(t, s, api.OK, 32, api.Gap{To: 1})
	waits(t, s, 33)
	for i := range 31 {
		submits(t, s, string(rune('A'+i)), api.OK)
	}
	waits(t, s, 64)
	submits(t, s, "x", api.ErrFull)
	nexts(t, s, 1, api.Piece{Last: true, Data: "0"})
	nextIs(t, s, 1, api.ErrAbsent)
	hears(t, s, api.OK, 1)
	waits(t, s, 63)
	var want []api.Piece
	for i := 32; i < 64; i++ {
		want = append(want, api.Piece{Number: i, Last: true, Data: string(rune('0' + i))})
	}
	if got := sendAll(t, s, 1); !slices.Equal(got, want) {
		t.Errorf("sent %v, want %v", got, want)
	}
	hears(t, s, api.OK, 0)
	waits(t, s, 31)
	for i := range 31 {
		nexts(t, s, 1, api.Piece{Number: i, Last: true, Data: string(rune('A' + i))})
	}
	nextIs(t, s, 1, api.ErrAbsent)
}

func TestNextSizes(t *testing.T) {
	var from source = 2
	unit := from.text(1500)
	for _, size := range []int{1, 2, 3, 499, 500, 501, 749, 750, 1499, 1500} {
		s := newSender(t, 1, unit)
		var all strings.Builder
		for _, p := range sendAll(t, s, size) {
			if p.Number != 0 || p.From != all.Len() || p.Last != (p.From+len(p.Data) == 1500) || !p.Last && len(p.Data) != size {
				t.Fatalf("size %d: %d, %d, %v and %d bytes behind %d", size, p.Number, p.From, p.Last, len(p.Data), all.Len())
			}
			all.WriteString(p.Data)
		}
		if all.String() != unit {
			t.Errorf("size %d: what was sent is not what was submitted", size)
		}
	}
}

func TestWrongSizes(t *testing.T) {
	none, some := newSender(t, 1), newSender(t, 1, "ab")
	for _, size := range append([]int{0}, wrongNumbers...) {
		nextIs(t, none, size, api.ErrArg)
		nextIs(t, some, size, api.ErrArg)
	}
	nexts(t, some, 1500, api.Piece{Last: true, Data: "ab"})
	hears(t, some, api.OK, 0)
	for _, size := range append([]int{0}, wrongNumbers...) {
		nextIs(t, some, size, api.ErrArg)
	}
	nexts(t, some, 1, api.Piece{Data: "a"})
}

// TestOnlyTheWindow is sent, from the first unit on that is not done.
func TestOnlyTheWindow(t *testing.T) {
	for window := 1; window <= 32; window++ {
		s := newSender(t, window)
		for range 40 {
			submits(t, s, "ab", api.OK)
		}
		if l := sendAll(t, s, 1); len(l) != 2*window || l[2*window-1].Number != window-1 {
			t.Fatalf("window %d: sent %v", window, l)
		}
		hears(t, s, api.ErrForm, window+1)
		hears(t, s, api.OK, window, api.Gap{From: 1, To: 2})
		nexts(t, s, 2, api.Piece{From: 1, Last: true, Data: "b"})
		nextIs(t, s, 2, api.ErrAbsent)
		hears(t, s, api.OK, window)
		nexts(t, s, 2, api.Piece{Number: window, Last: true, Data: "ab"})
		waits(t, s, 40-window)
	}
}

// atNumber is a sender whose next unit has this number; it has none.
func atNumber(t *testing.T, number int) *repeat.Sender {
	t.Helper()
	s := newSender(t, 32)
	for i := range number {
		submits(t, s, "x", api.OK)
		nexts(t, s, 1, api.Piece{Number: i, Last: true, Data: "x"})
		hears(t, s, api.OK, (i+1)%64)
	}
	return s
}

// TestNumbersGoRound: behind 63 comes 0, for pieces and for reports.
func TestNumbersGoRound(t *testing.T) {
	for i := range 64 {
		s := atNumber(t, i)
		submits(t, s, "ab", api.OK)
		submits(t, s, "cd", api.OK)
		nexts(t, s, 1, api.Piece{Number: i, Data: "a"})
		nexts(t, s, 2, api.Piece{Number: i, From: 1, Last: true, Data: "b"})
		nexts(t, s, 2, api.Piece{Number: (i + 1) % 64, Last: true, Data: "cd"})
		hears(t, s, api.ErrForm, (i+3)%64)
		hears(t, s, api.ErrForm, (i+63)%64)
		hears(t, s, api.ErrForm, (i+2)%64, api.Gap{Number: (i + 2) % 64, To: 1})
		hears(t, s, api.ErrForm, (i+2)%64, api.Gap{Number: (i + 63) % 64, To: 1})
		hears(t, s, api.OK, (i+2)%64, api.Gap{Number: i, From: 1, To: -1}, api.Gap{Number: (i + 1) % 64, To: 1})
		nexts(t, s, 2, api.Piece{Number: i, From: 1, Last: true, Data: "b"})
		nexts(t, s, 2, api.Piece{Number: (i + 1) % 64, Data: "c"})
		nextIs(t, s, 2, api.ErrAbsent)
		hears(t, s, api.OK, (i+2)%64)
		waits(t, s, 0)
	}
}

// TestNumbersGoOn: a sender may be used without end.
func TestNumbersGoOn(t *testing.T) {
	s := newSender(t, 1)
	for i := range 1000 {
		submits(t, s, "x", api.OK)
		nexts(t, s, 1, api.Piece{Number: i % 64, Last: true, Data: "x"})
		hears(t, s, api.OK, (i+1)%64)
		waits(t, s, 0)
	}
}

// TestAgainComesFirst: the first unit's first byte, as far as bytes are one behind the other, ahead of all that was never sent; no byte twice.
func TestAgainComesFirst(t *testing.T) {
	s := newSender(t, 4, "abcdefghij", "klmnopqrst", "uvwxyz", "0123")
	nexts(t, s, 1500, api.Piece{Number: 0, Last: true, Data: "abcdefghij"})
	nexts(t, s, 1500, api.Piece{Number: 1, Last: true, Data: "klmnopqrst"})
	nexts(t, s, 2, api.Piece{Number: 2, Data: "uv"})
	hears(t, s, api.OK, 2, api.Gap{Number: 1, From: 8, To: -1}, api.Gap{Number: 0, From: 5, To: 8}, api.Gap{Number: 1, From: 1, To: 3}, api.Gap{From: 2, To: 3})
	nexts(t, s, 1500, api.Piece{Number: 0, From: 2, Data: "c"})
	nexts(t, s, 2, api.Piece{Number: 0, From: 5, Data: "fg"})
	nexts(t, s, 2, api.Piece{Number: 0, From: 7, Data: "h"})
	nexts(t, s, 1, api.Piece{Number: 1, From: 1, Data: "l"})
	nexts(t, s, 1, api.Piece{Number: 1, From: 2, Data: "m"})
	nexts(t, s, 1, api.Piece{Number: 1, From: 8, Data: "s"})
	nexts(t, s, 1, api.Piece{Number: 1, From: 9, Last: true, Data: "t"})
	nexts(t, s, 1500, api.Piece{Number: 2, Data: "uv"})
	nexts(t, s, 1500, api.Piece{Number: 2, From: 2, Last: true, Data: "wxyz"})
	nexts(t, s, 1500, api.Piece{Number: 3, Last: true, Data: "0123"})
	nextIs(t, s, 1500, api.ErrAbsent)
	waits(t, s, 4)
}

// TestGapsThatTouch are sent as one, in whatever order they are told, and how often.
func TestGapsThatTouch(t *testing.T) {
	for _, gaps := range [][]api.Gap{
		{{From: 1, To: 3}, {From: 3, To: 6}},
		{{From: 3, To: 6}, {From: 1, To: 3}},
		{{From: 2, To: 6}, {From: 1, To: 4}},
		{{From: 1, To: 6}, {From: 2, To: 4}},
		{{From: 2, To: 4}, {From: 1, To: 6}},
		{{From: 1, To: 2}, {From: 5, To: 6}, {From: 3, To: 4}, {From: 2, To: 5}},
		{{From: 1, To: 6}, {From: 1, To: 6}, {From: 1, To: 6}},
	} {
		s := newSender(t, 1, "abcdefgh")
		nexts(t, s, 8, api.Piece{Last: true, Data: "abcdefgh"})
		hears(t, s, api.OK, 1, gaps...)
		nexts(t, s, 8, api.Piece{From: 1, Data: "bcdef"})
		nextIs(t, s, 8, api.ErrAbsent)
	}
	s := newSender(t, 1, "abcdefgh")
	nexts(t, s, 8, api.Piece{Last: true, Data: "abcdefgh"})
	hears(t, s, api.OK, 1, api.Gap{From: 5, To: -1}, api.Gap{From: 1, To: 4})
	nexts(t, s, 8, api.Piece{From: 1, Data: "bcd"})
	nexts(t, s, 8, api.Piece{From: 5, Last: true, Data: "fgh"})
	nextIs(t, s, 8, api.ErrAbsent)
}

// TestAgainStays: what a later report does not tell of is to be sent again still, until it is sent or the unit is done.
func TestAgainStays(t *testing.T) {
	s := newSender(t, 2, "abcdef", "ghijkl")
	sendAll(t, s, 6)
	hears(t, s, api.OK, 2, api.Gap{From: 1, To: 2}, api.Gap{Number: 1, From: 2, To: 3})
	hears(t, s, api.OK, 2, api.Gap{From: 4, To: 5}, api.Gap{Number: 1, From: 3, To: 4})
	nexts(t, s, 6, api.Piece{From: 1, Data: "b"})
	nexts(t, s, 6, api.Piece{From: 4, Data: "e"})
	nexts(t, s, 1, api.Piece{Number: 1, From: 2, Data: "i"})
	hears(t, s, api.OK, 2, api.Gap{From: 4, To: 5})
	nexts(t, s, 6, api.Piece{From: 4, Data: "e"})
	nextIs(t, s, 6, api.ErrAbsent)
	waits(t, s, 1)
}

// TestWhatIsDoneIsNotSent: neither again, when it is lost later, nor what of it was never sent.
func TestWhatIsDoneIsNotSent(t *testing.T) {
	s := newSender(t, 4, "abc", "def", "ghi", "jkl")
	for range 7 {
		if _, err := s.Next(1); err != api.OK {
			t.Fatal(err)
		}
	}
	hears(t, s, api.OK, 3, api.Gap{To: 1})
	waits(t, s, 2)
	hears(t, s, api.OK, 1, api.Gap{To: -1})
	hears(t, s, api.OK, 0)
	hears(t, s, api.OK, 3, api.Gap{To: 1}, api.Gap{Number: 1, To: -1}, api.Gap{Number: 2, From: 2, To: 3})
	waits(t, s, 2)
	nexts(t, s, 5, api.Piece{Last: true, Data: "abc"})
	nexts(t, s, 5, api.Piece{Number: 3, Last: true, Data: "jkl"})
	nextIs(t, s, 5, api.ErrAbsent)
	hears(t, s, api.ErrForm, 3, api.Gap{To: 1}, api.Gap{Number: 1, From: 3, To: -1})
	hears(t, s, api.OK, 1)
	waits(t, s, 1)
	hears(t, s, api.ErrForm, 1)
	hears(t, s, api.ErrForm, 3, api.Gap{Number: 2, To: 1})
	hears(t, s, api.OK, 4)
	waits(t, s, 0)
}

// TestNotSentIsNotAgain: of a unit that was sent in part no more is to be sent again than that part.
func TestNotSentIsNotAgain(t *testing.T) {
	for next, gaps := range [][]api.Gap{nil, {{From: 0, To: -1}}} {
		s := newSender(t, 2, "abcdef", "ghi")
		nexts(t, s, 3, api.Piece{Data: "abc"})
		hears(t, s, api.OK, next, gaps...)
		nexts(t, s, 6, api.Piece{Data: "abc"})
		nexts(t, s, 6, api.Piece{From: 3, Last: true, Data: "def"})
		nexts(t, s, 6, api.Piece{Number: 1, Last: true, Data: "ghi"})
	}
	s := newSender(t, 2, "abcdef", "ghi")
	nexts(t, s, 3, api.Piece{Data: "abc"})
	hears(t, s, api.OK, 1, api.Gap{From: 3, To: -1}, api.Gap{From: 2, To: 5}, api.Gap{From: 4, To: 6})
	nexts(t, s, 6, api.Piece{From: 2, Data: "c"})
	nexts(t, s, 6, api.Piece{From: 3, Last: true, Data: "def"})
}

// TestBehindTheReport: all that was sent of units behind it is to be sent again.
func TestBehindTheReport(t *testing.T) {
	s := newSender(t, 4, "abc", "def", "ghi", "jkl")
	for range 5 {
		if _, err := s.Next(2); err != api.OK {
			t.Fatal(err)
		}
	}
	hears(t, s, api.OK, 1)
	waits(t, s, 3)
	nexts(t, s, 9, api.Piece{Number: 1, Last: true, Data: "def"})
	nexts(t, s, 9, api.Piece{Number: 2, Data: "gh"})
	nexts(t, s, 9, api.Piece{Number: 2, From: 2, Last: true, Data: "i"})
	nexts(t, s, 1, api.Piece{Number: 3, Data: "j"})
	hears(t, s, api.OK, 1)
	for i, unit := range []string{"def", "ghi"} {
		nexts(t, s, 9, api.Piece{Number: 1 + i, Last: true, Data: unit})
	}
	nexts(t, s, 9, api.Piece{Number: 3, Data: "j"})
	nexts(t, s, 9, api.Piece{Number: 3, From: 1, Last: true, Data: "kl"})
}

// wrongReports of a sender whose begin is 0, which sent two units, of 5 and 3 bytes.
func wrongReports() []api.Report {
	var l []api.Report
	for _, next := range append([]int{3, 4, 32, 62, 63}, wrongUnits...) {
		l = append(l, api.Report{Next: next}, api.Report{Next: next, Missing: []api.Gap{{To: 1}}})
	}
	wrong := func(next int, g api.Gap) {
		right := api.Gap{To: 1}
		for _, gaps := range [][]api.Gap{{g}, {right, g}, {g, right}} {
			l = append(l, api.Report{Next: next, Missing: gaps})
		}
	}
	for _, number := range append([]int{2, 3, 32, 62, 63}, wrongUnits...) {
		wrong(2, api.Gap{Number: number, To: 1})
		wrong(2, api.Gap{Number: number, To: -1})
	}
	wrong(1, api.Gap{Number: 1, To: 1})
	wrong(0, api.Gap{Number: 0, To: 1})
	for _, n := range wrongNumbers {
		wrong(2, api.Gap{From: n, To: -1})
		wrong(2, api.Gap{From: n, To: 5})
		if n > 0 {
			wrong(2, api.Gap{From: 1, To: n})
		}
	}
	for from := range 7 {
		for to := range 8 {
			if from >= 5 || to > 5 || to <= from {
				wrong(2, api.Gap{From: from, To: to})
			}
			if from >= 3 || to > 3 || to <= from {
				wrong(2, api.Gap{Number: 1, From: from, To: to})
			}
		}
	}
	wrong(2, api.Gap{From: 5, To: -1})
	wrong(2, api.Gap{Number: 1, From: 3, To: -1})
	return l
}

// TestWrongReports change nothing: nothing is done, nothing is to be sent again.
func TestWrongReports(t *testing.T) {
	s := newSender(t, 2, "abcde", "fgh", "ijk")
	nexts(t, s, 5, api.Piece{Last: true, Data: "abcde"})
	nexts(t, s, 1, api.Piece{Number: 1, Data: "f"})
	for _, x := range wrongReports() {
		hears(t, s, api.ErrForm, x.Next, x.Missing...)
	}
	waits(t, s, 3)
	nexts(t, s, 5, api.Piece{Number: 1, From: 1, Last: true, Data: "gh"})
	nextIs(t, s, 5, api.ErrAbsent)
	hears(t, s, api.OK, 2, api.Gap{From: 4, To: 5}, api.Gap{Number: 1, From: 2, To: 3})
	for _, x := range wrongReports() {
		hears(t, s, api.ErrForm, x.Next, x.Missing...)
	}
	nexts(t, s, 5, api.Piece{From: 4, Last: true, Data: "e"})
	nexts(t, s, 5, api.Piece{Number: 1, From: 2, Last: true, Data: "h"})
	nextIs(t, s, 5, api.ErrAbsent)
}

// TestGapEdges: the least and the greatest gaps that may be; any end below 0 is the unit's.
func TestGapEdges(t *testing.T) {
	for _, to := range []int{-1, -2, -64, -1 << 31, -1 << 63, 1500} {
		s := newSender(t, 1, strings.Repeat("x", 1499)+"y")
		sendAll(t, s, 1500)
		hears(t, s, api.OK, 1, api.Gap{From: 1499, To: to})
		nexts(t, s, 1500, api.Piece{From: 1499, Last: true, Data: "y"})
		hears(t, s, api.OK, 1, api.Gap{To: to})
		nexts(t, s, 1500, api.Piece{Last: true, Data: strings.Repeat("x", 1499) + "y"})
		hears(t, s, api.OK, 1, api.Gap{To: 1})
		nexts(t, s, 1500, api.Piece{Data: "x"})
		nextIs(t, s, 1500, api.ErrAbsent)
		waits(t, s, 1)
	}
}

// TestManyGaps of one report.
func TestManyGaps(t *testing.T) {
	unit := strings.Repeat("xy", 750)
	s := newSender(t, 1, unit)
	sendAll(t, s, 1500)
	var gaps []api.Gap
	for turn := range 200 {
		for from := turn % 2 * 2; from < 1500; from += 4 {
			gaps = append(gaps, api.Gap{From: from, To: from + 1})
		}
	}
	hears(t, s, api.OK, 1, gaps...)
	for from := 0; from < 1500; from += 2 {
		nexts(t, s, 1500, api.Piece{From: from, Data: "x"})
	}
	nextIs(t, s, 1500, api.ErrAbsent)
}
