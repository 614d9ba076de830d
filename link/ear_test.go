package link_test

import (
	"slices"
	"testing"

	"roamwave/api"
	"roamwave/conv"
	"roamwave/link"
)

// The calls of the buffer are the ear's own.
var _ interface {
	Add(soft []int, version int) api.Errno
	Soft() []int
} = (*link.Ear)(nil)

func TestNewHasHeardNothing(t *testing.T) {
	for _, x := range all() {
		size := x.Size
		if x.Code == api.Memory {
			size = 3 * (8*x.bytes + 24 + 6)
		}
		if got := newEar(t, x).Soft(); !slices.Equal(got, make([]int, size)) {
			t.Errorf("%+v: a new ear has %v, want %d numbers 0", x, got, size)
		}
	}
}

// TestWholeIsHeard: what comes as it was is heard at once, if each coded bit is in it.
func TestWholeIsHeard(t *testing.T) {
	r := source(4)
	for _, x := range whole {
		for version := range 4 {
			for range 3 {
				data := r.data(x.bytes)
				e := newEar(t, x)
				takes(t, "at once", e, build(t, data, x.Settings, version), version, data)
				takes(t, "again", e, build(t, data, x.Settings, version), version, data)
				takes(t, "another version", e, build(t, data, x.Settings, 3-version), 3-version, data)
			}
		}
	}
}

// TestEachByteIsHeard: of all bytes that there are.
func TestEachByteIsHeard(t *testing.T) {
	for _, x := range []setting{whole[1], whole[7]} {
		for b := range 256 {
			data := string([]byte{byte(b)})
			takes(t, "a byte", newEar(t, x), build(t, data, x.Settings, 0), 0, data)
		}
	}
}

// TestEachLengthIsHeard: of all blocks that there may be.
func TestEachLengthIsHeard(t *testing.T) {
	r := source(5)
	for bytes := range 41 {
		for _, s := range []api.Settings{{Order: 6, Seed: 6, Count: 1050}, {Code: api.Halves, Size: 512, Order: 4, Seed: 6, Count: 512}} {
			data := r.data(bytes)
			takes(t, "a length", newEar(t, setting{s, bytes}), build(t, data, s, 1), 1, data)
		}
	}
}

// TestPartsAreHeardTogether: none of the versions is enough, all four have each coded bit once.
func TestPartsAreHeardTogether(t *testing.T) {
	r := source(6)
	for _, x := range []setting{
		{api.Settings{Code: api.Halves, Size: 512, Order: 2, Seed: 4, Count: 128}, 40},
		{api.Settings{Code: api.Halves, Size: 64, Order: 4, Seed: 4, Count: 16}, 5},
		{api.Settings{Order: 2, Seed: 9, Count: 264}, 40},
	} {
		for range 5 {
			data := r.data(x.bytes)
			e := newEar(t, x)
			for i, version := range []int{2, 0, 3} {
				if got, ok := take(t, e, build(t, data, x.Settings, version), version); i < 1 && ok {
					t.Errorf("%+v: %q is told by a quarter of the coded bits", x, got)
				}
			}
			takes(t, "all four", e, build(t, data, x.Settings, 1), 1, data)
		}
	}
}

// TestNumbersAreGathered: points all over, of mixed versions, held against sums of numbers one by one.
func TestNumbersAreGathered(t *testing.T) {
	r := source(7)
	for _, x := range all() {
		for _, most := range []int{0, 3, 20, 700, 1000} {
			e, spoken := newEar(t, x), newSpoken(t, x)
			for range 4 {
				l, version := r.points(x.Count/x.Order, most), r.below(4)
				want, wantOK, wantErr := spoken.take(t, l, version)
				got, ok, err := e.Take(l, version)
				if got != want || ok != wantOK || err != wantErr || !slices.Equal(e.Soft(), spoken.sums) {
					t.Fatalf("%+v, points to %d: %q, %v, %v; want %q, %v, %v", x, most, got, ok, err, want, wantOK, wantErr)
				}
			}
		}
	}
}

// TestShakenIsHeard: what is told of points that were moved, try by try, is what the chapter's steps tell.
func TestShakenIsHeard(t *testing.T) {
	r := source(8)
	told := map[bool]int{}
	for _, x := range all() {
		for _, most := range []int{1, 2, 4, 9} {
			data := r.data(x.bytes)
			e, spoken := newEar(t, x), newSpoken(t, x)
			for _, version := range []int{0, 2, 3, 1, 0, 2} {
				l := r.shaken(build(t, data, x.Settings, version), most)
				want, wantOK, _ := spoken.take(t, l, version)
				got, ok := take(t, e, l, version)
				told[ok]++
				if got != want || ok != wantOK {
					t.Errorf("%+v, moved by %d: %q, %v; want %q, %v", x, most, got, ok, want, wantOK)
				}
				if ok && got != data {
					t.Errorf("%+v, moved by %d: %q is told of %q", x, most, got, data)
				}
			}
		}
	}
	if told[true] < 50 || told[false] < 50 {
		t.Errorf("too few of some kind: %v", told)
	}
}

// TestInAnyOrder: what is told of all versions is the same, in which order they come.
func TestInAnyOrder(t *testing.T) {
	r := source(9)
	for _, x := range all() {
		data := r.data(x.bytes)
		var heard [4][]api.Point
		for version := range heard {
			heard[version] = r.shaken(build(t, data, x.Settings, version), 3)
		}
		var want string
		var wantOK bool
		var wantSoft []int
		for i, order := range [][]int{{0, 1, 2, 3}, {3, 2, 1, 0}, {2, 0, 3, 1}, {1, 3, 0, 2}} {
			e := newEar(t, x)
			var got string
			var ok bool
			for _, version := range order {
				got, ok = take(t, e, heard[version], version)
			}
			if i == 0 {
				want, wantOK, wantSoft = got, ok, e.Soft()
			}
			if got != want || ok != wantOK || !slices.Equal(e.Soft(), wantSoft) {
				t.Errorf("%+v in the order %v: %q, %v; want %q, %v", x, order, got, ok, want, wantOK)
			}
		}
	}
}

// TestWrongIsNotTold: another block, another seed or another version is not heard as the block.
func TestWrongIsNotTold(t *testing.T) {
	x := setting{api.Settings{Order: 2, Seed: 7, Count: 186}, 5}
	for what, l := range map[string][]api.Point{
		"another seed":     build(t, "hello", api.Settings{Order: 2, Seed: 8, Count: 186}, 0),
		"another version":  build(t, "hello", x.Settings, 1),
		"fewer bytes":      build(t, "hell", x.Settings, 0),
		"another order":    build(t, "hello", api.Settings{Order: 4, Seed: 7, Count: 372}, 0),
		"the other halves": build(t, "hello", api.Settings{Code: api.Halves, Size: 64, Order: 2, Seed: 7, Count: 186}, 0),
	} {
		e := newEar(t, x)
		if data, ok := take(t, e, l, 0); ok || data != "" {
			t.Errorf("%s: %q, %v", what, data, ok)
		}
	}
}

// TestNothingHeardIsZeros: numbers 0 are decoded as bits 0, whose sum is 0.
func TestNothingHeardIsZeros(t *testing.T) {
	for _, x := range all() {
		if x.Order == 2 {
			takes(t, "points in the middle", newEar(t, x), make([]api.Point, x.Count/2), 0, string(make([]byte, x.bytes)))
		}
	}
}

// loud points: those of a block, each so far out.
func loud(l []api.Point, far int) []api.Point {
	out := make([]api.Point, len(l))
	for i, p := range l {
		out[i] = api.Point{I: p.I * far, Q: p.Q * far}
	}
	return out
}

// TestLoudNumbersCountLess: of the order 2 a point {x, y} is heard as 4 x and 4 y, so from 250 on each counts as 1000.
func TestLoudNumbersCountLess(t *testing.T) {
	x := setting{api.Settings{Order: 2, Seed: 7, Count: 90}, 0}
	l := build(t, "", x.Settings, 0)
	for far, want := range map[int]int{1: 4, 249: 996, 250: 1000, 251: 1000, 1000: 1000} {
		for _, sign := range []int{1, -1} {
			e := newEar(t, x)
			take(t, e, loud(l, sign*far), 0)
			if got := e.Soft(); !slices.Equal(got, slices.Repeat([]int{sign * want}, 90)) {
				t.Errorf("%d out: %v, want each %d", sign*far, got, sign*want)
			}
		}
	}
}

// TestLoudWrongIsOutdone: what is wrong and as loud as may be is outdone by what is right and counts more, as it counts 1000 and no more.
func TestLoudWrongIsOutdone(t *testing.T) {
	for _, x := range []setting{{api.Settings{Order: 2, Seed: 7, Count: 186}, 5}, {api.Settings{Code: api.Halves, Size: 64, Order: 2, Seed: 7, Count: 64}, 5}} {
		e := newEar(t, x)
		l := build(t, "right", x.Settings, 0)
		if data, ok := take(t, e, loud(l, -1000), 0); ok {
			t.Errorf("turned all over, and %q is told", data)
		}
		take(t, e, loud(l, 250), 0)
		takes(t, "outdone by 4", e, l, 0, "right")
	}
}

// TestTooLoudIsRefused: 32 coded bits, 128 times each: 128000 at once, or 100000 by and by.
func TestTooLoudIsRefused(t *testing.T) {
	x := setting{api.Settings{Code: api.Halves, Size: 32, Order: 2, Seed: 5, Count: 4096}, 1}
	l := build(t, "A", x.Settings, 2)
	e := newEar(t, x)
	refused(t, "128000 at once", e, loud(l, 1000), 2, api.ErrLarge)
	refused(t, "-128000 at once", e, loud(l, -250), 2, api.ErrLarge)
	refused(t, "128 times 784", e, loud(l, 196), 2, api.ErrLarge)
	takes(t, "128 times 780", e, loud(l, 195), 2, "A")
	refused(t, "160 are left", e, loud(l, 1), 2, api.ErrLarge)
	takes(t, "less again", e, loud(l, -1), 2, "A")
	takes(t, "more again", e, loud(l, 1), 2, "A")

	x = setting{api.Settings{Order: 2, Seed: 5, Count: 114}, 1}
	l = build(t, "A", x.Settings, 1)
	e = newEar(t, x)
	for range 100 {
		takes(t, "100 times 1000", e, loud(l, 1000), 1, "A")
	}
	refused(t, "as much as may be, and 4", e, l, 1, api.ErrLarge)
	refused(t, "one bit of another version", e, build(t, "A", x.Settings, 3), 3, api.ErrLarge)
	if got, ok := take(t, e, loud(l, -1), 1); !ok || got != "A" {
		t.Errorf("less again: %q, %v", got, ok)
	}
	takes(t, "more again", e, l, 1, "A")
	refused(t, "at the top again", e, l, 1, api.ErrLarge)
}

// TestBufferIsTheEars: what is added to the buffer is heard with what is taken.
func TestBufferIsTheEars(t *testing.T) {
	x := setting{api.Settings{Order: 2, Seed: 5, Count: 2}, 1}
	e := newEar(t, x)
	soft := make([]int, 114)
	for i, b := range spokenCode(t, "B", x.Settings) {
		soft[slices.Index(orderOf(t, 114), i)] = 50 - 100*int(b)
	}
	if err := e.Add(soft, 0); err != api.OK {
		t.Fatal(err)
	}
	takes(t, "with what was added", e, make([]api.Point, 1), 3, "B")
	if sealed, _, err := conv.Decode(e.Soft()); err != api.OK || len(sealed) != 32 {
		t.Errorf("what is gathered is decoded as %d bits, %v", len(sealed), err)
	}
}

func TestTakeOfWrong(t *testing.T) {
	for _, x := range all() {
		n := x.Count / x.Order
		e := newEar(t, x)
		l := build(t, string(make([]byte, x.bytes)), x.Settings, 0)
		take(t, e, l, 0)
		for _, version := range wrongVersions {
			refused(t, "no version", e, l, version, api.ErrArg)
			refused(t, "no version, no points", e, nil, version, api.ErrArg)
		}
		for _, far := range wrongHeights {
			for _, at := range []int{0, n - 1} {
				for _, p := range []api.Point{{I: far}, {Q: far}} {
					wrong := slices.Clone(l)
					wrong[at] = p
					refused(t, "too far out", e, wrong, 0, api.ErrArg)
				}
			}
		}
		refused(t, "no points", e, nil, 0, api.ErrForm)
		refused(t, "one too few", e, l[1:], 0, api.ErrForm)
		if (n+1)*x.Order <= api.MaxBits {
			refused(t, "one too many", e, append(slices.Clone(l), api.Point{I: 1, Q: 1}), 0, api.ErrForm)
		}
		most := api.MaxBits / x.Order
		if n != most {
			refused(t, "as many as may be heard", e, make([]api.Point, most), 0, api.ErrForm)
		}
		refused(t, "more than may be heard", e, make([]api.Point, most+1), 0, api.ErrArg)
		refused(t, "far more than may be heard", e, make([]api.Point, 1<<18), 0, api.ErrArg)
	}
}

// TestTakeTellsArgFirst: ahead of points that are too few, and of those that are too loud.
func TestTakeTellsArgFirst(t *testing.T) {
	x := setting{api.Settings{Code: api.Halves, Size: 32, Order: 2, Seed: 5, Count: 4096}, 1}
	e := newEar(t, x)
	l := loud(build(t, "A", x.Settings, 0), 1000)
	refused(t, "too loud alone", e, l, 0, api.ErrLarge)
	refused(t, "too loud, no version", e, l, 4, api.ErrArg)
	refused(t, "too loud, too few", e, l[1:], 0, api.ErrForm)
	refused(t, "too loud, too few, no version", e, l[1:], -1, api.ErrArg)
	l[7].Q = 1001
	refused(t, "too far out", e, l, 0, api.ErrArg)
	refused(t, "too far out, too few", e, l[1:], 0, api.ErrArg)
	refused(t, "too far out, no version", e, l, 4, api.ErrArg)
}
