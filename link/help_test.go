package link_test

import (
	"math"
	"slices"
	"testing"

	"roamwave/api"
	"roamwave/bits"
	"roamwave/conv"
	"roamwave/link"
	"roamwave/match"
	"roamwave/polar"
	"roamwave/wave"
)

// wrongNumbers are neither bytes, a code, a size, an order, a seed, a count nor a version.
var wrongNumbers = []int{-1, -2, -4, -6, -8, -512, math.MinInt32, math.MinInt, math.MinInt + 1, math.MinInt + 2, math.MinInt + 6,
	1 << 31, 1<<32 + 2, 1<<32 + 64, math.MaxInt, math.MaxInt - 1, math.MaxInt/2 + 1}

// wrongVersions are none.
var wrongVersions = append([]int{4, 5, 8, 256}, wrongNumbers...)

// wrongHeights are neither an I nor a Q that may be heard.
var wrongHeights = []int{1001, -1001, 1002, 65536, 1 << 32, -1 << 32, math.MaxInt32, math.MinInt32, math.MaxInt, math.MinInt, math.MinInt + 1}

// setting is settings, and for how many bytes they are.
type setting struct {
	api.Settings
	bytes int
}

// whole are settings of which one version has each coded bit at least once.
var whole = []setting{
	{api.Settings{Order: 2, Seed: 7, Count: 90}, 0},
	{api.Settings{Order: 2, Seed: 7, Count: 114}, 1},
	{api.Settings{Order: 4, Seed: 0, Count: 188}, 5},
	{api.Settings{Order: 6, Seed: math.MaxInt32, Count: 300}, 5},
	{api.Settings{Order: 6, Seed: 1, Count: 1050}, 40},
	{api.Settings{Order: 4, Seed: 99, Count: 4096}, 40},
	{api.Settings{Code: api.Halves, Size: 32, Order: 2, Seed: 3, Count: 32}, 0},
	{api.Settings{Code: api.Halves, Size: 32, Order: 4, Seed: 3, Count: 40}, 1},
	{api.Settings{Code: api.Halves, Size: 64, Order: 6, Seed: 12, Count: 66}, 5},
	{api.Settings{Code: api.Halves, Size: 128, Order: 4, Seed: 1, Count: 128}, 5},
	{api.Settings{Code: api.Halves, Size: 256, Order: 2, Seed: 1 << 30, Count: 256}, 29},
	{api.Settings{Code: api.Halves, Size: 512, Order: 6, Seed: 4, Count: 516}, 40},
	{api.Settings{Code: api.Halves, Size: 32, Order: 2, Seed: 5, Count: 4096}, 1},
}

// partial are settings of which one version has some coded bits alone.
var partial = []setting{
	{api.Settings{Order: 2, Seed: 7, Count: 2}, 0},
	{api.Settings{Order: 6, Seed: 7, Count: 6}, 1},
	{api.Settings{Order: 4, Seed: 11, Count: 100}, 5},
	{api.Settings{Order: 2, Seed: 11, Count: 264}, 40},
	{api.Settings{Code: api.Halves, Size: 64, Order: 4, Seed: 2, Count: 16}, 5},
	{api.Settings{Code: api.Halves, Size: 256, Order: 2, Seed: 8, Count: 200}, 12},
	{api.Settings{Code: api.Halves, Size: 512, Order: 2, Seed: 4, Count: 128}, 40},
}

// all settings of both kinds.
func all() []setting { return slices.Concat(whole, partial) }

// source of numbers that are mixed, but always the same.
type source uint64

func (s *source) below(n int) int {
	*s = *s*6364136223846793005 + 1442695040888963407
	return int(uint64(*s)>>33) % n
}

func (s *source) data(n int) string {
	d := make([]byte, n)
	for i := range d {
		d[i] = byte(s.below(256))
	}
	return string(d)
}

// shaken points: each is moved by at most so much to each side.
func (s *source) shaken(l []api.Point, most int) []api.Point {
	moved := make([]api.Point, len(l))
	for i, p := range l {
		moved[i] = api.Point{I: p.I + s.below(2*most+1) - most, Q: p.Q + s.below(2*most+1) - most}
	}
	return moved
}

// points that are at most so far from 0.
func (s *source) points(n, most int) []api.Point {
	return s.shaken(make([]api.Point, n), most)
}

// good is an answer of a layer beneath, which has tests of its own.
func good[T any](t *testing.T) func(T, api.Errno) T {
	t.Helper()
	return func(x T, err api.Errno) T {
		t.Helper()
		if err != api.OK {
			t.Fatalf("a layer beneath: %v", err)
		}
		return x
	}
}

// spokenCode is the coded bits of data, step by step.
func spokenCode(t *testing.T, data string, s api.Settings) []byte {
	t.Helper()
	b := good[[]byte](t)(bits.Unpack(data, 8*len(data)))
	sealed := good[[]byte](t)(bits.Seal(b, api.Sum24))
	if s.Code == api.Memory {
		return good[[]byte](t)(conv.Encode(sealed))
	}
	return good[[]byte](t)(polar.Encode(sealed, s.Size))
}

// spokenBuild goes the steps of the chapter one by one.
func spokenBuild(t *testing.T, data string, s api.Settings, version int) []api.Point {
	t.Helper()
	picked := good[[]byte](t)(match.Pick(spokenCode(t, data, s), version, s.Count))
	covered := good[[]byte](t)(bits.Cover(picked, s.Seed))
	return good[[]api.Point](t)(wave.Send(covered, s.Order))
}

// spokenEar sums what is heard by itself, number by number.
type spokenEar struct {
	setting
	sums []int
}

func newSpoken(t *testing.T, x setting) *spokenEar {
	t.Helper()
	return &spokenEar{x, make([]int, len(spokenCode(t, string(make([]byte, x.bytes)), x.Settings)))}
}

// add points of a version, if no sum gets too large.
func (e *spokenEar) add(t *testing.T, l []api.Point, version int) api.Errno {
	t.Helper()
	heard := good[[]int](t)(wave.Hear(l, e.Order))
	noise := good[[]byte](t)(bits.Noise(e.Seed, e.Count))
	order := good[[]int](t)(match.Order(len(e.sums)))
	at := good[int](t)(match.Begin(len(e.sums), version))
	sums := slices.Clone(e.sums)
	for i, x := range heard {
		if x > 1000 {
			x = 1000
		}
		if x < -1000 {
			x = -1000
		}
		if noise[i] == 1 {
			x = -x
		}
		sums[order[(at+i)%len(order)]] += x
	}
	for _, sum := range sums {
		if sum < -api.MaxSoft || sum > api.MaxSoft {
			return api.ErrLarge
		}
	}
	e.sums = sums
	return api.OK
}

// take is what an ear is to answer.
func (e *spokenEar) take(t *testing.T, l []api.Point, version int) (string, bool, api.Errno) {
	t.Helper()
	if err := e.add(t, l, version); err != api.OK {
		return "", false, err
	}
	var sealed []byte
	var err api.Errno
	if e.Code == api.Memory {
		sealed, _, err = conv.Decode(e.sums)
	} else {
		sealed, err = polar.Decode(e.sums, 8*e.bytes+24)
	}
	b, ok, errOpen := bits.Open(sealed, api.Sum24)
	if err != api.OK || errOpen != api.OK {
		t.Fatalf("a layer beneath: %v, %v", err, errOpen)
	}
	if !ok {
		return "", false, api.OK
	}
	return good[string](t)(bits.Pack(b)), true, api.OK
}

// build what may be built.
func build(t *testing.T, data string, s api.Settings, version int) []api.Point {
	t.Helper()
	l, err := link.Build(data, s, version)
	if err != api.OK || len(l)*s.Order != s.Count {
		t.Fatalf("Build(%q, %+v, %d): %d points, %v", data, s, version, len(l), err)
	}
	return l
}

// newEar of settings that fit.
func newEar(t *testing.T, x setting) *link.Ear {
	t.Helper()
	e, err := link.New(x.Settings, x.bytes)
	if err != api.OK || e == nil {
		t.Fatalf("New(%+v): %v, %v", x, e, err)
	}
	return e
}

// take what may be taken.
func take(t *testing.T, e *link.Ear, l []api.Point, version int) (string, bool) {
	t.Helper()
	data, ok, err := e.Take(l, version)
	if err != api.OK {
		t.Fatalf("Take of %d points of the version %d: %v", len(l), version, err)
	}
	if !ok && data != "" {
		t.Fatalf("not ok, but %q", data)
	}
	return data, ok
}

// takes fails unless a Take tells just this block.
func takes(t *testing.T, what string, e *link.Ear, l []api.Point, version int, want string) {
	t.Helper()
	if data, ok := take(t, e, l, version); !ok || data != want {
		t.Errorf("%s: %q, %v; want %q", what, data, ok, want)
	}
}

// refused fails unless a Take tells an error, nothing beside it, and leaves what was gathered as it was.
func refused(t *testing.T, what string, e *link.Ear, l []api.Point, version int, want api.Errno) {
	t.Helper()
	was := e.Soft()
	if data, ok, err := e.Take(l, version); data != "" || ok || err != want {
		t.Errorf("%s: %q, %v, %v; want %v", what, data, ok, err, want)
	}
	if !slices.Equal(e.Soft(), was) {
		t.Errorf("%s: refused, but something was done", what)
	}
}

// orderOf n coded bits in their turn.
func orderOf(t *testing.T, n int) []int {
	t.Helper()
	return good[[]int](t)(match.Order(n))
}
