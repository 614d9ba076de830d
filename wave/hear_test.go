package wave_test

import (
	"slices"
	"testing"

	"roamwave/api"
	"roamwave/wave"
)

// edges are as far from 0 as may be heard, and about there.
var edges = []int{-1000, -999, -998, -500, -9, 0, 3, 8, 500, 998, 999, 1000}

// field is points that are near the constellations, on them and between them, and points at the edges.
func field() []api.Point {
	var l []api.Point
	for i := -10; i <= 10; i++ {
		for q := -10; q <= 10; q++ {
			l = append(l, api.Point{I: i, Q: q})
		}
	}
	for _, i := range edges {
		for _, q := range edges {
			l = append(l, api.Point{I: i, Q: q})
		}
	}
	return l
}

func TestHearExamples(t *testing.T) {
	for _, l := range []struct {
		point api.Point
		order int
		want  []int
		near  string
	}{
		{api.Point{I: 2, Q: 0}, 2, []int{8, 0}, "00"},
		{api.Point{I: 0, Q: -5}, 2, []int{0, -20}, "01"},
		{api.Point{I: 0, Q: 0}, 2, []int{0, 0}, "00"},
		{api.Point{I: -1000, Q: 1000}, 2, []int{-4000, 4000}, "10"},
		{api.Point{I: 1, Q: -3}, 4, []int{4, -16, 4, -4}, "0101"},
		{api.Point{I: 2, Q: -2}, 4, []int{8, -8, 0, 0}, "0100"},
		{api.Point{I: 0, Q: 0}, 4, []int{0, 0, 8, 8}, "0000"},
		{api.Point{I: 0, Q: 0}, 6, []int{0, 0, 24, 24, -8, -8}, "000011"},
		{api.Point{I: 4, Q: 6}, 6, []int{24, 48, 0, -8, 8, 0}, "000100"},
		{api.Point{I: 7, Q: -7}, 6, []int{64, -64, -16, -16, -4, -4}, "011111"},
		{api.Point{I: 1000, Q: 1000}, 6, []int{15952, 15952, -7960, -7960, -3976, -3976}, "001111"},
	} {
		soft, b := hear(t, []api.Point{l.point}, l.order), near(t, []api.Point{l.point}, l.order)
		if !slices.Equal(soft, l.want) || text(b) != l.near {
			t.Errorf("%v of the order %d: %v and %s, want %v and %s", l.point, l.order, soft, text(b), l.want, l.near)
		}
	}
}

func TestHearAsSpelt(t *testing.T) {
	for _, order := range orders {
		stars := sky(order)
		for _, p := range field() {
			if got, want := hear(t, []api.Point{p}, order), spokenHear(stars, p); !slices.Equal(got, want) {
				t.Errorf("Hear(%v, %d): %v, want %v", p, order, got, want)
			}
		}
	}
}

func TestNearAsSpelt(t *testing.T) {
	for _, order := range orders {
		stars := sky(order)
		for _, p := range field() {
			if got, want := near(t, []api.Point{p}, order), spokenNear(stars, p); !slices.Equal(got, want) {
				t.Errorf("Near(%v, %d): %s, want %s", p, order, text(got), text(want))
			}
		}
	}
}

// TestManyAreHeardOneByOne: what is heard of a point hangs on that point alone.
func TestManyAreHeardOneByOne(t *testing.T) {
	s := source(3)
	for _, order := range orders {
		stars := sky(order)
		for _, most := range []int{2, 8, 1000} {
			for _, n := range []int{1, 2, 50, api.MaxBits/order - 1, api.MaxBits / order} {
				l := s.points(n, most)
				var soft []int
				var b []byte
				for _, p := range l {
					soft = append(soft, spokenHear(stars, p)...)
					b = append(b, spokenNear(stars, p)...)
				}
				if !slices.Equal(hear(t, l, order), soft) || !slices.Equal(near(t, l, order), b) {
					t.Errorf("%d points of the order %d are not heard as one by one", n, order)
				}
			}
		}
	}
}

// TestSentIsHeard: what is sent is heard as it was, above 0 where a bit is 0.
func TestSentIsHeard(t *testing.T) {
	s := source(4)
	for _, order := range orders {
		for range 20 {
			b := s.bits(order * (1 + s.below(api.MaxBits/order)))
			l := send(t, b, order)
			if got := near(t, l, order); !slices.Equal(got, b) {
				t.Errorf("order %d: %s was sent, %s is near", order, text(b), text(got))
			}
			for i, x := range hear(t, l, order) {
				if x == 0 || (x > 0) != (b[i] == 0) {
					t.Fatalf("order %d: the bit %d is heard as %d", order, b[i], x)
				}
			}
		}
	}
}

// TestNearIsByTheSigns: where no number is 0 the nearest point's bits are 1 just where it is below 0.
func TestNearIsByTheSigns(t *testing.T) {
	for _, order := range orders {
		for _, p := range field() {
			soft := hear(t, []api.Point{p}, order)
			if slices.Contains(soft, 0) {
				continue
			}
			for i, x := range near(t, []api.Point{p}, order) {
				if (x == 1) != (soft[i] < 0) {
					t.Errorf("%v of the order %d: %v, but bit %d is %d", p, order, soft, i, x)
				}
			}
		}
	}
}

// TestNoPointIsNearer than the one that Near tells, as Send has the points.
func TestNoPointIsNearer(t *testing.T) {
	for _, order := range orders {
		stars := sky(order)
		for _, p := range field() {
			told := send(t, near(t, []api.Point{p}, order), order)[0]
			for _, s := range stars {
				if distance(p, s.point) < distance(p, told) {
					t.Errorf("order %d: %v is told of %v, %v is nearer", order, told, p, s.point)
				}
			}
		}
	}
}

func TestNothingIsHeard(t *testing.T) {
	for _, order := range orders {
		hear(t, nil, order)
		near(t, nil, order)
		hear(t, []api.Point{}, order)
		near(t, []api.Point{}, order)
	}
}

// heardFails fails unless both calls answer ErrArg, and nothing beside it.
func heardFails(t *testing.T, what string, l []api.Point, order int) {
	t.Helper()
	if got, err := wave.Hear(l, order); err != api.ErrArg || got != nil {
		t.Errorf("Hear, %s, %d points, order %d: %v, %v", what, len(l), order, got, err)
	}
	if got, err := wave.Near(l, order); err != api.ErrArg || got != nil {
		t.Errorf("Near, %s, %d points, order %d: %v, %v", what, len(l), order, got, err)
	}
}

func TestHeardWrongOrder(t *testing.T) {
	for _, order := range wrongOrders {
		heardFails(t, "a wrong order, no list", nil, order)
		for _, n := range []int{0, 1, 2, 12, 500, 682, 1024, 2048, 4096, 5000} {
			heardFails(t, "a wrong order", make([]api.Point, n), order)
		}
	}
}

func TestHeardTooMany(t *testing.T) {
	for _, l := range []struct{ order, most int }{{2, 2048}, {4, 1024}, {6, 682}} {
		hear(t, make([]api.Point, l.most), l.order)
		near(t, make([]api.Point, l.most), l.order)
		for _, n := range []int{l.most + 1, l.most + 2, 2 * l.most, api.MaxBits, api.MaxBits + 1, 1 << 16} {
			heardFails(t, "too many", make([]api.Point, n), l.order)
		}
	}
}

func TestHeardTooFar(t *testing.T) {
	for _, order := range orders {
		for _, x := range wrongHeights {
			for _, n := range []int{1, 2, 9, 682} {
				for _, place := range []int{0, n / 2, n - 1} {
					heardFails(t, "I too far", withPoint(n, place, api.Point{I: x}), order)
					heardFails(t, "Q too far", withPoint(n, place, api.Point{Q: x}), order)
					heardFails(t, "both too far", withPoint(n, place, api.Point{I: x, Q: x}), order)
					heardFails(t, "too far each way", withPoint(n, place, api.Point{I: x, Q: -x}), order)
				}
			}
		}
	}
}
