package match_test

import (
	"slices"
	"testing"

	"roamwave/api"
	"roamwave/match"
)

func TestNewHasNothing(t *testing.T) {
	for _, n := range lengths {
		gathered(t, "new", newBuffer(t, n), make([]int, n))
	}
}

func TestNewOfWrong(t *testing.T) {
	for _, n := range wrongSizes {
		if b, err := match.New(n); b != nil || err != api.ErrArg {
			t.Errorf("New(%d): %v, %v", n, b, err)
		}
	}
}

func TestAddByHand(t *testing.T) {
	b := newBuffer(t, 10)
	add(t, b, []int{1, 2, 3}, 0)
	gathered(t, "version 0", b, []int{1, 0, 0, 0, 3, 0, 0, 0, 2, 0})
	add(t, b, []int{10, 20, 30, 40}, 3)
	gathered(t, "version 3, round the end", b, []int{41, 0, 0, 20, 3, 10, 0, 30, 2, 0})
	add(t, b, []int{-5, -6}, 2)
	gathered(t, "version 2", b, []int{41, -5, 0, 20, 3, 10, 0, 30, 2, -6})
	add(t, b, []int{100, -3, 0}, 1)
	gathered(t, "version 1", b, []int{41, -5, -3, 20, 103, 10, 0, 30, 2, -6})
}

func TestAddOfNothing(t *testing.T) {
	b := newBuffer(t, 3)
	add(t, b, []int{7, 8, 9}, 0)
	add(t, b, nil, 1)
	add(t, b, []int{}, 3)
	gathered(t, "nothing added", b, []int{7, 9, 8})
}

// TestAddBeyondTheTurn: a bit that is heard more than once in a Pick is gathered as often.
func TestAddBeyondTheTurn(t *testing.T) {
	b := newBuffer(t, 3)
	add(t, b, []int{1, 2, 3, 4, 50, 60, 700}, 0)
	gathered(t, "twice round", b, []int{705, 63, 52})
	b = newBuffer(t, 1)
	add(t, b, slices.Repeat([]int{1}, api.MaxBits), 3)
	gathered(t, "one bit", b, []int{api.MaxBits})
}

// TestAddGathers: many Adds, held against sums of the walked places.
func TestAddGathers(t *testing.T) {
	s := source(2)
	for _, n := range lengths {
		b := newBuffer(t, n)
		want := make([]int, n)
		for i, count := range []int{n, 0, 1, min(2*n, 40), s.below(min(3*n, api.MaxBits)), min(n+3, 4*n), n / 2} {
			soft := s.soft(min(count, api.MaxBits), 100)
			add(t, b, soft, i%4)
			for j, place := range walk(n, i%4, len(soft)) {
				want[place] += soft[j]
			}
			gathered(t, "after an Add", b, want)
		}
	}
	b := newBuffer(t, api.MaxBits)
	add(t, b, slices.Repeat([]int{-4}, api.MaxBits), 2)
	gathered(t, "as much as may be", b, slices.Repeat([]int{-4}, api.MaxBits))
}

// addIs fails unless an Add tells an error, and leaves what is gathered as it was.
func addIs(t *testing.T, what string, b *match.Buffer, soft []int, version int, want api.Errno) {
	t.Helper()
	was := b.Soft()
	if err := b.Add(soft, version); err != want {
		t.Errorf("%s: %v, want %v", what, err, want)
	}
	gathered(t, what, b, was)
}

func TestAddAtMaxSoft(t *testing.T) {
	for _, sign := range []int{1, -1} {
		most := sign * api.MaxSoft
		b := newBuffer(t, 3)
		add(t, b, []int{most, most - sign, 0}, 0)
		gathered(t, "at once", b, []int{most, 0, most - sign})
		add(t, b, []int{0, sign, most}, 0)
		gathered(t, "by two", b, []int{most, most, most})
		addIs(t, "one beyond", b, []int{sign}, 0, api.ErrLarge)
		addIs(t, "the last one beyond", b, []int{-sign, -sign, sign}, 0, api.ErrLarge)
		addIs(t, "the first one beyond", b, []int{sign, -sign, -sign}, 0, api.ErrLarge)
		addIs(t, "far beyond", b, slices.Repeat([]int{most}, api.MaxBits), 1, api.ErrLarge)
		add(t, b, []int{0, 0, 0}, 2)
		add(t, b, []int{-most, -most, -most, -most, -most, -most}, 0)
		gathered(t, "to the other end", b, []int{-most, -most, -most})
		addIs(t, "one beyond the other end", b, []int{0, -sign}, 0, api.ErrLarge)
	}
}

// TestAddBeyondWithinOneAdd: numbers that may be, whose sum may not, of one bit that is heard twice; and sums that are fit when all is added.
func TestAddBeyondWithinOneAdd(t *testing.T) {
	b := newBuffer(t, 2)
	addIs(t, "too much", b, []int{60000, 5, 40001}, 0, api.ErrLarge)
	addIs(t, "too little", b, []int{-60000, 5, -40001}, 0, api.ErrLarge)
	add(t, b, []int{60000, 5, 40000}, 0)
	gathered(t, "just as much", b, []int{api.MaxSoft, 5})
	add(t, b, []int{1, 0, -2}, 0)
	gathered(t, "fit when all is added", b, []int{api.MaxSoft - 1, 5})
}

func TestAddOfWrong(t *testing.T) {
	b := newBuffer(t, 10)
	add(t, b, []int{1, 2, 3, 4, 5, 6, 7, 8, 9, api.MaxSoft}, 0)
	for _, x := range wrongSoft {
		addIs(t, "wrong first", b, withNumber(10, 0, x), 0, api.ErrArg)
		addIs(t, "wrong last", b, withNumber(10, 9, x), 0, api.ErrArg)
		addIs(t, "wrong beyond the turn", b, withNumber(25, 24, x), 0, api.ErrArg)
	}
	for _, version := range wrongVersions {
		addIs(t, "no version", b, []int{1, 1}, version, api.ErrArg)
		addIs(t, "no version, nothing heard", b, nil, version, api.ErrArg)
	}
	addIs(t, "too many", b, make([]int, api.MaxBits+1), 0, api.ErrArg)
	addIs(t, "far too many", b, make([]int, 1<<20), 0, api.ErrArg)
	add(t, b, make([]int, api.MaxBits), 3)
	gathered(t, "as before", b, []int{1, 6, 4, 9, 3, 8, 5, api.MaxSoft, 2, 7})
}

// TestAddTellsArgFirst: where a sum would be beyond MaxSoft too, ErrArg is told.
func TestAddTellsArgFirst(t *testing.T) {
	b := newBuffer(t, 1)
	add(t, b, []int{api.MaxSoft}, 0)
	addIs(t, "a number that may not be", b, []int{1, api.MaxSoft + 1}, 0, api.ErrArg)
	addIs(t, "too many", b, slices.Repeat([]int{1}, api.MaxBits+1), 0, api.ErrArg)
	addIs(t, "no version", b, []int{1}, 4, api.ErrArg)
	addIs(t, "a sum alone", b, []int{1}, 3, api.ErrLarge)
}

// TestAddInAnyOrder: what is added in another order is gathered the same.
func TestAddInAnyOrder(t *testing.T) {
	s := source(3)
	for _, n := range []int{1, 10, 33, 500} {
		there, back := newBuffer(t, n), newBuffer(t, n)
		var heard [][]int
		for range 9 {
			heard = append(heard, s.soft(s.below(2*n+1), 1000))
		}
		for i := range heard {
			add(t, there, heard[i], i%4)
			last := len(heard) - 1 - i
			add(t, back, heard[last], last%4)
		}
		gathered(t, "from the last on", back, there.Soft())
	}
}

// TestSignsStay: what was picked, and heard without a change of a sign, has no other sign in what was gathered.
func TestSignsStay(t *testing.T) {
	s := source(4)
	for _, n := range []int{1, 7, 24, 331} {
		coded := s.bits(n)
		b := newBuffer(t, n)
		for version := range 4 {
			picked, err := match.Pick(coded, version, n+s.below(n))
			soft := make([]int, len(picked))
			for i, x := range picked {
				soft[i] = (1 + s.below(1000)) * (1 - 2*int(x))
			}
			if err != api.OK {
				t.Fatal(err)
			}
			add(t, b, soft, version)
		}
		for i, x := range b.Soft() {
			if x == 0 || x < 0 != (coded[i] == 1) {
				t.Errorf("of %d bits, place %d: %d is heard of a bit %d", n, i, x, coded[i])
			}
		}
	}
}
