package harq_test

import (
	"strconv"
	"testing"

	"roamwave/api"
	"roamwave/harq"
)

// way is how a sender and a receiver do together: of each block, by its text, how often it was told, and whether the sender was done with it by a yes.
type way struct {
	told map[string]int
	done map[string]bool
	lost int
}

// goOn sends blocks through an air of which so many shots of ten are heard, and so many answers; one that is lost is taken as no.
func goOn(t *testing.T, limit, blocks, shots, answers int, r *source) way {
	t.Helper()
	w := way{map[string]int{}, map[string]bool{}, 0}
	s, receiver := newSender(t, limit), harq.NewReceiver()
	for sent, steps := 0, 0; sent < blocks || len(s.Waiting()) > 0; steps++ {
		if steps > 20*blocks*limit {
			t.Fatalf("limit %d: after %d steps %v wait still", limit, steps, s.Waiting())
		}
		if sent < blocks && r.often(7) {
			if _, err := s.Submit(strconv.Itoa(sent)); err == api.OK {
				sent++
			} else if err != api.ErrFull {
				t.Fatal(err)
			}
		}
		l := s.Waiting()
		if len(l) == 0 {
			continue
		}
		x := shoot(t, s, l[r.below(len(l))])
		for range 1 + r.below(2) { // a shot may come twice
			got := take(receiver, x, r.often(shots))
			if got.err != api.OK || got.fresh != (got.data != "") || got.fresh && (!got.yes || got.data != x.Data) {
				t.Fatalf("Take of %+v: %+v", x, got)
			}
			if got.fresh {
				w.told[got.data]++
			}
			if got.yes != (w.told[x.Data] > 0) {
				t.Fatalf("Take of %+v, told %d times: %+v", x, w.told[x.Data], got)
			}
		}
		yes := w.told[x.Data] > 0 && r.often(answers)
		done, err := s.Answer(x.Process, yes)
		if err != api.OK || yes && !done {
			t.Fatalf("Answer(%d, %v): %v, %v", x.Process, yes, done, err)
		}
		if done && yes {
			w.done[x.Data] = true
		} else if done {
			w.lost++
		}
	}
	return w
}

// TestToldOnce: each block is told at most once, and each that the sender was done with by a yes is told, whatever is lost.
func TestToldOnce(t *testing.T) {
	r := source(30)
	for limit := 1; limit <= 8; limit++ {
		for _, shots := range []int{0, 1, 5, 9, 10} {
			for _, answers := range []int{0, 3, 8, 10} {
				w := goOn(t, limit, 100, shots, answers, &r)
				for data, times := range w.told {
					if times != 1 {
						t.Errorf("limit %d, %d of 10 heard, %d answered: %s is told %d times", limit, shots, answers, data, times)
					}
				}
				for data := range w.done {
					if w.told[data] != 1 {
						t.Errorf("limit %d, %d of 10 heard, %d answered: %s is done with, but not told", limit, shots, answers, data)
					}
				}
				if len(w.done)+w.lost != 100 {
					t.Errorf("limit %d, %d of 10 heard, %d answered: %d done with and %d lost of 100", limit, shots, answers, len(w.done), w.lost)
				}
				if shots == 10 && len(w.told) != 100 || shots == 10 && answers == 10 && w.lost != 0 {
					t.Errorf("limit %d, all heard, %d answered: %d told and %d lost of 100", limit, answers, len(w.told), w.lost)
				}
			}
		}
	}
}
