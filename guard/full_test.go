package guard

import (
	"strings"
	"testing"

	"roamwave/api"
)

// TestNoCountLeft: behind 2^24 - 1. It begins near the end, as sending all of them would take about a minute.
func TestNoCountLeft(t *testing.T) {
	s := &Sender{key: 0x12345678, begin: 1<<24 - 2}
	if p, err := s.Send("ahead"); p.Short != 4094 || err != api.OK {
		t.Fatal(p, err)
	}
	last := api.Packet{Short: 4095, Data: "\x98\x03\xb9\x9e", Seal: "\xc9\x63\x2e"}
	if p, err := s.Send("last"); p != last || err != api.OK {
		t.Fatalf("%#v, %v, want %#v", p, err, last)
	}
	full := func() {
		t.Helper()
		for _, data := range []string{"", "x", strings.Repeat("x", 500)} {
			if p, err := s.Send(data); p != (api.Packet{}) || err != api.ErrFull {
				t.Errorf("%#v, %v", p, err)
			}
		}
		if p, err := s.Send(strings.Repeat("x", 501)); p != (api.Packet{}) || err != api.ErrLarge {
			t.Errorf("%#v, %v", p, err)
		}
	}
	full()
	if err := s.Confirm(1 << 24); err != api.ErrAbsent {
		t.Error(err)
	}
	if err := s.Confirm(1<<24 - 2); err != api.OK {
		t.Error(err)
	}
	full()
	if l, err := s.Move(0x12345678); len(l) != 1 || l[0] != last || err != api.OK {
		t.Errorf("%#v, %v", l, err)
	}
	if err := s.Confirm(1<<24 - 1); err != api.OK {
		t.Error(err)
	}
	full()
	if l, err := s.Move(3); len(l) != 0 || err != api.OK {
		t.Errorf("%#v, %v", l, err)
	}
	full()
}
