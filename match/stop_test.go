package match

import "testing"

// TestStop: a turn that is not gone through to its end ends where it is left. No call that is listed leaves one, so this is tested inside.
func TestStop(t *testing.T) {
	seen := 0
	for range turn(20) {
		seen++
		if seen == 5 {
			break
		}
	}
	for range round(20, 1, 50) {
		seen++
		if seen == 30 {
			break
		}
	}
	if seen != 30 {
		t.Errorf("%d places seen", seen)
	}
}
