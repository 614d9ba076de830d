package link

import (
	"testing"

	"roamwave/api"
)

// TestMust: what went well is passed on, what did not is a panic. No call that is listed gets there, so this is tested inside.
func TestMust(t *testing.T) {
	if got := must("as it is", api.OK); got != "as it is" {
		t.Errorf("passed on: %q", got)
	}
	defer func() {
		if told := recover(); told != api.ErrForm {
			t.Errorf("the panic tells %v", told)
		}
	}()
	must(3, api.ErrForm)
	t.Error("an error is passed over")
}

// TestNoEar: one that New did not give has no order, and refuses all points.
func TestNoEar(t *testing.T) {
	var e Ear
	if data, ok, err := e.Take([]api.Point{{I: 1, Q: 1}}, 0); data != "" || ok || err != api.ErrArg {
		t.Errorf("%q, %v, %v", data, ok, err)
	}
}
