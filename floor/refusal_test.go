package floor

import (
	"errors"
	"testing"

	"oast/api"
)

// A refusal is found in what it is wrapped in, which says where it came from.
func TestRefusalIsFound(t *testing.T) {
	f := New()
	if _, err := f.perform("pay 1 5"); err != nil {
		t.Fatal(err)
	}
	_, err := f.perform("draw 1 6")
	var r refusal
	if !errors.As(err, &r) || r != refusal(api.ErrFunds) || err.Error() != "draw: refused with 9" {
		t.Errorf("error %v, refusal %d", err, r)
	}
}

// A fault of the program is not answered as one of the line.
func TestFaultsAreNotHidden(t *testing.T) {
	f := New()
	f.questions["audit"] = action{0, func([]int) ([]int, api.Errno) { panic("a fault") }}
	defer func() {
		if cause := recover(); cause != "a fault" {
			t.Errorf("recovered %v", cause)
		}
	}()
	f.Do("audit")
}
