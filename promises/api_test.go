// Package promises tests what holds in every package.
package promises

import (
	"errors"
	"testing"

	"keyholder/api"
	"keyholder/plain"
)

// P5: the numbers.
func TestBounds(t *testing.T) {
	for _, c := range []struct {
		name      string
		got, want int
	}{
		{"MaxName", api.MaxName, 8},
		{"MaxKey", api.MaxKey, 1000000006},
		{"MaxNum", api.MaxNum, 1073741824},
		{"MaxTime", api.MaxTime, 1000000},
		{"MaxPeople", api.MaxPeople, 20},
		{"MaxEntries", api.MaxEntries, 60},
		{"MaxHeld", api.MaxHeld, 40},
		{"MaxDepth", api.MaxDepth, 10},
		{"MaxText", api.MaxText, 4000},
		{"MaxBytes", api.MaxBytes, 262144},
		{"MaxScript", api.MaxScript, 80},
		{"Workers", api.Workers, 16},
	} {
		if c.got != c.want {
			t.Errorf("%s: %d, not %d", c.name, c.got, c.want)
		}
	}
}

// P5: the texts; and the numbers that plain tells.
func TestErrors(t *testing.T) {
	for i, c := range []struct {
		err  error
		text string
	}{
		{api.ErrText, "text"},
		{api.ErrBound, "bound"},
		{api.ErrShape, "shape"},
		{api.ErrName, "name"},
		{api.ErrNone, "none"},
		{api.ErrExist, "exist"},
		{api.ErrFull, "full"},
		{api.ErrOrder, "order"},
		{api.ErrMark, "mark"},
		{api.ErrKey, "key"},
		{api.ErrEarly, "early"},
		{api.ErrLate, "late"},
		{api.ErrFloor, "floor"},
		{api.ErrStale, "stale"},
		{api.ErrGap, "gap"},
		{api.ErrOff, "off"},
	} {
		if c.err.Error() != "keyholder: "+c.text {
			t.Errorf("%s: %q", c.text, c.err.Error())
		}
		if code, at := plain.Code(c.err); code != i+1 || at != -1 {
			t.Errorf("%s: code %d at %d", c.text, code, at)
		}
		fault := &api.Fault{At: 7, Err: c.err}
		if code, at := plain.Code(fault); code != i+1 || at != 7 || !errors.Is(fault, c.err) || fault.Error() != c.err.Error() {
			t.Errorf("fault of %s: code %d at %d", c.text, code, at)
		}
	}
	if code, at := plain.Code(nil); code != 0 || at != -1 {
		t.Errorf("nil: code %d at %d", code, at)
	}
	if code, at := plain.Code(errors.New("another")); code != -1 || at != -1 {
		t.Errorf("another: code %d at %d", code, at)
	}
}
