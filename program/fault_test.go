package program

import (
	"testing"

	"secrets/api"
)

// thrownBy is what the function throws; nil, if nothing.
func thrownBy(f func()) (thrown any) {
	defer func() { thrown = recover() }()
	f()
	return nil
}

// What was thrown comes out as it is; a slip that is no fault of a text is not hidden as one.
func TestCaught(t *testing.T) {
	e, at := caught(thrownBy(func() { throw(api.ErrUse, 7) })).Parts()
	if e != api.ErrUse || at != 7 {
		t.Errorf("%v at %d", e, at)
	}
	slip := "a slip"
	if thrownBy(func() { caught(slip) }) != slip {
		t.Error("a slip was taken for a fault")
	}
}
