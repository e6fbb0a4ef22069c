// Package everywhere tests what holds for all packages: see ../shared/DOC.md, 'What holds everywhere'.
package everywhere

import (
	"errors"
	"testing"

	"cornbin/api"
	"cornbin/plain"
)

type namedError struct {
	err  error
	text string
}

func allErrors() []namedError {
	return []namedError{
		{api.ErrText, "cornbin: text"},
		{api.ErrBound, "cornbin: bound"},
		{api.ErrShape, "cornbin: shape"},
		{api.ErrName, "cornbin: name"},
		{api.ErrNone, "cornbin: none"},
		{api.ErrExist, "cornbin: exist"},
		{api.ErrFull, "cornbin: full"},
		{api.ErrOrder, "cornbin: order"},
		{api.ErrSum, "cornbin: sum"},
		{api.ErrClash, "cornbin: clash"},
		{api.ErrUsed, "cornbin: used"},
		{api.ErrOff, "cornbin: off"},
	}
}

// P5: the constants.
func TestConstants(t *testing.T) {
	for _, c := range []struct {
		name      string
		got, want int
	}{
		{"Window", api.Window, 8},
		{"MinPiece", api.MinPiece, 16},
		{"MaxPiece", api.MaxPiece, 64},
		{"MaxFile", api.MaxFile, 4000},
		{"MaxName", api.MaxName, 12},
		{"MaxFiles", api.MaxFiles, 30},
		{"MaxPieces", api.MaxPieces, 250},
		{"MaxNodes", api.MaxNodes, 6},
		{"MaxTokens", api.MaxTokens, 20},
		{"MaxText", api.MaxText, 40000},
		{"MaxBytes", api.MaxBytes, 1048576},
		{"MaxScript", api.MaxScript, 80},
		{"Workers", api.Workers, 16},
	} {
		if c.got != c.want {
			t.Errorf("%s = %d, want %d", c.name, c.got, c.want)
		}
	}
}

// P5: the errors, their texts, and that no two are one.
func TestErrors(t *testing.T) {
	l := allErrors()
	for i, e := range l {
		if e.err.Error() != e.text {
			t.Errorf("error %d: %q, want %q", i, e.err, e.text)
		}
		for k, o := range l {
			if errors.Is(e.err, o.err) != (i == k) {
				t.Errorf("%q is %q: %t", e.err, o.err, i != k)
			}
		}
	}
}

// P3: a Fault tells a place, and wraps the error.
func TestFault(t *testing.T) {
	for _, e := range allErrors() {
		var err error = &api.Fault{At: 7, Err: e.err}
		var f *api.Fault
		if !errors.Is(err, e.err) || !errors.As(err, &f) || f.At != 7 || err.Error() != e.text {
			t.Errorf("fault of %q: %v", e.text, err)
		}
	}
}

// P5: errors by numbers.
func TestCodes(t *testing.T) {
	for i, e := range allErrors() {
		if code, at := plain.Code(e.err); code != i+1 || at != -1 {
			t.Errorf("%q: code %d at %d", e.text, code, at)
		}
		if code, at := plain.Code(&api.Fault{At: i, Err: e.err}); code != i+1 || at != i {
			t.Errorf("fault of %q: code %d at %d", e.text, code, at)
		}
	}
	if code, at := plain.Code(nil); code != 0 || at != -1 {
		t.Errorf("nil: code %d at %d", code, at)
	}
	if code, at := plain.Code(errors.New("cornbin: text")); code != -1 || at != -1 {
		t.Errorf("another error: code %d at %d", code, at)
	}
}
