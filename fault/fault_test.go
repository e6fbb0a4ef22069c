package fault

import (
	"errors"
	"slices"
	"testing"

	"cornbin/api"
)

func TestBare(t *testing.T) {
	for _, want := range []error{nil, api.ErrSum, api.ErrNone} {
		if got := Bare(want); got != want {
			t.Errorf("Bare(%v) = %#v", want, got)
		}
		if want == nil {
			continue
		}
		if got := Bare(&api.Fault{At: 7, Err: want}); got != want {
			t.Errorf("Bare of %v with its place = %#v", want, got)
		}
	}
}

func TestFirst(t *testing.T) {
	var asked []int
	wrong := func(at int) error {
		asked = append(asked, at)
		if at >= 2 {
			return api.ErrUsed
		}
		return nil
	}
	for _, many := range []int{-1, 0, 2} {
		if err := First(many, wrong); err != nil {
			t.Errorf("of %d: %v", many, err)
		}
	}
	asked = nil
	var f *api.Fault
	if err := First(9, wrong); !errors.As(err, &f) || *f != (api.Fault{At: 2, Err: api.ErrUsed}) {
		t.Errorf("%#v", err)
	}
	if !slices.Equal(asked, []int{0, 1, 2}) {
		t.Errorf("asked %v", asked)
	}
}
