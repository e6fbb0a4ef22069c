// Package fault: errors with and without their places, for the other packages.
package fault

import (
	"errors"

	"cornbin/api"
)

// Bare is an error without its place.
func Bare(err error) error {
	var f *api.Fault
	if errors.As(err, &f) {
		return f.Err
	}
	return err
}

// First of so many checks that tells an error: that error, with its place.
func First(many int, check func(at int) error) error {
	for at := range many {
		if err := check(at); err != nil {
			return &api.Fault{At: at, Err: err}
		}
	}
	return nil
}
