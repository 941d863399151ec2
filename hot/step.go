package hot

import (
	"errors"

	"annexe/api"
)

// step is a part of a recovery.
type step struct {
	name string
	do   func() error
}

// failure is a step that failed: it wraps the error.
type failure struct {
	step string
	err  error
}

func (f *failure) Error() string { return f.step + ": " + f.err.Error() }

func (f *failure) Unwrap() error { return f.err }

// inOrder executes steps one by one up to the first error, which it wraps with
// the step.
func inOrder(steps ...step) error {
	for _, s := range steps {
		if err := s.do(); err != nil {
			return &failure{step: s.name, err: err}
		}
	}
	return nil
}

// failing returns the error of a disk call, or nil if there is none.
func failing(err api.Errno) error {
	if err == api.OK {
		return nil
	}
	return err
}

// number returns the error of the disk call with which a step failed.
func number(err error) api.Errno {
	n := api.OK
	errors.As(err, &n)
	return n
}
