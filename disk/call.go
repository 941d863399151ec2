package disk

import (
	"errors"
	"strconv"

	"annexe/api"
)

// failure is a call that fails by a fault: it wraps the error of the fault.
type failure struct {
	call int
	err  api.Errno
}

func (f *failure) Error() string { return "call " + strconv.Itoa(f.call) + ": " + f.err.Error() }

func (f *failure) Unwrap() error { return f.err }

// call makes a counted call: act is what it does if neither the state of the
// machine nor a fault prevents it.
func (d *Disk) call(act func() api.Errno) api.Errno {
	if err := d.begin(); err != nil {
		return number(err)
	}
	err := act()
	if d.down {
		return api.ErrCrash
	}
	return err
}

// callOn makes a counted call on the file to which a path visibly refers.
func (d *Disk) callOn(name string, act func(*file) api.Errno) api.Errno {
	return d.call(func() api.Errno {
		f := d.find(name)
		if f == nil {
			return api.ErrNone
		}
		return act(f)
	})
}

// begin counts a call. It returns why the call has no effect, or nil. At a
// crash the machine goes down here, and the call still takes effect.
func (d *Disk) begin() error {
	if d == nil {
		return api.ErrState
	}
	if d.down {
		return api.ErrCrash
	}
	d.ops++
	if err, set := d.faults[d.ops]; set {
		return &failure{call: d.ops, err: err}
	}
	d.down = d.ops == d.crash
	return nil
}

// number returns the error of the api that an error is or wraps.
func number(err error) api.Errno {
	var n api.Errno
	if errors.As(err, &n) {
		return n
	}
	return api.OK
}
