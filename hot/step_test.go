package hot

import (
	"errors"
	"strings"
	"testing"

	"annexe/api"
)

// The chapter's section Ways: steps are executed one by one up to the first
// error, which is wrapped with the step.
func TestInOrder(t *testing.T) {
	var done []string
	doing := func(name string, err error) step {
		return step{name, func() error {
			done = append(done, name)
			return err
		}}
	}
	for _, c := range []struct {
		steps []step
		done  string
		err   error
		text  string
	}{
		{nil, "", nil, ""},
		{[]step{doing("a", nil), doing("b", nil), doing("c", nil)}, "a b c", nil, ""},
		{[]step{doing("a", api.ErrIO), doing("b", nil)}, "a", api.ErrIO, "a: error 30"},
		{[]step{doing("a", nil), doing("b", api.ErrQuota), doing("c", api.ErrIO)}, "a b", api.ErrQuota, "b: error 31"},
		{[]step{doing("a", nil), doing("b", errAbsent)}, "a b", errAbsent, "b: the file is not visible"},
		{[]step{{"a", func() error { return inOrder(doing("b", nil), doing("c", api.ErrFull)) }}, doing("d", nil)}, "b c", api.ErrFull, "a: c: error 6"},
	} {
		done = nil
		err := inOrder(c.steps...)
		if s := strings.Join(done, " "); s != c.done {
			t.Errorf("%q was done, want %q", s, c.done)
		}
		if !errors.Is(err, c.err) || err != nil && err.Error() != c.text {
			t.Errorf("%v, want %q", err, c.text)
		}
		want, _ := c.err.(api.Errno)
		failsWith(t, c.text, number(err), want)
	}
	if failing(api.OK) != nil || failing(api.ErrIO) != api.ErrIO || failing(-1) != api.Errno(-1) {
		t.Errorf("%v, %v, %v", failing(api.OK), failing(api.ErrIO), failing(-1))
	}
}
