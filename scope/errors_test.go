package scope

import (
	"testing"

	"quadrat/api"
)

// All functions of a file ask first whether it is one.
func TestNoFiles(t *testing.T) {
	for _, f := range noFiles() {
		checkNotFound(t, f, "p", "a", api.ErrArg)
		checkNotFound(t, f, "nothing", "A", api.ErrArg)
		if l, err := Known(f, "p"); l != nil || err != api.ErrArg {
			t.Errorf("Known of %v: %v, %d", f, l, err)
		}
		for _, module := range []string{"m", "nothing"} {
			if l, names, err := Exports(f, module); l != nil || names != nil || err != api.ErrArg {
				t.Errorf("Exports of %v: %v, %v, %d", f, l, names, err)
			}
			if s, err := Write(f, module); s != "" || err != api.ErrArg {
				t.Errorf("Write of %v: %s, %d", f, s, err)
			}
		}
		if u, err := Unit(f, "p"); u.Kind != "" || u.Name != "" || len(u.Body)+len(u.Contains) > 0 || err != api.ErrArg {
			t.Errorf("Unit of %v: %v, %d", f, u, err)
		}
		if at, name, err := Check(f); at != 0 || name != "" || err != api.ErrArg {
			t.Errorf("Check of %v: %d, %s, %d", f, at, name, err)
		}
		if l, err := Order(f); l != nil || err != api.ErrArg {
			t.Errorf("Order of %v: %v, %d", f, l, err)
		}
	}
}

// Units are asked by paths, and ahead of names.
func TestNoUnits(t *testing.T) {
	f := parsed(t, "module m|contains|subroutine s|end|end|program p|end")
	for _, path := range []string{"", "s", "m%", "%s", "m%p", "p%s", "m%s%s", "M", "m%S", " m", "q", "m\x00"} {
		checkNotFound(t, f, path, "a", api.ErrNone)
		checkNotFound(t, f, path, "A", api.ErrNone)
		if l, err := Known(f, path); l != nil || err != api.ErrNone {
			t.Errorf("Known(%s) = %v, %d", path, l, err)
		}
		if u, err := Unit(f, path); u.Kind != "" || u.Name != "" || u.At != 0 || err != api.ErrNone {
			t.Errorf("Unit(%s) = %v, %d", path, u, err)
		}
	}
	for _, path := range []string{"m", "m%s", "p"} {
		if _, err := Find(f, path, "a"); err != api.OK {
			t.Errorf("Find(%s, a): %d", path, err)
		}
	}
}
