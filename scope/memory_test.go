package scope

import (
	"fmt"
	"reflect"
	"slices"
	"testing"

	"quadrat/api"
	"quadrat/tree"
)

// all is a file with something in all lists that a unit can have.
const all = "module m|integer :: x(2) = [1, 2], y|end|" +
	"subroutine s(a, b)|use m, only: x, z => y|real(8) :: a(:), c(2, 3)|" +
	"a(1:2) = -(b + c(1, :))|if (a(1) > 0) then|print *, a, 'text'|else|call t(a(::2), [1, 2])|end if|do i = 1, 10, 2|where (a > 0) a = 0|end do|" +
	"contains|subroutine t(d, e)|use m|integer :: e(:)|d = e(1)|end|end"

// What a call returns is new: what becomes of it changes neither the file nor another result.
func TestUnitIsNew(t *testing.T) {
	f, same := parsed(t, all), parsed(t, all)
	for i, path := range []string{"m", "s", "s%t"} {
		u, err := Unit(f, path)
		want := []api.Unit{same.Units[0], same.Units[1], same.Units[1].Contains[0]}[i]
		if !equal(u, want) || err != api.OK {
			t.Fatalf("%+v, %d, want %+v", u, err, want)
		}
		overwrite(reflect.ValueOf(&u).Elem())
		if !equal(f, same) {
			t.Fatalf("%s is shared: %+v", path, f)
		}
		if v, err := Unit(f, path); !equal(v, want) || err != api.OK {
			t.Fatalf("%+v, %d", v, err)
		}
	}
}

// equal holds two values against each other by how they are printed, where empty lists and nil ones are the same.
func equal(a, b any) bool {
	return fmt.Sprintf("%+v", a) == fmt.Sprintf("%+v", b)
}

// overwrite changes all that a value reaches.
func overwrite(v reflect.Value) {
	switch v.Kind() {
	case reflect.Struct:
		for i := range v.NumField() {
			overwrite(v.Field(i))
		}
	case reflect.Slice:
		for i := range v.Len() {
			overwrite(v.Index(i))
		}
	case reflect.String:
		v.SetString("overwritten")
	case reflect.Int:
		v.SetInt(-77)
	case reflect.Bool:
		v.SetBool(!v.Bool())
	}
}

// Arguments stay as they are, and equal calls tell the same.
func TestArgumentsStay(t *testing.T) {
	files(t, 21, 200, func(f api.File) {
		given, _ := tree.Print(f)
		for range 2 {
			for _, path := range Units(f) {
				l, _ := Known(f, path)
				again, _ := Known(f, path)
				if !slices.Equal(l, again) {
					t.Fatalf("%v, %v", l, again)
				}
				for i := range l {
					l[i] = "overwritten"
				}
				entities, names, _ := Exports(f, path)
				for i := range entities {
					entities[i], names[i] = api.Entity{}, "overwritten"
				}
				if after, _, _ := Exports(f, path); len(after) > 0 && after[0] == (api.Entity{}) {
					t.Fatal("kept")
				}
			}
			Check(f)
			l, _ := Order(f)
			for i := range l {
				l[i] = "overwritten"
			}
		}
		if now, _ := tree.Print(f); !slices.Equal(now, given) {
			t.Fatalf("changed: %v", now)
		}
	})
}
