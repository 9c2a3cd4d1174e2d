package tree

import (
	"math/rand"
	"reflect"
	"slices"
	"testing"

	"quadrat/api"
)

// stretch is the memory of a list, with all of its capacity.
type stretch struct{ from, to uintptr }

// memory returns the memory of all lists in a value.
func memory(v reflect.Value) (l []stretch) {
	switch v.Kind() {
	case reflect.Struct:
		for i := range v.NumField() {
			l = append(l, memory(v.Field(i))...)
		}
	case reflect.Slice:
		if size := uintptr(v.Cap()) * v.Type().Elem().Size(); size > 0 {
			l = append(l, stretch{v.Pointer(), v.Pointer() + size})
		}
		for i := range v.Len() {
			l = append(l, memory(v.Index(i))...)
		}
	}
	return l
}

// Results are new memory, and no two lists of one share any.
func TestNewMemory(t *testing.T) {
	m := maker{rand.New(rand.NewSource(8))}
	for range 200 {
		f := m.file()
		l := m.laid(f)
		if len(l) > api.MaxStmts {
			continue
		}
		given := slices.Clone(l)
		g, _, err := Parse(l)
		printed, bad := Print(g)
		if err != api.OK || bad != api.OK {
			continue
		}
		Valid(g)
		Count(g)
		PrintText(g)
		if !slices.Equal(l, given) || !equal(noLines(g), f) {
			t.Fatalf("the arguments have become %v, %+v", l, g)
		}
		all := slices.Concat(memory(reflect.ValueOf(g)), memory(reflect.ValueOf(l)), memory(reflect.ValueOf(printed)))
		slices.SortFunc(all, func(a, b stretch) int { return int(a.from) - int(b.from) })
		for i := 1; i < len(all); i++ {
			if all[i].from < all[i-1].to {
				t.Fatalf("two lists of %+v share memory", g)
			}
		}
		clear(l)
		if !equal(noLines(g), f) {
			t.Fatal("the tree has changed with the lines")
		}
		again, _ := Print(g)
		clear(printed)
		if third, _ := Print(g); !slices.Equal(third, again) {
			t.Fatal("the tree has changed with the printed lines")
		}
	}
}
