package derive

import (
	"slices"
	"testing"

	"quadrat/api"
)

// A type that extends another one has its layout at the front, whatever it adds.
func TestParentInFront(t *testing.T) {
	tables(t, 21, 400, func(l []api.Type) {
		for _, x := range l {
			if x.Parent == "" {
				continue
			}
			fields, _ := Fields(l, x.Name)
			front, _ := Fields(l, x.Parent)
			if !slices.Equal(fields[:len(front)], front) {
				t.Fatalf("%s has %v, its parent %v", x.Name, fields, front)
			}
			for _, f := range front {
				for at := range max(1, f.Many) {
					to := []api.Place{{Name: f.Name, At: at}}
					offset, kind, err := Offset(l, x.Name, to)
					n, k, e := Offset(l, x.Parent, to)
					if offset != n || kind != k || err != api.OK || e != api.OK {
						t.Fatalf("%v of %s is %d, %s, %d, of its parent %d, %s, %d", to, x.Name, offset, kind, err, n, k, e)
					}
				}
			}
		}
	})
}

// Dispatch of a type itself that is not abstract is its Binding.
func TestDispatchOfItself(t *testing.T) {
	dispatched := 0
	tables(t, 22, 400, func(l []api.Type) {
		for _, x := range l {
			for _, binding := range bindingNames {
				want, wanted := Binding(l, x.Name, binding)
				if x.Abstract && wanted == api.OK {
					want, wanted = "", api.ErrType
				}
				if s, err := Dispatch(l, x.Name, x.Name, binding); s != want || err != wanted {
					t.Fatalf("%s of %s: %q, %d, want %q, %d", binding, x.Name, s, err, want, wanted)
				}
				if wanted == api.OK {
					dispatched++
				}
			}
		}
	})
	if dispatched < 200 {
		t.Errorf("%d", dispatched)
	}
}

// Finals of a type ends with those of its parent, at the same offsets.
func TestFinalsOfParents(t *testing.T) {
	ended := 0
	tables(t, 23, 400, func(l []api.Type) {
		for _, x := range l {
			if x.Parent == "" {
				continue
			}
			all, err := Finals(l, x.Name)
			last, e := Finals(l, x.Parent)
			if err != api.OK || e != api.OK || len(all) < len(last) || !slices.Equal(all[len(all)-len(last):], last) {
				t.Fatalf("%s: %v, %d, its parent: %v, %d", x.Name, all, err, last, e)
			}
			if len(last) > 0 && len(all) > len(last) {
				ended++
			}
		}
	})
	if ended < 100 {
		t.Errorf("%d", ended)
	}
}

// Extends is reflexive and transitive.
func TestExtendsIsTransitive(t *testing.T) {
	tables(t, 24, 150, func(l []api.Type) {
		is := func(a, b api.Type) bool {
			yes, err := Extends(l, a.Name, b.Name)
			if err != api.OK {
				t.Fatal(err)
			}
			return yes
		}
		for _, a := range l {
			if !is(a, a) {
				t.Fatalf("%s does not extend itself", a.Name)
			}
			for _, b := range l {
				if !is(a, b) {
					continue
				}
				if a.Name != b.Name && is(b, a) {
					t.Fatalf("%s and %s extend each other", a.Name, b.Name)
				}
				for _, c := range l {
					if is(b, c) && !is(a, c) {
						t.Fatalf("%s extends %s, that %s", a.Name, b.Name, c.Name)
					}
				}
			}
		}
	})
}

// No two fields' units overlap, and Size is their sum: they lie one behind the other.
func TestUnitsDoNotOverlap(t *testing.T) {
	tables(t, 25, 400, func(l []api.Type) {
		for _, x := range l {
			fields, _ := Fields(l, x.Name)
			next := 0
			for _, f := range fields {
				units := 1
				if f.Type != "" {
					units, _ = Size(l, f.Type)
				}
				for at := range max(1, f.Many) {
					if offset, kind, err := Offset(l, x.Name, []api.Place{{Name: f.Name, At: at}}); offset != next || kind != f.Type || err != api.OK {
						t.Fatalf("%s(%d) of %s = %d, %q, %d, want %d, %q", f.Name, at, x.Name, offset, kind, err, next, f.Type)
					}
					next += units
				}
			}
			if n, err := Size(l, x.Name); n != next || err != api.OK {
				t.Fatalf("Size of %s = %d, %d, want %d", x.Name, n, err, next)
			}
		}
	})
}

// Ancestors alone tells what Select takes: the first guard that there is of just the type, its class, its parent's class and so on, and the default.
func TestSelectByAncestors(t *testing.T) {
	taken := map[int]int{}
	selections(t, 26, 400, func(l []api.Type, x api.Type, g []api.Guard) {
		line, _ := Ancestors(l, x.Name)
		want := -1
		for _, wanted := range wantedGuards(line) {
			if want < 0 {
				want = slices.IndexFunc(g, func(g api.Guard) bool { return g == wanted || g.Name == "" && wanted.Name == "" })
			}
		}
		if n, err := Select(l, x.Name, g); n != want || err != api.OK {
			t.Fatalf("%s by %v = %d, %d, want %d", x.Name, g, n, err, want)
		}
		taken[min(want, 2)]++
	})
	if len(taken) < 4 {
		t.Errorf("%v", taken)
	}
}

// wantedGuards are the guards that fit a type, the best one first.
func wantedGuards(line []string) []api.Guard {
	l := []api.Guard{{Name: line[0]}}
	for _, name := range line {
		l = append(l, api.Guard{Class: true, Name: name})
	}
	return append(l, api.Guard{})
}
