package scope

import (
	"slices"
	"testing"

	"quadrat/api"
)

// Read of Write are the module's exports.
func TestReadOfWrite(t *testing.T) {
	read := 0
	files(t, 11, 600, func(f api.File) {
		for _, u := range f.Units {
			text, err := Write(f, u.Name)
			want, wanted, bad := Exports(f, u.Name)
			if err != bad {
				t.Fatalf("Write(%s): %d, Exports: %d in %+v", u.Name, err, bad, f)
			}
			if err != api.OK {
				continue
			}
			read++
			module, version, names, l, err := Read(text)
			if module != u.Name || version != versionOfText(text) || !slices.Equal(names, wanted) || !slices.Equal(l, want) || err != api.OK {
				t.Fatalf("Read(%q) = %s, %d, %v, %v, %d", text, module, version, names, l, err)
			}
		}
	})
	if read < 300 {
		t.Errorf("%d", read)
	}
}

// versionOfText is the number at the end of a text's first line.
func versionOfText(text string) int {
	n := 0
	for i := range len(text) {
		switch c := text[i]; {
		case c == '\n':
			return n
		case c >= '0' && c <= '9':
			n = 10*n + int(c-'0')
		default:
			n = 0 // digits of the name
		}
	}
	return n
}

// A rename changes nothing but names: what was called a is called new, and nothing else means anything else.
func TestRenames(t *testing.T) {
	changed := 0
	files(t, 12, 400, func(f api.File) {
		p := api.Unit{Kind: "program", Name: "user", Uses: []api.Use{{Module: f.Units[0].Name}}}
		plain := withUnit(f, p)
		p.Uses = []api.Use{{Module: f.Units[0].Name, Names: []api.Rename{{Local: "new", Name: "a"}}}}
		renamed := withUnit(f, p)
		names, _ := Known(plain, "user")
		for i, name := range names {
			e, err := Find(plain, "user", name)
			if e.Path == "" && err == api.OK {
				continue // a subroutine of the file does not come by the use
			}
			if name == "a" {
				changed++
				name = "new"
				names[i] = name
			}
			if x, bad := Find(renamed, "user", name); x != e || bad != err {
				t.Fatalf("%s was %v, %d, is %v, %d in %+v", name, e, err, x, bad, f)
			}
		}
		isTop := func(name string) bool {
			return slices.ContainsFunc(f.Units, func(u api.Unit) bool { return u.Kind == "subroutine" && u.Name == name })
		}
		if isTop("a") && !slices.Contains(names, "a") {
			names = append(names, "a") // which it hid
		}
		slices.Sort(names)
		if l, err := Known(renamed, "user"); !slices.Equal(l, names) || err != api.OK {
			t.Fatalf("known are %v, %d, want %v in %+v", l, err, names, f)
		}
	})
	if changed < 50 {
		t.Errorf("%d", changed)
	}
}

func withUnit(f api.File, u api.Unit) api.File {
	return api.File{Units: append(slices.Clone(f.Units), u)}
}

// A rename in one step and another one in the next come to one rename.
func TestRenameOfRename(t *testing.T) {
	f := parsed(t, "module m|integer :: a|real :: b|end|module n|use m, x => a, y => b|end|program p|use n, a => x, b => y|end|program q|use m|end")
	for _, name := range []string{"a", "b", "x", "y"} {
		x, err := Find(f, "p", name)
		y, bad := Find(f, "q", name)
		if x.Path == "p" {
			y.Path = "p" // implicit in both
		}
		if x != y || err != bad {
			t.Errorf("%s: %v, %d and %v, %d", name, x, err, y, bad)
		}
	}
}

// Order has each module once.
func TestOrderOnce(t *testing.T) {
	files(t, 13, 600, func(f api.File) {
		f = tidied(f)
		l, err := Order(f)
		if err != api.OK {
			return
		}
		var want []string
		for _, u := range f.Units {
			if u.Kind == "module" {
				want = append(want, u.Name)
			}
		}
		slices.Sort(l)
		slices.Sort(want)
		if !slices.Equal(l, want) {
			t.Fatalf("%v, want %v", l, want)
		}
	})
}

// Find of a name that is Known is no implicit one: it stays where nothing is implicit, and just those stay.
func TestKnownIsNotImplicit(t *testing.T) {
	files(t, 14, 400, func(f api.File) {
		explicit := allExplicit(f)
		for _, path := range Units(f) {
			known, _ := Known(f, path)
			if l, err := Known(explicit, path); !slices.Equal(l, known) || err != api.OK {
				t.Fatalf("Known(%s): %v, and %v, %d in %+v", path, known, l, err, f)
			}
			for _, name := range []string{"a", "b", "c", "i", "j", "s", "t", "m0"} {
				e, err := Find(f, path, name)
				x, bad := Find(explicit, path, name)
				if !slices.Contains(known, name) {
					e, err = api.Entity{}, api.ErrName
				}
				if x != e || bad != err {
					t.Fatalf("%s in %s: %v, %d, want %v, %d in %+v", name, path, x, bad, e, err, f)
				}
			}
		}
	})
}

// allExplicit is a file with implicit none in all units.
func allExplicit(f api.File) api.File {
	units := slices.Clone(f.Units)
	for i := range units {
		units[i].None = true
		units[i].Contains = slices.Clone(units[i].Contains)
		for j := range units[i].Contains {
			units[i].Contains[j].None = true
		}
	}
	return api.File{Units: units}
}

// What a file's statements do is none of this layer's matters: without them all names mean the same.
func TestStatementsDoNotMatter(t *testing.T) {
	f := parsed(t, "module m|integer :: a|contains|subroutine s(b)|do i = 1, 2|b = a|end do|end|end|program p|use m|call s(x)|y = x|end")
	bare := parsed(t, "module m|integer :: a|contains|subroutine s(b)|end|end|program p|use m|end")
	for _, unit := range Units(f) {
		for _, name := range []string{"a", "b", "i", "s", "x", "y"} {
			x, err := Find(f, unit, name)
			y, bad := Find(bare, unit, name)
			if x != y || err != bad {
				t.Errorf("%s in %s: %v, %d and %v, %d", name, unit, x, err, y, bad)
			}
		}
	}
}
