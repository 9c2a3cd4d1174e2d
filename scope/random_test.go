package scope

import (
	"math/rand"
	"slices"
	"testing"

	"quadrat/api"
	"quadrat/tree"
)

// maker makes files at random, in which few names stand in many places.
type maker struct{ *rand.Rand }

func (m maker) one(words ...string) string { return words[m.Intn(len(words))] }

func (m maker) name() string { return m.one("a", "b", "c", "i", "j", "s", "t") }

func (m maker) module() string { return m.one("m0", "m1", "m2", "m3", "m4") }

func (m maker) file() api.File {
	var f api.File
	for range 1 + m.Intn(3) {
		f.Units = append(f.Units, m.unit("module", m.module()))
	}
	for range m.Intn(3) {
		f.Units = append(f.Units, m.unit("module", m.module()), m.unit("subroutine", m.name()))
	}
	if m.Intn(2) == 0 {
		f.Units = append(f.Units, m.unit("program", "p"))
	}
	m.Shuffle(len(f.Units), func(i, j int) { f.Units[i], f.Units[j] = f.Units[j], f.Units[i] })
	at := 0
	for i := range f.Units {
		at++
		f.Units[i].At = at
		for j := range f.Units[i].Contains {
			at++
			f.Units[i].Contains[j].At = at
		}
	}
	return f
}

func (m maker) unit(kind, name string) api.Unit {
	u := api.Unit{Kind: kind, Name: name, None: m.Intn(4) == 0}
	for range m.Intn(3) {
		u.Contains = append(u.Contains, m.inside(api.Unit{Kind: "subroutine", Name: m.name(), None: m.Intn(4) == 0}))
	}
	return m.inside(u)
}

// inside gives a unit arguments, uses and declarations.
func (m maker) inside(u api.Unit) api.Unit {
	for range m.Intn(3) {
		u.Uses = append(u.Uses, m.use())
	}
	for range m.Intn(3) {
		u.Decls = append(u.Decls, m.decl())
	}
	if u.Kind == "subroutine" {
		for range m.Intn(3) {
			u.Args = append(u.Args, m.name())
		}
	}
	return u
}

func (m maker) use() api.Use {
	u := api.Use{Module: m.module()}
	for range m.Intn(4) {
		u.Names = append(u.Names, api.Rename{Local: m.name(), Name: m.name()})
	}
	u.Only = len(u.Names) > 0 && m.Intn(2) == 0
	return u
}

func (m maker) decl() api.Decl {
	d := api.Decl{Name: m.name(), Kind: 1 + m.Intn(2), Parameter: m.Intn(4) == 0}
	for range m.Intn(2) {
		one := api.Expr{Kind: "int", N: 1}
		d.Bounds = append(d.Bounds, api.Expr{Kind: "triple", Kids: []api.Expr{one, one, {Kind: "none"}}})
	}
	return d
}

// files are files at random, each one valid.
func files(t *testing.T, seed int64, many int, each func(f api.File)) {
	m := maker{rand.New(rand.NewSource(seed))}
	for range many {
		f := m.file()
		if !tree.Valid(f) {
			t.Fatalf("not valid: %+v", f)
		}
		each(f)
	}
}

// table is what names mean.
type table map[string]map[api.Entity]bool

func (t table) add(name string, e api.Entity) {
	if t[name] == nil {
		t[name] = map[api.Entity]bool{}
	}
	t[name][e] = true
}

func (t table) addAll(name string, from map[api.Entity]bool) {
	for e := range from {
		t.add(name, e)
	}
}

func (t table) size() int {
	n := 0
	for _, l := range t {
		n += len(l)
	}
	return n
}

// reference is what the chapter's terms say of a file: tables that are filled from what modules have exported so far, until nothing is new.
type reference struct {
	file    api.File
	modules map[string]api.Unit
	exports map[string]table
}

func newReference(f api.File) reference {
	r := reference{f, map[string]api.Unit{}, map[string]table{}}
	for _, u := range f.Units {
		if _, ok := r.modules[u.Name]; !ok && u.Kind == "module" {
			r.modules[u.Name] = u
		}
	}
	for again := true; again; {
		again = false
		for name, u := range r.modules {
			next := r.own(u, name)
			if next.size() != r.exports[name].size() {
				again = true
			}
			r.exports[name] = next
		}
	}
	return r
}

// own is what a unit knows without its host.
func (r reference) own(u api.Unit, path string) table {
	t := table{}
	declared := map[string]bool{}
	for _, d := range u.Decls {
		declared[d.Name] = true
		t.add(d.Name, api.Entity{Path: path, Name: d.Name, Kind: d.Kind, Rank: len(d.Bounds), Parameter: d.Parameter})
	}
	for _, name := range u.Args {
		if !declared[name] {
			t.add(name, r.implicit(path, name))
		}
	}
	for _, s := range u.Contains {
		t.add(s.Name, api.Entity{Path: path, Name: s.Name})
	}
	for _, use := range u.Uses {
		there := r.exports[use.Module]
		renamed := map[string]bool{}
		for _, x := range use.Names {
			renamed[x.Name] = true
			t.addAll(x.Local, there[x.Name])
		}
		for name, l := range there {
			if !use.Only && !renamed[name] {
				t.addAll(name, l)
			}
		}
	}
	return t
}

func (r reference) implicit(path, name string) api.Entity {
	kinds := map[string]int{"a": api.KReal4, "b": api.KReal4, "c": api.KReal4, "i": api.KInt, "j": api.KInt, "s": api.KReal4, "t": api.KReal4}
	return api.Entity{Path: path, Name: name, Kind: kinds[name]}
}

// known is what a unit knows with its host, or none.
func (r reference) known(u api.Unit, path string, host *api.Unit) table {
	t := r.own(u, path)
	if host != nil {
		for name, l := range r.own(*host, host.Name) {
			if t[name] == nil {
				t.addAll(name, l)
			}
		}
	}
	for _, s := range r.file.Units {
		if s.Kind == "subroutine" && t[s.Name] == nil {
			t.add(s.Name, api.Entity{Name: s.Name})
		}
	}
	return t
}

// each does something with each unit: the first one of each path.
func (r reference) each(do func(u api.Unit, path string, host *api.Unit)) {
	done := map[string]bool{}
	for i, u := range r.file.Units {
		if !done[u.Name] {
			do(u, u.Name, nil)
		}
		done[u.Name] = true
		for _, s := range u.Contains {
			path := u.Name + "%" + s.Name
			if !done[path] {
				do(s, path, &r.file.Units[i])
			}
			done[path] = true
		}
	}
}

// isExplicit tells whether nothing is implicit in a unit.
func isExplicit(u api.Unit, host *api.Unit) bool {
	if u.None || host == nil || len(u.Uses) > 0 || len(u.Decls) > 0 {
		return u.None
	}
	return host.None
}

// Find and Known against the terms of the chapter, for all units and names.
func TestNamesByTerms(t *testing.T) {
	seen := map[api.Errno]int{}
	files(t, 1, 800, func(f api.File) {
		r := newReference(f)
		r.each(func(u api.Unit, path string, host *api.Unit) {
			known := r.known(u, path, host)
			for _, name := range []string{"a", "b", "c", "i", "j", "s", "t"} {
				want, err := api.Entity{}, api.OK
				switch {
				case len(known[name]) > 1:
					err = api.ErrTwice
				case len(known[name]) == 1:
					for e := range known[name] {
						want = e
					}
				case isExplicit(u, host):
					err = api.ErrName
				default:
					want = r.implicit(path, name)
				}
				seen[err]++
				if e, bad := Find(f, path, name); e != want || bad != err {
					t.Fatalf("Find(%s, %s) = %v, %d, want %v, %d in %+v", path, name, e, bad, want, err, f)
				}
			}
			if l, err := Known(f, path); !slices.Equal(l, sortedNames(known)) || err != api.OK {
				t.Fatalf("Known(%s) = %v, %d, want %v in %+v", path, l, err, known, f)
			}
		})
	})
	for _, err := range []api.Errno{api.OK, api.ErrTwice, api.ErrName} {
		if seen[err] < 300 {
			t.Errorf("%d was told just %d times", err, seen[err])
		}
	}
}

func sortedNames(t table) []string {
	var names []string
	for name := range t {
		names = append(names, name)
	}
	slices.Sort(names)
	return names
}

// Exports against the terms of the chapter.
func TestExportsByTerms(t *testing.T) {
	seen := map[api.Errno]int{}
	files(t, 2, 1000, func(f api.File) {
		r := newReference(f)
		for module, want := range r.exports {
			l, names, err := Exports(f, module)
			seen[err]++
			two := false
			for _, entities := range want {
				two = two || len(entities) > 1
			}
			if two {
				if l != nil || names != nil || err != api.ErrTwice {
					t.Fatalf("Exports(%s) = %v, %v, %d in %+v", module, l, names, err, f)
				}
				continue
			}
			right := slices.Equal(names, sortedNames(want)) && len(l) == len(names) && err == api.OK
			for i := range min(len(l), len(names)) {
				right = right && want[names[i]][l[i]]
			}
			if !right {
				t.Fatalf("Exports(%s) = %v, %v, %d, want %v in %+v", module, l, names, err, want, f)
			}
		}
	})
	if seen[api.OK] < 300 || seen[api.ErrTwice] < 100 {
		t.Errorf("%v", seen)
	}
}

// faults are all that is wrong in a file's units, in their order, and in each one in the order of the chapter.
func (r reference) faults() []api.Fault {
	var l []api.Fault
	add := func(u api.Unit, name string, err api.Errno) { l = append(l, api.Fault{At: u.At, Err: err, Name: name}) }
	look := func(u api.Unit, ahead []api.Unit) {
		if slices.ContainsFunc(ahead, func(x api.Unit) bool { return x.Name == u.Name }) {
			add(u, u.Name, api.ErrTwice)
		}
		for i := range u.Decls {
			for j := range i {
				if u.Decls[i].Name == u.Decls[j].Name {
					add(u, u.Decls[i].Name, api.ErrTwice)
				}
			}
		}
		for _, d := range u.Decls {
			for _, s := range u.Contains {
				if d.Name == s.Name {
					add(u, d.Name, api.ErrTwice)
				}
			}
		}
		for i := range u.Args {
			for j := range i {
				if u.Args[i] == u.Args[j] {
					add(u, u.Args[i], api.ErrTwice)
				}
			}
		}
		for _, use := range u.Uses {
			if _, ok := r.modules[use.Module]; !ok {
				add(u, use.Module, api.ErrNone)
				continue
			}
			for _, x := range use.Names {
				if len(r.exports[use.Module][x.Name]) == 0 {
					add(u, x.Name, api.ErrNone)
				}
			}
		}
	}
	for i, u := range r.file.Units {
		look(u, r.file.Units[:i])
		for j, s := range u.Contains {
			look(s, u.Contains[:j])
		}
	}
	return l
}

// reaches tells which modules lead to which others by uses, on whatever way.
func (r reference) reaches() map[[2]string]bool {
	to := map[[2]string]bool{}
	for a, u := range r.modules {
		for _, use := range u.Uses {
			if _, ok := r.modules[use.Module]; ok {
				to[[2]string{a, use.Module}] = true
			}
		}
	}
	for b := range r.modules {
		for a := range r.modules {
			for c := range r.modules {
				if to[[2]string{a, b}] && to[[2]string{b, c}] {
					to[[2]string{a, c}] = true
				}
			}
		}
	}
	return to
}

// Check against all that is wrong: the first one of it is told.
func TestCheckByTerms(t *testing.T) {
	seen := map[api.Errno]int{}
	count := 0
	see := func(f api.File) {
		r := newReference(f)
		l := r.faults()
		to := r.reaches()
		for _, u := range f.Units {
			if to[[2]string{u.Name, u.Name}] && u.Kind == "module" {
				l = append(l, api.Fault{At: u.At, Err: api.ErrState, Name: u.Name})
			}
		}
		l = append(l, api.Fault{})
		at, name, err := Check(f)
		seen[err]++
		count++
		if (api.Fault{At: at, Err: err, Name: name}) != l[0] {
			t.Fatalf("Check = %d, %s, %d, want %v in %+v", at, name, err, l, f)
		}
	}
	files(t, 3, 3000, see)
	files(t, 4, 3000, func(f api.File) { see(tidied(f)) })
	if seen[api.OK] < 100 || seen[api.ErrTwice] < 100 || seen[api.ErrNone] < 100 || seen[api.ErrState] < 100 {
		t.Errorf("%v", seen)
	}
}

// tidied is a file without what is there twice, and without uses of what is not there.
func tidied(f api.File) api.File {
	var units []api.Unit
	for _, u := range f.Units {
		if !slices.ContainsFunc(units, func(x api.Unit) bool { return x.Name == u.Name }) {
			units = append(units, u)
		}
	}
	for i, u := range units {
		var inside []api.Unit
		for _, s := range u.Contains {
			if !slices.ContainsFunc(inside, func(x api.Unit) bool { return x.Name == s.Name }) {
				inside = append(inside, withoutTwice(s, nil))
			}
		}
		u.Contains = inside
		units[i] = withoutTwice(u, inside)
	}
	f = api.File{Units: units}
	for again := true; again; {
		again = false
		r := newReference(f)
		for i := range f.Units {
			again = r.dropAbsent(&f.Units[i]) || again
			for j := range f.Units[i].Contains {
				again = r.dropAbsent(&f.Units[i].Contains[j]) || again
			}
		}
	}
	return f
}

func withoutTwice(u api.Unit, inside []api.Unit) api.Unit {
	var decls []api.Decl
	for _, d := range u.Decls {
		isTwice := slices.ContainsFunc(decls, func(x api.Decl) bool { return x.Name == d.Name })
		if !isTwice && !slices.ContainsFunc(inside, func(x api.Unit) bool { return x.Name == d.Name }) {
			decls = append(decls, d)
		}
	}
	u.Decls = decls
	slices.Sort(u.Args)
	u.Args = slices.Compact(u.Args)
	return u
}

// dropAbsent drops the uses of what is not there, and tells whether there were any.
func (r reference) dropAbsent(u *api.Unit) bool {
	var uses []api.Use
	for _, use := range u.Uses {
		there, ok := r.exports[use.Module]
		if ok && !slices.ContainsFunc(use.Names, func(x api.Rename) bool { return len(there[x.Name]) == 0 }) {
			uses = append(uses, use)
		}
	}
	dropped := len(uses) < len(u.Uses)
	u.Uses = uses
	return dropped
}

// Order against the terms: nothing that may come earlier in the file is left behind.
func TestOrderByTerms(t *testing.T) {
	seen := map[api.Errno]int{}
	see := func(f api.File) {
		r := newReference(f)
		l, err := Order(f)
		seen[err]++
		if want := r.orderError(); err != want {
			t.Fatalf("Order = %v, %d, want %d in %+v", l, err, want, f)
		}
		if err == api.OK {
			r.checkFirstPossible(t, l)
		}
	}
	files(t, 5, 3000, see)
	files(t, 6, 3000, func(f api.File) { see(tidied(f)) })
	if seen[api.OK] < 100 || seen[api.ErrNone] < 100 || seen[api.ErrState] < 100 {
		t.Errorf("%v", seen)
	}
}

func (r reference) orderError() api.Errno {
	to := r.reaches()
	err := api.OK
	for name, u := range r.modules {
		if to[[2]string{name, name}] {
			return api.ErrState
		}
		for _, use := range u.Uses {
			if _, ok := r.modules[use.Module]; !ok {
				err = api.ErrNone
			}
		}
	}
	return err
}

func (r reference) checkFirstPossible(t *testing.T, l []string) {
	t.Helper()
	if len(l) != len(r.modules) {
		t.Fatalf("%v of %d modules", l, len(r.modules))
	}
	for i := range l {
		for _, u := range r.file.Units {
			if u.Kind != "module" || slices.Contains(l[:i], u.Name) {
				continue
			}
			mayCome := !slices.ContainsFunc(r.modules[u.Name].Uses, func(x api.Use) bool { return !slices.Contains(l[:i], x.Module) })
			if mayCome {
				if u.Name != l[i] {
					t.Fatalf("%v, but %s may come at %d in %+v", l, u.Name, i, r.file)
				}
				break
			}
		}
	}
}
