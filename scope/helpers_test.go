package scope

import (
	"slices"
	"strings"
	"testing"

	"quadrat/api"
	"quadrat/tree"
)

// parsed is the file of a text in the new form, with `|` between its lines.
func parsed(t testing.TB, text string) api.File {
	t.Helper()
	f, at, err := tree.ParseText(strings.ReplaceAll(text, "|", "\n"), false)
	if err != api.OK {
		t.Fatalf("line %d: %d in %s", at, err, text)
	}
	return f
}

func variable(path, name string, kind, rank int) api.Entity {
	return api.Entity{Path: path, Name: name, Kind: kind, Rank: rank}
}

func parameter(path, name string, kind, rank int) api.Entity {
	return api.Entity{Path: path, Name: name, Kind: kind, Rank: rank, Parameter: true}
}

func subroutine(path, name string) api.Entity {
	return api.Entity{Path: path, Name: name}
}

// found is what a name in a unit is to mean.
type found struct {
	unit, name string
	want       api.Entity
}

func checkFound(t *testing.T, f api.File, l []found) {
	t.Helper()
	for _, c := range l {
		if e, err := Find(f, c.unit, c.name); e != c.want || err != api.OK {
			t.Errorf("Find(%s, %s) = %v, %d, want %v", c.unit, c.name, e, err, c.want)
		}
	}
}

func checkNotFound(t *testing.T, f api.File, unit, name string, want api.Errno) {
	t.Helper()
	if e, err := Find(f, unit, name); e != (api.Entity{}) || err != want {
		t.Errorf("Find(%s, %s) = %v, %d, want %d", unit, name, e, err, want)
	}
}

// checkKnown looks for the names that a unit knows, which stand with blanks between.
func checkKnown(t *testing.T, f api.File, unit, want string) {
	t.Helper()
	if l, err := Known(f, unit); !slices.Equal(l, strings.Fields(want)) || err != api.OK {
		t.Errorf("Known(%s) = %v, %d, want %s", unit, l, err, want)
	}
}

// checkExports looks for what a module exports: its names, and for each one what it means.
func checkExports(t *testing.T, f api.File, module, names string, want ...api.Entity) {
	t.Helper()
	if l, n, err := Exports(f, module); !slices.Equal(l, want) || !slices.Equal(n, strings.Fields(names)) || err != api.OK {
		t.Errorf("Exports(%s) = %v, %v, %d, want %v, %s", module, l, n, err, want, names)
	}
}

func checkFault(t *testing.T, text string, at int, name string, want api.Errno) {
	t.Helper()
	if a, n, err := Check(parsed(t, text)); a != at || n != name || err != want {
		t.Errorf("Check of %s = %d, %s, %d, want %d, %s, %d", text, a, n, err, at, name, want)
	}
}

func checkOrder(t *testing.T, text, want string, err api.Errno) {
	t.Helper()
	if l, e := Order(parsed(t, text)); !slices.Equal(l, strings.Fields(want)) || e != err {
		t.Errorf("Order of %s = %v, %d, want %s, %d", text, l, e, want, err)
	}
}

// checkMalformed reads a text that is no module file.
func checkMalformed(t *testing.T, text string) {
	t.Helper()
	if module, version, names, l, err := Read(text); module != "" || version != 0 || len(names) > 0 || len(l) > 0 || err != api.ErrForm {
		t.Errorf("Read(%q) = %s, %d, %v, %v, %d", text, module, version, names, l, err)
	}
}

// noFiles are files that are not tree.Valid.
func noFiles() []api.File {
	return []api.File{
		{},
		{Units: []api.Unit{{Kind: "program", Name: "P"}}},
		{Units: []api.Unit{{Kind: "module", Name: "p", Args: []string{"a"}}}},
		{Units: []api.Unit{{Kind: "module", Name: "m"}, {Kind: "function", Name: "p"}}},
		{Units: []api.Unit{{Kind: "program", Name: "p", Body: []api.Stmt{{Kind: "goto"}}}}},
		{Units: []api.Unit{{Kind: "program", Name: "p", Contains: []api.Unit{{Kind: "module", Name: "m"}}}}},
		{Units: make([]api.Unit, 3)},
	}
}
