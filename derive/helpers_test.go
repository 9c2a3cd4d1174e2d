package derive

import (
	"slices"
	"strconv"
	"strings"
	"testing"

	"quadrat/api"
)

// types are those of a text, with `;` between. A type is words: its name, perhaps with `<` and its parent; `abstract`; fields as `x`, `x*3`, `c:a`, `c:a*3`; bindings as `b=>procedure`, `b=>`; `~` and its finaliser.
func types(text string) []api.Type {
	var l []api.Type
	for _, part := range strings.Split(text, ";") {
		words := strings.Fields(part)
		name, parent, _ := strings.Cut(words[0], "<")
		x := api.Type{Name: name, Parent: parent}
		for _, word := range words[1:] {
			local, procedure, isBinding := strings.Cut(word, "=>")
			switch {
			case isBinding:
				x.Bindings = append(x.Bindings, api.Rename{Local: local, Name: procedure})
			case word == "abstract":
				x.Abstract = true
			case word[0] == '~':
				x.Final = word[1:]
			default:
				x.Fields = append(x.Fields, fieldOf(word))
			}
		}
		l = append(l, x)
	}
	return l
}

func fieldOf(word string) api.Field {
	word, many, _ := strings.Cut(word, "*")
	name, kind, _ := strings.Cut(word, ":")
	n, _ := strconv.Atoi(many)
	return api.Field{Name: name, Type: kind, Many: n}
}

// path is places with a `%` between, each one perhaps with `*` and its element.
func path(text string) []api.Place {
	var l []api.Place
	for _, word := range strings.FieldsFunc(text, func(r rune) bool { return r == '%' }) {
		name, at, _ := strings.Cut(word, "*")
		n, _ := strconv.Atoi(at)
		l = append(l, api.Place{Name: name, At: n})
	}
	return l
}

// shapes is a table with all that one can have.
const shapes = "base abstract x show=> size=>bsize;" +
	"point<base y w*3 show=>pshow ~pend;" +
	"box corner:point*2 n ~bend;" +
	"empty;" +
	"big<point in:box z*1 e:empty*4 size=>gsize more=>m;" +
	"heap abstract b:big*2 ~hend"

func checkWrong(t *testing.T, l []api.Type, name string, want api.Errno) {
	t.Helper()
	if s, err := Check(l); s != name || err != want {
		t.Errorf("Check of %+v = %q, %d, want %q, %d", l, s, err, name, want)
	}
}

func checkRight(t *testing.T, l []api.Type) {
	t.Helper()
	checkWrong(t, l, "", api.OK)
}

func checkSize(t *testing.T, l []api.Type, name string, want int) {
	t.Helper()
	if n, err := Size(l, name); n != want || err != api.OK {
		t.Errorf("Size of %s = %d, %d, want %d", name, n, err, want)
	}
}

func checkOffset(t *testing.T, l []api.Type, name, to string, offset int, kind string) {
	t.Helper()
	if n, k, err := Offset(l, name, path(to)); n != offset || k != kind || err != api.OK {
		t.Errorf("Offset of %s of %s = %d, %q, %d, want %d, %q", to, name, n, k, err, offset, kind)
	}
}

func checkNoOffset(t *testing.T, l []api.Type, name string, to []api.Place, want api.Errno) {
	t.Helper()
	if n, k, err := Offset(l, name, to); n != 0 || k != "" || err != want {
		t.Errorf("Offset of %v of %s = %d, %q, %d, want %d", to, name, n, k, err, want)
	}
}

// checkFields looks for the fields of a type, which stand as in a table.
func checkFields(t *testing.T, l []api.Type, name, want string) {
	t.Helper()
	var fields []api.Field
	for _, word := range strings.Fields(want) {
		fields = append(fields, fieldOf(word))
	}
	if f, err := Fields(l, name); !slices.Equal(f, fields) || err != api.OK {
		t.Errorf("Fields of %s = %v, %d, want %v", name, f, err, fields)
	}
}

func checkAncestors(t *testing.T, l []api.Type, name, want string) {
	t.Helper()
	if a, err := Ancestors(l, name); !slices.Equal(a, strings.Fields(want)) || err != api.OK {
		t.Errorf("Ancestors of %s = %v, %d, want %s", name, a, err, want)
	}
}

func checkExtends(t *testing.T, l []api.Type, name, of string, want bool) {
	t.Helper()
	if is, err := Extends(l, name, of); is != want || err != api.OK {
		t.Errorf("Extends(%s, %s) = %v, %d, want %v", name, of, is, err, want)
	}
}

func checkBinding(t *testing.T, l []api.Type, name, binding, want string, bad api.Errno) {
	t.Helper()
	if s, err := Binding(l, name, binding); s != want || err != bad {
		t.Errorf("Binding(%s, %s) = %q, %d, want %q, %d", name, binding, s, err, want, bad)
	}
}

func checkDispatch(t *testing.T, l []api.Type, declared, dynamic, binding, want string, bad api.Errno) {
	t.Helper()
	if s, err := Dispatch(l, declared, dynamic, binding); s != want || err != bad {
		t.Errorf("Dispatch(%s, %s, %s) = %q, %d, want %q, %d", declared, dynamic, binding, s, err, want, bad)
	}
}

// checkFinals looks for calls, which stand as `name*offset` with `%` between.
func checkFinals(t *testing.T, l []api.Type, name, want string) {
	t.Helper()
	if f, err := Finals(l, name); !slices.Equal(f, path(want)) || err != api.OK {
		t.Errorf("Finals of %s = %v, %d, want %s", name, f, err, want)
	}
}

// guards are those of words: a name for just this type, `class:` and a name, and `default`.
func guards(text string) []api.Guard {
	var l []api.Guard
	for _, word := range strings.Fields(text) {
		name, isClass := strings.CutPrefix(word, "class:")
		if name == "default" {
			name = ""
		}
		l = append(l, api.Guard{Class: isClass, Name: name})
	}
	return l
}

func checkSelect(t *testing.T, l []api.Type, dynamic, text string, want int, bad api.Errno) {
	t.Helper()
	if n, err := Select(l, dynamic, guards(text)); n != want || err != bad {
		t.Errorf("Select(%s, %s) = %d, %d, want %d, %d", dynamic, text, n, err, want, bad)
	}
}
