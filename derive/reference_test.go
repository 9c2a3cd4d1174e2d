package derive

import (
	"math/rand"
	"regexp"
	"slices"
	"strconv"
	"testing"

	"quadrat/api"
)

// What the chapter's terms say of a table, type by type from its text, without layouts that are kept: values are written out whole.

var aName = regexp.MustCompile(`^[a-z][a-z0-9_]{0,11}$`)

// ahead is a type of a list, which must stand ahead of the last one.
func ahead(l []api.Type, name string) (api.Type, bool) {
	for _, x := range l[:len(l)-1] {
		if x.Name == name {
			return x, true
		}
	}
	return api.Type{}, false
}

// lineOf is a type of a list and its ancestors, the farthest first.
func lineOf(l []api.Type, x api.Type) []api.Type {
	for _, p := range l {
		if x.Parent != "" && p.Name == x.Parent {
			return append(lineOf(l, p), x)
		}
	}
	return []api.Type{x}
}

// wrongIn is what is wrong with a list's first wrong type.
func wrongIn(l []api.Type) (string, api.Errno) {
	for i, x := range l {
		if err := wrongLast(l[:i+1]); err != api.OK {
			return x.Name, err
		}
	}
	return "", api.OK
}

// wrongLast is what is wrong with the last type of a list whose others are right.
func wrongLast(l []api.Type) api.Errno {
	x := l[len(l)-1]
	optional := []string{x.Parent, x.Final}
	needed := []string{x.Name}
	manyRight := true
	for _, f := range x.Fields {
		needed, optional = append(needed, f.Name), append(optional, f.Type)
		manyRight = manyRight && f.Many >= 0 && f.Many <= 100
	}
	for _, b := range x.Bindings {
		needed, optional = append(needed, b.Local), append(optional, b.Name)
	}
	for _, name := range optional {
		if name != "" {
			needed = append(needed, name)
		}
	}
	if !manyRight || slices.ContainsFunc(needed, func(name string) bool { return !aName.MatchString(name) }) {
		return api.ErrArg
	}
	if hasTwice(l, x) {
		return api.ErrTwice
	}
	for _, name := range typesAsked(x) {
		if _, ok := ahead(l, name); !ok {
			return api.ErrNone
		}
	}
	if hasWrongType(l, x) {
		return api.ErrType
	}
	if len(l) > 30 || len(x.Fields) > 20 || !isSmall(l, x) {
		return api.ErrLimit
	}
	return api.OK
}

// typesAsked are the names of the types that a type needs.
func typesAsked(x api.Type) []string {
	var names []string
	if x.Parent != "" {
		names = append(names, x.Parent)
	}
	for _, f := range x.Fields {
		if f.Type != "" {
			names = append(names, f.Type)
		}
	}
	return names
}

func hasTwice(l []api.Type, x api.Type) bool {
	if _, ok := ahead(l, x.Name); ok {
		return true
	}
	var inherited []api.Type
	if p, ok := ahead(l, x.Parent); ok {
		inherited = lineOf(l[:len(l)-1], p)
	}
	for i, f := range x.Fields {
		for _, g := range x.Fields[:i] {
			if f.Name == g.Name {
				return true
			}
		}
		for _, a := range inherited {
			if slices.ContainsFunc(a.Fields, func(g api.Field) bool { return g.Name == f.Name }) {
				return true
			}
		}
	}
	for i, b := range x.Bindings {
		for _, c := range x.Bindings[:i] {
			if b.Local == c.Local {
				return true
			}
		}
	}
	return false
}

func hasWrongType(l []api.Type, x api.Type) bool {
	for _, f := range x.Fields {
		if of, _ := ahead(l, f.Type); of.Abstract {
			return true
		}
	}
	procedures := map[string]string{}
	for _, a := range lineOf(l, x) {
		for _, b := range a.Bindings {
			if b.Name == "" && procedures[b.Local] != "" {
				return true
			}
			procedures[b.Local] = b.Name
		}
	}
	for _, procedure := range procedures {
		if procedure == "" && !x.Abstract {
			return true
		}
	}
	return false
}

// value is a value written out: the units by the paths that lead to them, the calls, and how many parts there were.
type value struct {
	table  []api.Type
	units  []string
	starts map[string]int // by paths to elements, also to those of types
	kinds  map[string]string
	parts  int
}

// isSmall reports whether a value can be written out within the limits.
func isSmall(l []api.Type, x api.Type) bool {
	v := newValue(l)
	v.write(x, "")
	return v.parts <= 100000 && len(v.units) <= 100000
}

func newValue(l []api.Type) *value {
	return &value{table: l, starts: map[string]int{}, kinds: map[string]string{}}
}

// write adds a value's parts, but stops above the limit.
func (v *value) write(x api.Type, under string) {
	for _, a := range lineOf(v.table, x) {
		if a.Name != x.Name {
			v.parts++
		}
		for _, f := range a.Fields {
			for at := range max(1, f.Many) {
				v.element(f, under+"%"+f.Name+"*"+strconv.Itoa(at))
				if v.parts > 100000 {
					return
				}
			}
		}
	}
}

func (v *value) element(f api.Field, at string) {
	v.parts++
	v.starts[at], v.kinds[at] = len(v.units), f.Type
	if f.Type == "" {
		v.units = append(v.units, at)
		return
	}
	i := slices.IndexFunc(v.table, func(x api.Type) bool { return x.Name == f.Type })
	v.write(v.table[i], at)
}

// finalsOf are the calls that finalise a value: the type's own, those of its own fields, and its parent's, as the chapter's terms say.
func finalsOf(l []api.Type, name string, at int) []api.Place {
	x := l[slices.IndexFunc(l, func(x api.Type) bool { return x.Name == name })]
	var calls []api.Place
	if x.Final != "" {
		calls = append(calls, api.Place{Name: x.Final, At: at})
	}
	v := newValue(l)
	v.write(x, "")
	for _, f := range x.Fields {
		for i := range max(1, f.Many) {
			if f.Type != "" {
				calls = append(calls, finalsOf(l, f.Type, at+v.starts["%"+f.Name+"*"+strconv.Itoa(i)])...)
			}
		}
	}
	if x.Parent != "" {
		calls = append(calls, finalsOf(l, x.Parent, at)...)
	}
	return calls
}

func TestCheckByTerms(t *testing.T) {
	m := maker{rand.New(rand.NewSource(31))}
	told := map[api.Errno]int{}
	for range 20000 {
		l := m.table(m.Float64() * 0.5)
		name, err := wrongIn(l)
		checkWrong(t, l, name, err)
		told[err]++
		if t.Failed() {
			return
		}
	}
	for _, err := range append([]api.Errno{api.OK}, errorsInOrder...) {
		if told[err] < 100 {
			t.Errorf("%d: %d", err, told[err])
		}
	}
}

func TestLayoutByTerms(t *testing.T) {
	tables(t, 32, 200, func(l []api.Type) {
		for _, x := range l {
			v := newValue(l)
			v.write(x, "")
			checkSize(t, l, x.Name, len(v.units))
			for to, offset := range v.starts {
				checkOffset(t, l, x.Name, to, offset, v.kinds[to])
			}
		}
		if t.Failed() {
			t.Fatalf("%+v", l)
		}
	})
}

func TestFinalsByTerms(t *testing.T) {
	tables(t, 33, 300, func(l []api.Type) {
		for _, x := range l {
			want := finalsOf(l, x.Name, 0)
			if f, err := Finals(l, x.Name); !slices.Equal(f, want) || err != api.OK {
				t.Fatalf("%s: %v, %d, want %v in %+v", x.Name, f, err, want, l)
			}
		}
	})
}

func TestBindingsByTerms(t *testing.T) {
	tables(t, 34, 300, func(l []api.Type) {
		procedures := map[string]map[string]string{}
		for _, x := range l {
			all := map[string]string{}
			for _, a := range lineOf(l, x) {
				for _, b := range a.Bindings {
					all[b.Local] = b.Name
				}
			}
			procedures[x.Name] = all
		}
		for _, x := range l {
			for _, binding := range bindingNames {
				want, ok := procedures[x.Name][binding]
				bad := map[bool]api.Errno{true: api.OK, false: api.ErrNone}[ok]
				checkBinding(t, l, x.Name, binding, want, bad)
				for _, y := range l {
					want, bad := procedures[y.Name][binding], bad
					if bad == api.OK && (y.Abstract || !slices.ContainsFunc(lineOf(l, y), func(a api.Type) bool { return a.Name == x.Name })) {
						bad = api.ErrType
					}
					if bad != api.OK {
						want = ""
					}
					checkDispatch(t, l, x.Name, y.Name, binding, want, bad)
				}
			}
		}
		if t.Failed() {
			t.Fatalf("%+v", l)
		}
	})
}
