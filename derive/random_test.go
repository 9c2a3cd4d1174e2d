package derive

import (
	"math/rand"
	"slices"
	"strconv"
	"testing"

	"quadrat/api"
)

var (
	fieldNames   = []string{"x", "y", "z", "u", "v", "w", "q", "r"}
	bindingNames = []string{"b", "c", "d", "x"}
)

// maker makes tables at random, in which few names stand in many places.
type maker struct{ *rand.Rand }

func (m maker) one(words ...string) string { return words[m.Intn(len(words))] }

// table makes a list of types. How often something odd stands in it is told by odd: 0 is never.
func (m maker) table(odd float64) []api.Type {
	var l []api.Type
	for i := range 1 + m.Intn(7) {
		x := api.Type{Name: "t" + strconv.Itoa(i), Abstract: m.Intn(4) == 0}
		if m.Intn(3) > 0 {
			x.Parent = m.typeOf(l, odd)
		}
		for range m.Intn(4) {
			f := api.Field{Name: m.one(fieldNames...) + m.one("", "1", "2", "3"), Many: m.Intn(4)}
			if m.Intn(2) == 0 {
				f.Type = m.typeOf(l, odd)
			}
			x.Fields = append(x.Fields, f)
		}
		for range m.Intn(3) {
			x.Bindings = append(x.Bindings, api.Rename{Local: m.one(bindingNames...), Name: m.one("", "p", "q", "b")})
		}
		if m.Intn(2) == 0 {
			x.Final = m.one("end", "fin", "f"+strconv.Itoa(i))
		}
		m.spoil(&x, odd)
		l = append(l, x)
	}
	return l
}

func (m maker) typeOf(l []api.Type, odd float64) string {
	if m.Float64() < odd {
		return m.one("no", "t0", "t3", "t6", "A", "1")
	}
	if len(l) == 0 {
		return ""
	}
	return l[m.Intn(len(l))].Name
}

// spoil makes something of a type odd, now and then.
func (m maker) spoil(x *api.Type, odd float64) {
	if m.Float64() >= odd {
		return
	}
	switch m.Intn(6) {
	case 0:
		x.Name = m.one("t0", "t1", "T", "", "t 1")
	case 1:
		x.Final = m.one("F", "1", "f f", "-")
	case 2:
		x.Fields = append(x.Fields, api.Field{Name: m.one("x", "X", ""), Many: m.Intn(200) - 20})
	case 3:
		x.Bindings = append(x.Bindings, api.Rename{Local: m.one("b", "B", ""), Name: m.one("", "p", "P")})
	case 4:
		for i := range 17 + m.Intn(6) {
			x.Fields = append(x.Fields, api.Field{Name: "many" + strconv.Itoa(i)})
		}
	case 5:
		for i := range x.Fields {
			x.Fields[i].Many = 40 + m.Intn(60)
		}
	}
}

// tables are tables at random that are right: wrong types of a list are left out.
func tables(t *testing.T, seed int64, many int, each func(l []api.Type)) {
	m := maker{rand.New(rand.NewSource(seed))}
	for range many {
		var l []api.Type
		for _, x := range m.table(0) {
			if _, err := wrongIn(append(slices.Clone(l), x)); err == api.OK {
				l = append(l, x)
			}
		}
		checkRight(t, l)
		each(l)
	}
}

// selections are types of tables that are not abstract, with guards at random.
func selections(t *testing.T, seed int64, many int, each func(l []api.Type, x api.Type, g []api.Guard)) {
	m := maker{rand.New(rand.NewSource(seed))}
	tables(t, seed, many, func(l []api.Type) {
		for _, x := range l {
			var g []api.Guard
			for range m.Intn(6) {
				g = append(g, api.Guard{Class: m.Intn(2) == 0, Name: m.one(l[m.Intn(len(l))].Name, l[m.Intn(len(l))].Name, "")})
			}
			if !x.Abstract {
				each(l, x, g)
			}
		}
	})
}
