package derive

import "quadrat/api"

// table is types by their names.
type table map[string]*derived

// newTable returns the types of a list, or the name of the first one that is wrong.
func newTable(l []api.Type) (t table, wrong string, err api.Errno) {
	t = table{}
	for _, x := range l {
		if err := t.add(x); err != api.OK {
			return nil, x.Name, err
		}
	}
	return t, "", api.OK
}

// tableWith returns the types of a list, which must have some names.
func tableWith(l []api.Type, names ...string) (table, api.Errno) {
	t, _, err := newTable(l)
	if err != api.OK {
		return nil, api.ErrArg
	}
	for _, name := range names {
		if t[name] == nil {
			return nil, api.ErrNone
		}
	}
	return t, api.OK
}

// How well a guard fits a type; a class does the better the more ancestors it has.
const (
	fitsNot   = 0
	isDefault = 1
	isJust    = isDefault + maxTypes + 1
)

// fit returns how well a guard fits a type. A guard's type is in the table, or it has none.
func (t table) fit(g api.Guard, d *derived) int {
	of := t[g.Name]
	switch {
	case of == nil:
		return isDefault
	case g.Class && d.extends(of):
		return isDefault + of.generation()
	case !g.Class && d == of:
		return isJust
	}
	return fitsNot
}
