package derive

import (
	"slices"

	"quadrat/api"
	"quadrat/token"
)

// Limits of a table. Each unit is a part, too, so a type of too many units has too many parts.
const (
	maxTypes  = 30
	maxFields = 20 // of a type's own
	maxMany   = 100
	maxUnits  = 100000
	maxParts  = 100000
)

// add adds the next type to those ahead of it, which are right, or returns what is wrong with it.
func (t table) add(x api.Type) api.Errno {
	switch {
	case !isFormed(x):
		return api.ErrArg
	case t.hasAgain(x):
		return api.ErrTwice
	case t.lacks(x):
		return api.ErrNone
	}
	d := newDerived(x, t)
	switch {
	case d.hasAbstract() || d.hasWrongDeferred():
		return api.ErrType
	case len(t) == maxTypes || len(x.Fields) > maxFields || d.units > maxUnits || d.parts > maxParts:
		return api.ErrLimit
	}
	t[x.Name] = d
	return api.OK
}

// isFormed reports whether a type's names and numbers are such, whatever they mean.
func isFormed(x api.Type) bool {
	isWrongField := func(f api.Field) bool {
		return !token.IsName(f.Name) || !isNameOrNone(f.Type) || f.Many < 0 || f.Many > maxMany
	}
	isWrongBinding := func(b api.Rename) bool { return !token.IsName(b.Local) || !isNameOrNone(b.Name) }
	return token.IsName(x.Name) && isNameOrNone(x.Parent) && isNameOrNone(x.Final) &&
		!slices.ContainsFunc(x.Fields, isWrongField) && !slices.ContainsFunc(x.Bindings, isWrongBinding)
}

func isNameOrNone(s string) bool {
	return s == "" || token.IsName(s)
}

// hasAgain reports whether a type has a name that is there already. A parent that is not there has no fields.
func (t table) hasAgain(x api.Type) bool {
	fields := append(t[x.Parent].allFields(), x.Fields...)
	return t[x.Name] != nil || isTwice(fields, func(f api.Field) string { return f.Name }) ||
		isTwice(x.Bindings, func(b api.Rename) string { return b.Local })
}

// isTwice reports whether two elements of a list have one name.
func isTwice[T any](l []T, name func(T) string) bool {
	seen := map[string]bool{}
	return slices.ContainsFunc(l, func(x T) bool {
		again := seen[name(x)]
		seen[name(x)] = true
		return again
	})
}

// lacks reports whether a type's parent or a field's type is not among those ahead of it.
func (t table) lacks(x api.Type) bool {
	isNone := func(name string) bool { return name != "" && t[name] == nil }
	return isNone(x.Parent) || slices.ContainsFunc(x.Fields, func(f api.Field) bool { return isNone(f.Type) })
}

// hasAbstract reports whether a field of a type is abstract.
func (d *derived) hasAbstract() bool {
	return slices.ContainsFunc(d.fields, func(f field) bool { return f.of != nil && f.of.Abstract })
}

// hasWrongDeferred reports whether a binding is deferred that an ancestor has with a procedure, or any one of a type that is not abstract.
func (d *derived) hasWrongDeferred() bool {
	had := d.parent.bindings()
	if slices.ContainsFunc(d.Bindings, func(b api.Rename) bool { return b.Name == "" && had[b.Local] != "" }) {
		return true
	}
	for _, procedure := range d.bindings() {
		if procedure == "" && !d.Abstract {
			return true
		}
	}
	return false
}
