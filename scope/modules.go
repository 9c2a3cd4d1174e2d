package scope

import (
	"slices"

	"quadrat/api"
)

// isModule reports whether a unit is the one that is meant by a module's name.
func (l *looker) isModule(p *place) bool {
	return l.modules[p.unit.Name] == p
}

// isInCircle reports whether a unit is a module that its own uses lead back to.
func (l *looker) isInCircle(p *place) bool {
	if !l.isModule(p) {
		return false
	}
	reached := usedBy(p)
	for i := 0; i < len(reached); i++ {
		m, ok := l.modules[reached[i]]
		if !ok {
			continue
		}
		if m == p {
			return true
		}
		for _, name := range usedBy(m) {
			if !slices.Contains(reached, name) {
				reached = append(reached, name)
			}
		}
	}
	return false
}

// usedBy returns the names of the modules that a unit uses itself.
func usedBy(p *place) []string {
	names := make([]string, len(p.unit.Uses))
	for i, u := range p.unit.Uses {
		names[i] = u.Module
	}
	return names
}

// order puts each module behind those that it uses. Where none can be the next one, there is a circle, or a module is used that is not there.
func (l *looker) order() ([]string, api.Errno) {
	var done []string
	isDone := func(name string) bool { return slices.Contains(done, name) }
	isOpen := func(name string) bool { return !isDone(name) }
	mayCome := func(p *place) bool {
		return l.isModule(p) && isOpen(p.unit.Name) && !slices.ContainsFunc(usedBy(p), isOpen)
	}
	for len(done) < len(l.modules) {
		i := slices.IndexFunc(l.places, mayCome)
		switch {
		case i >= 0:
			done = append(done, l.places[i].unit.Name)
		case slices.ContainsFunc(l.places, l.isInCircle):
			return nil, api.ErrState
		default:
			return nil, api.ErrNone
		}
	}
	return done, api.OK
}
