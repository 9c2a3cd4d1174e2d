package scope

import (
	"slices"

	"quadrat/api"
)

// fault returns what is wrong first with the names of a unit.
func (l *looker) fault(p *place) (string, api.Errno) {
	if first, _ := l.at(p.path); first != p {
		return p.unit.Name, api.ErrTwice
	}
	for _, find := range []func(u *api.Unit) (string, bool){declaredTwice, declaredAndContained, dummyTwice} {
		if name, ok := find(p.unit); ok {
			return name, api.ErrTwice
		}
	}
	for _, u := range p.unit.Uses {
		if name, ok := l.absent(u); ok {
			return name, api.ErrNone
		}
	}
	return "", api.OK
}

func declaredTwice(u *api.Unit) (string, bool) {
	return firstTwice(declaredNames(u))
}

func declaredAndContained(u *api.Unit) (string, bool) {
	names := declaredNames(u)
	i := slices.IndexFunc(names, func(name string) bool {
		return slices.ContainsFunc(u.Contains, func(s api.Unit) bool { return s.Name == name })
	})
	if i < 0 {
		return "", false
	}
	return names[i], true
}

func dummyTwice(u *api.Unit) (string, bool) {
	return firstTwice(u.Args)
}

func declaredNames(u *api.Unit) []string {
	names := make([]string, len(u.Decls))
	for i, d := range u.Decls {
		names[i] = d.Name
	}
	return names
}

// firstTwice returns the first name that stands in a list again.
func firstTwice(names []string) (string, bool) {
	seen := map[string]bool{}
	for _, name := range names {
		if seen[name] {
			return name, true
		}
		seen[name] = true
	}
	return "", false
}

// absent returns the first name of a use that there is not: its module, or what this does not export.
func (l *looker) absent(u api.Use) (string, bool) {
	m, ok := l.modules[u.Module]
	if !ok {
		return u.Module, true
	}
	for _, r := range u.Names {
		if len(l.own(m, r.Name)) == 0 {
			return r.Name, true
		}
	}
	return "", false
}
