package scope

import (
	"slices"

	"quadrat/api"
)

// Kinds of units that this package asks for.
const (
	kindModule     = "module"
	kindSubroutine = "subroutine"
)

// Variables that no one declares are integers, if their names begin with a letter from the first to the last one of these.
const (
	firstInt = 'i'
	lastInt  = 'n'
)

// place is a unit where it stands in a file. A file itself is the host of the units that no unit contains, which makes its subroutines known like those of a unit.
type place struct {
	unit *api.Unit
	path string // empty for the file itself
	host *place // nil for the file itself
	has  map[string][]api.Entity
}

func newPlace(u *api.Unit, host *place) *place {
	p := &place{unit: u, host: host, path: u.Name}
	if host != nil && host.path != "" {
		p.path = host.path + "%" + u.Name
	}
	p.has = p.declared()
	return p
}

// declared returns what a unit brings along itself, by names: what it declares, its other dummy arguments, and what it contains.
func (p *place) declared() map[string][]api.Entity {
	has := map[string][]api.Entity{}
	add := func(e api.Entity) {
		if !slices.Contains(has[e.Name], e) {
			has[e.Name] = append(has[e.Name], e)
		}
	}
	for _, d := range p.unit.Decls {
		add(api.Entity{Path: p.path, Name: d.Name, Kind: d.Kind, Rank: len(d.Bounds), Parameter: d.Parameter})
	}
	for _, name := range p.unit.Args {
		if len(has[name]) == 0 {
			add(p.implicit(name))
		}
	}
	for _, u := range p.unit.Contains {
		if u.Kind == kindSubroutine {
			add(api.Entity{Path: p.path, Name: u.Name})
		}
	}
	return has
}

// implicit returns a variable of a unit that is not declared.
func (p *place) implicit(name string) api.Entity {
	return api.Entity{Path: p.path, Name: name, Kind: Implicit(name)}
}

// isExplicit reports whether no name is implicit in a unit. One that has neither uses nor declarations goes by its host.
func (p *place) isExplicit() bool {
	u := p.unit
	return u.None || len(u.Uses) == 0 && len(u.Decls) == 0 && p.host.unit.None
}
