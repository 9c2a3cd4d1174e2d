package scope

import (
	"slices"

	"quadrat/api"
	"quadrat/tree"
)

// looker looks for names in the units of a file.
type looker struct {
	file    *place
	places  []*place          // all units, hosts ahead of what they contain
	modules map[string]*place // the first one of each name
}

func newLooker(f api.File) (*looker, api.Errno) {
	if !tree.Valid(f) {
		return nil, api.ErrArg
	}
	l := &looker{file: newPlace(&api.Unit{Contains: f.Units}, nil), modules: map[string]*place{}}
	l.add(l.file)
	for _, p := range l.places {
		name := p.unit.Name
		if _, ok := l.modules[name]; !ok && p.unit.Kind == kindModule {
			l.modules[name] = p
		}
	}
	return l, api.OK
}

// add adds the units that stand in a place.
func (l *looker) add(host *place) {
	for i := range host.unit.Contains {
		p := newPlace(&host.unit.Contains[i], host)
		l.places = append(l.places, p)
		l.add(p)
	}
}

// at returns the first unit that has a path.
func (l *looker) at(path string) (*place, bool) {
	i := slices.IndexFunc(l.places, func(p *place) bool { return p.path == path })
	if i < 0 {
		return nil, false
	}
	return l.places[i], true
}

// question is which entities a name means in a place.
type question struct {
	at   *place
	name string
}

// own returns what a name means in a unit by itself and by its uses, each entity once. A module exports just that.
// A name that is used is another question to its module; none is asked twice, so that circles come to an end.
func (l *looker) own(p *place, name string) []api.Entity {
	var found []api.Entity
	first := question{p, name}
	asked := map[question]bool{first: true}
	for open := []question{first}; len(open) > 0; open = open[1:] {
		q := open[0]
		for _, e := range q.at.has[q.name] {
			if !slices.Contains(found, e) {
				found = append(found, e)
			}
		}
		for _, next := range l.asks(q) {
			if !asked[next] {
				asked[next] = true
				open = append(open, next)
			}
		}
	}
	return found
}

// asks returns the questions to which a question leads by the uses of its unit.
func (l *looker) asks(q question) []question {
	var next []question
	for _, u := range q.at.unit.Uses {
		m, ok := l.modules[u.Module]
		if !ok {
			continue
		}
		for _, name := range namesThere(u, q.name) {
			next = append(next, question{m, name})
		}
	}
	return next
}

// namesThere returns how a module calls what is known here by a name, if it is known by this use.
func namesThere(u api.Use, name string) []string {
	var there []string
	stays := !u.Only
	for _, r := range u.Names {
		if r.Local == name {
			there = append(there, r.Name)
		}
		stays = stays && r.Name != name
	}
	if stays {
		there = append(there, name)
	}
	return there
}

// known returns what a name means in a unit otherwise than implicitly: what its own names leave open its host tells, and last the file.
func (l *looker) known(p *place, name string) []api.Entity {
	for ; p != nil; p = p.host {
		if found := l.own(p, name); len(found) > 0 {
			return found
		}
	}
	return nil
}

// names returns all names by which something may be known anywhere, ascending.
func (l *looker) names() []string {
	var names []string
	add := func(p *place) {
		for name := range p.has {
			names = append(names, name)
		}
	}
	add(l.file)
	for _, p := range l.places {
		add(p)
		for _, u := range p.unit.Uses {
			for _, r := range u.Names {
				names = append(names, r.Local)
			}
		}
	}
	slices.Sort(names)
	return slices.Compact(names)
}
