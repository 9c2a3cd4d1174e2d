package derive

import (
	"iter"
	"slices"

	"quadrat/api"
)

// derived is a type of a table, with what is reckoned of it. A nil one is what a number has instead of a type, and what ends a line of parents.
type derived struct {
	api.Type
	parent *derived
	fields []field // its own
	units  int
	parts  int // elements of fields and parents in a value, on all levels
}

// field is a field where it lies in its type.
type field struct {
	api.Field
	of     *derived
	offset int
}

// newDerived lays out a type, whose parent and fields have their types in the table.
func newDerived(x api.Type, t table) *derived {
	d := &derived{Type: x, parent: t[x.Parent]}
	if d.parent != nil {
		d.units, d.parts = d.parent.units, d.parent.parts+1
	}
	for _, f := range x.Fields {
		of := t[f.Type]
		d.fields = append(d.fields, field{f, of, d.units})
		d.units += times(f) * of.size()
		d.parts += times(f) * (of.inside() + 1)
	}
	return d
}

// times returns how many elements a field has.
func times(f api.Field) int {
	return max(1, f.Many)
}

// size returns how many units a value has.
func (d *derived) size() int {
	if d == nil {
		return 1
	}
	return d.units
}

// inside returns how many parts a value has.
func (d *derived) inside() int {
	if d == nil {
		return 0
	}
	return d.parts
}

// fromFarthest gives a type's ancestors from the farthest one on, and last the type itself: as they lie in a value.
func (d *derived) fromFarthest() iter.Seq[*derived] {
	return func(yield func(*derived) bool) {
		var line []*derived
		for a := d; a != nil; a = a.parent {
			line = append(line, a)
		}
		for _, a := range slices.Backward(line) {
			if !yield(a) {
				return
			}
		}
	}
}

// generation returns how many types a line has that ends with this one.
func (d *derived) generation() int {
	n := 0
	for range d.fromFarthest() {
		n++
	}
	return n
}

// extends reports whether a type is another one, or has it among its ancestors.
func (d *derived) extends(of *derived) bool {
	for a := range d.fromFarthest() {
		if a == of {
			return true
		}
	}
	return false
}

// field looks for a field of a type and its ancestors.
func (d *derived) field(name string) (field, bool) {
	for a := range d.fromFarthest() {
		i := slices.IndexFunc(a.fields, func(f field) bool { return f.Name == name })
		if i >= 0 {
			return a.fields[i], true
		}
	}
	return field{}, false
}

// allFields returns the fields of a type, its ancestors' first.
func (d *derived) allFields() []api.Field {
	var all []api.Field
	for a := range d.fromFarthest() {
		all = append(all, a.Fields...)
	}
	return all
}

// bindings returns the procedures of a type by bindings, where a nearer one overrides a farther one.
func (d *derived) bindings() map[string]string {
	procedures := map[string]string{}
	for a := range d.fromFarthest() {
		for _, b := range a.Bindings {
			procedures[b.Local] = b.Name
		}
	}
	return procedures
}

// finals adds the calls that finalise a value that lies at an offset.
func (d *derived) finals(at int, calls []api.Place) []api.Place {
	if d == nil {
		return calls
	}
	if d.Final != "" {
		calls = append(calls, api.Place{Name: d.Final, At: at})
	}
	for _, f := range d.fields {
		if f.of == nil {
			continue
		}
		for i := range times(f.Field) {
			calls = f.of.finals(at+f.offset+i*f.of.units, calls)
		}
	}
	return d.parent.finals(at, calls)
}
