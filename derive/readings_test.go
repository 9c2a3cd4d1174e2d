package derive

import (
	"testing"

	"quadrat/api"
)

// Where the chapter leaves room, these are the readings that the package keeps to.

// A type's own names are all that stand in it, also the name of its parent and those of its fields' types: what no type can be called is ErrArg, not ErrNone.
func TestReadingNames(t *testing.T) {
	checkWrong(t, types("a<A"), "a", api.ErrArg)
	checkWrong(t, types("a x:1"), "a", api.ErrArg)
	checkWrong(t, types("a x:b"), "a", api.ErrNone)
}

// Types, fields, bindings and procedures are each looked at by themselves: one name may be that of one of each.
func TestReadingNamesApart(t *testing.T) {
	l := types("a a a=>a ~a; b<a b:a b=>b; c<b c:b*2 a=>b")
	checkRight(t, l)
	checkOffset(t, l, "c", "c*1%b%a", 5, "")
	checkBinding(t, l, "c", "a", "b", api.OK)
	checkFinals(t, l, "b", "a*1%a*0")
}

// Where a parent is not there, a type has just its own fields' names.
func TestReadingNoParent(t *testing.T) {
	checkWrong(t, types("a x; b<no x"), "b", api.ErrNone)
	checkWrong(t, types("a x; b<no x x"), "b", api.ErrTwice)
}

// Of what is too much at once, units, parts, fields or types, the error is one. A type is no part of itself.
func TestReadingParts(t *testing.T) {
	checkRight(t, types(fullest))
	checkWrong(t, types(fullest+"; c<b"), "c", api.ErrLimit)
}

// A path is gone down place by place: what is wrong first is told, and what would be behind it is not asked.
func TestReadingOffset(t *testing.T) {
	l := types(shapes)
	checkNoOffset(t, l, "big", path("in*1%no"), api.ErrArg)
	checkNoOffset(t, l, "big", path("w*3%no"), api.ErrArg)
	checkNoOffset(t, l, "big", path("no%in*1"), api.ErrNone)
	checkNoOffset(t, l, "big", path("no*-1"), api.ErrNone)
}

// A guard without a name is the default, whether it is Class or not.
func TestReadingDefault(t *testing.T) {
	l := types(shapes)
	checkSelect(t, l, "big", "box class:default default", 1, api.OK)
	checkSelect(t, l, "big", "box default class:default", 1, api.OK)
	checkSelect(t, l, "heap", "class:default", 0, api.ErrType)
}

// An abstract type has a layout, bindings and finals, too: those with which the types that extend it begin, or end. Just Dispatch and Select ask for a value, which none of it is.
func TestReadingAbstract(t *testing.T) {
	l := types("a abstract x b=>p ~fa; c<a y ~fc")
	checkSize(t, l, "a", 1)
	checkOffset(t, l, "a", "x", 0, "")
	checkBinding(t, l, "a", "b", "p", api.OK)
	checkFinals(t, l, "a", "fa*0")
	checkFinals(t, l, "c", "fc*0%fa*0")
	checkSelect(t, l, "c", "a class:a", 1, api.OK)
}
