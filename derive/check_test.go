package derive

import (
	"slices"
	"strconv"
	"strings"
	"testing"

	"quadrat/api"
)

func TestCheckRight(t *testing.T) {
	checkRight(t, nil)
	checkRight(t, []api.Type{})
	for _, text := range []string{
		shapes,
		"a",
		"a abstract",
		"a abstract x b=>",
		"a_1 x*0 y*1 z*100 ~a_1",
		"abcdefghijkl abcdefghijkm abcdefghijkn=>abcdefghijko",
		"a a b=>a a=>b ~a",                            // types, fields, bindings and procedures do not meet
		"a x; b x:a; c x:b y:a z",                     // fields of types that are none of its ancestors
		"a x b=>p; b y b=>p; c<b x c=>p b=>p ~p; d<b", // one procedure may serve many
		"a abstract b=>; c<a abstract; d<c b=>p",
		"a abstract b=>; c<a abstract b=>; d<c abstract b=>; e<d b=>p; f<e b=>q; g<f",
		"a abstract b=>p; c<a; d<a b=>q; e<a abstract c=>",
		"a; b<a abstract c=>; d<b c=>p",
	} {
		checkRight(t, types(text))
	}
}

// Each text is a last type, behind those of shapes, and what is wrong with it.
func TestCheckWrong(t *testing.T) {
	for _, c := range []struct {
		text string
		want api.Errno
	}{
		{"A", api.ErrArg}, {"1a", api.ErrArg}, {"_a", api.ErrArg}, {"a%b", api.ErrArg}, {"abcdefghijklm", api.ErrArg}, {"é", api.ErrArg}, {"a\x00", api.ErrArg},
		{"a<A", api.ErrArg}, {"a<1", api.ErrArg}, {"a<abcdefghijklm", api.ErrArg}, {"a<base<", api.ErrArg},
		{"a X", api.ErrArg}, {"a x 1", api.ErrArg}, {"a abcdefghijklm", api.ErrArg}, {"a *2", api.ErrArg}, {"a :box", api.ErrArg},
		{"a x:BOX", api.ErrArg}, {"a x:1", api.ErrArg}, {"a x y:abcdefghijklm", api.ErrArg},
		{"a x*-1", api.ErrArg}, {"a x*101", api.ErrArg}, {"a x y:box*101", api.ErrArg}, {"a x*" + strconv.Itoa(1<<62), api.ErrArg}, {"a x*-" + strconv.Itoa(1<<62), api.ErrArg},
		{"a B=>p", api.ErrArg}, {"a =>p", api.ErrArg}, {"a b=>P", api.ErrArg}, {"a b=>p c=>1", api.ErrArg}, {"a abstract B=>", api.ErrArg}, {"a b=>abcdefghijklm", api.ErrArg},
		{"a ~P", api.ErrArg}, {"a ~1", api.ErrArg}, {"a ~abcdefghijklm", api.ErrArg},

		{"base", api.ErrTwice}, {"heap", api.ErrTwice}, {"box<base y", api.ErrTwice},
		{"a x x", api.ErrTwice}, {"a x y:box z x:box", api.ErrTwice}, {"a abstract x x", api.ErrTwice},
		{"a<point y", api.ErrTwice}, {"a<point abstract x:box", api.ErrTwice}, {"a<big q x", api.ErrTwice}, {"a<big w", api.ErrTwice}, {"a<big in", api.ErrTwice},
		{"a b=>p b=>p", api.ErrTwice}, {"a b=>p c=>p b=>q", api.ErrTwice}, {"a abstract b=> c=>p b=>", api.ErrTwice}, {"a abstract b=>p b=>", api.ErrTwice},

		{"a<no", api.ErrNone}, {"a<a", api.ErrNone}, {"a<x", api.ErrNone}, {"a<pend", api.ErrNone}, {"a<show", api.ErrNone}, {"a abstract<no", api.ErrArg},
		{"a x:no", api.ErrNone}, {"a x:a", api.ErrNone}, {"a x y:box z:pend", api.ErrNone}, {"a<point q:z", api.ErrNone},

		{"a f:base", api.ErrType}, {"a f:heap*3", api.ErrType}, {"a abstract f:base", api.ErrType}, {"a<base show=>p f:base", api.ErrType}, {"a f:box g:heap", api.ErrType},
		{"a b=>", api.ErrType}, {"a b=>p c=>", api.ErrType}, {"a<point b=>", api.ErrType}, {"a<base show=>", api.ErrType},
		{"a<base", api.ErrType}, {"a<base size=>p", api.ErrType}, {"a<base show=>p size=>", api.ErrType},
		{"a<base abstract size=>", api.ErrType}, {"a<base abstract show=> size=>", api.ErrType}, {"a<point abstract show=>", api.ErrType}, {"a<big abstract size=>", api.ErrType}, {"a<big abstract show=>", api.ErrType}, {"a<big abstract more=>", api.ErrType},
	} {
		last := types(c.text)[0]
		checkWrong(t, append(types(shapes), last), last.Name, c.want)
	}
}

// A name of no bytes is none, where one must stand.
func TestCheckNoNames(t *testing.T) {
	checkWrong(t, []api.Type{{}}, "", api.ErrArg)
	checkWrong(t, []api.Type{{Name: "a", Fields: []api.Field{{}}}}, "a", api.ErrArg)
	checkWrong(t, []api.Type{{Name: "a", Bindings: []api.Rename{{Name: "p"}}}}, "a", api.ErrArg)
	checkWrong(t, []api.Type{{Name: "a", Abstract: true, Bindings: []api.Rename{{}}}}, "a", api.ErrArg)
}

// A deferred binding is left, however far away it is; a procedure between is taken by all behind it.
func TestCheckDeferredFarAway(t *testing.T) {
	checkWrong(t, types("a abstract s=>; b<a abstract; c<b abstract t=>p; d<c"), "d", api.ErrType)
	checkWrong(t, types("a abstract s=>; b<a abstract s=>p; c<b; d<c abstract s=>"), "d", api.ErrType)
	checkWrong(t, types("a abstract s=>p; b<a abstract; c<b abstract; d<c abstract s=>"), "d", api.ErrType)
	checkWrong(t, types("a abstract s=> t=>; b<a abstract s=>p; c<b t=>q; d<b"), "d", api.ErrType)
	checkRight(t, types("a abstract s=> t=>; b<a abstract s=>p; c<b t=>q; d<c"))
}

// What stands behind in the list is not there yet.
func TestCheckAhead(t *testing.T) {
	checkWrong(t, types("a<b; b"), "a", api.ErrNone)
	checkWrong(t, types("a; b x:c; c"), "b", api.ErrNone)
	checkWrong(t, types("a x:b; b<a"), "a", api.ErrNone)
	checkRight(t, types("b; a<b"))
}

// wrongParts are what makes a type wrong, by errors in their order; a type of several of them has the first error.
func wrongParts() []struct {
	word string
	err  api.Errno
} {
	many := strings.Fields("g00 g01 g02 g03 g04 g05 g06 g07 g08 g09 g10 g11 g12 g13 g14 g15 g16 g17 g18 g19 g20")
	return []struct {
		word string
		err  api.Errno
	}{
		{"v*101", api.ErrArg}, {"~P", api.ErrArg}, {"w:W", api.ErrArg}, {"B=>p", api.ErrArg},
		{"q q", api.ErrTwice}, {"y", api.ErrTwice}, {"b=>p b=>p", api.ErrTwice},
		{"n:none", api.ErrNone},
		{"f:base", api.ErrType}, {"d=>", api.ErrType}, {"size=>", api.ErrType},
		{strings.Join(many, " "), api.ErrLimit}, {"h0:thousand*100", api.ErrLimit},
	}
}

func TestCheckOrderOfErrors(t *testing.T) {
	l := types(shapes + "; thousand t0*100 t1*100 t2*100 t3*100 t4*100 t5*100 t6*100 t7*100 t8*100 t9*100")
	for _, a := range wrongParts() {
		for _, b := range wrongParts() {
			want := a.err
			if slices.Index(errorsInOrder, b.err) < slices.Index(errorsInOrder, a.err) {
				want = b.err
			}
			text := "a<big " + a.word
			if a.word != b.word {
				text += " " + b.word
			}
			checkWrong(t, append(l, types(text)...), "a", want)
		}
	}
	for _, c := range []struct {
		text, name string
		want       api.Errno
	}{
		{"A<no f:base", "A", api.ErrArg}, {"a<1 q q", "a", api.ErrArg},
		{"box<no", "box", api.ErrTwice}, {"box f:box b=>", "box", api.ErrTwice}, {"a<no q q f:base", "a", api.ErrTwice},
		{"a<no f:base b=>", "a", api.ErrNone}, {"a<base f:none", "a", api.ErrNone},
	} {
		checkWrong(t, append(types(shapes), types(c.text)...), c.name, c.want)
	}
}

var errorsInOrder = []api.Errno{api.ErrArg, api.ErrTwice, api.ErrNone, api.ErrType, api.ErrLimit}

// The first wrong type counts, whatever is wrong with those behind it.
func TestCheckFirstType(t *testing.T) {
	for _, a := range wrongParts() {
		for _, b := range wrongParts() {
			l := types(shapes + "; thousand t0*100 t1*100 t2*100 t3*100 t4*100 t5*100 t6*100 t7*100 t8*100 t9*100; a<big " + a.word + "; c<big " + b.word)
			checkWrong(t, l, "a", a.err)
		}
	}
	checkWrong(t, types("a; b; a; A; b"), "a", api.ErrTwice)
	checkWrong(t, types("a; c<b; A"), "c", api.ErrNone)
}
