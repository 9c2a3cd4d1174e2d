package scope

import (
	"strings"
	"testing"

	"quadrat/api"
)

func TestOrder(t *testing.T) {
	checkOrder(t, "program p|end", "", api.OK)
	checkOrder(t, "module a|end|module b|end|program p|use b|end", "a b", api.OK)
	checkOrder(t, "module c|use b|use a|end|module b|use a|end|program p|end|module a|end", "a b c", api.OK)
	checkOrder(t, "module b|use a|end|module a|end|module c|end|module d|use b|end", "a b c d", api.OK)
	checkOrder(t, "module c|use e|end|module d|end|module b|end|module e|end", "d b e c", api.OK)
	checkOrder(t, "module b|use a, only: x => y|use a|end|module a|end", "a b", api.OK) // what is not exported is none of its matters
	checkOrder(t, "module m|integer :: a, a|end|module n|end", "m n", api.OK)
}

func TestOrderErrors(t *testing.T) {
	checkOrder(t, "module a|use a|end", "", api.ErrState)
	checkOrder(t, "module a|end|module b|use c|end|module c|use d|use a|end|module d|use b|end", "", api.ErrState)
	checkOrder(t, "module a|end|module b|use c|end", "", api.ErrNone)
	checkOrder(t, "module b|use p|end|program p|end", "", api.ErrNone)
	checkOrder(t, "module b|use p|end|subroutine p|end", "", api.ErrNone)
	checkOrder(t, "module b|use a|end|module a|use c|end", "", api.ErrNone)
}

// Long ways with many branches come to an end.
func TestLongWays(t *testing.T) {
	name := func(i int) string { return "m" + decimalText(i) }
	const many = 49
	var text strings.Builder
	for i := many; i > 0; i-- {
		text.WriteString("module " + name(i) + "|use " + name(i-1) + "|use " + name(max(i-2, 0)) + ", a" + decimalText(i) + " => x|end|")
	}
	f := parsed(t, text.String()+"module m0|integer :: x|end")
	x := variable("m0", "x", api.KInt, 0)
	checkFound(t, f, []found{{"m49", "x", x}, {"m49", "a49", x}, {"m49", "a1", x}, {"m7", "a7", x}})
	l, names, err := Exports(f, "m49")
	if len(l) != many+1 || len(names) != many+1 || err != api.OK {
		t.Errorf("%v, %d", names, err)
	}
	if at, name, err := Check(f); at != 0 || name != "" || err != api.OK {
		t.Errorf("%d, %s, %d", at, name, err)
	}
	order, err := Order(f)
	for i, module := range order {
		if module != name(i) {
			t.Fatalf("%v", order)
		}
	}
	if len(order) != many+1 || err != api.OK {
		t.Errorf("%v, %d", order, err)
	}
}
