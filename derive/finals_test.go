package derive

import (
	"slices"
	"testing"

	"quadrat/api"
)

func TestFinals(t *testing.T) {
	l := types(shapes)
	checkFinals(t, l, "base", "")
	checkFinals(t, l, "point", "pend*0")
	checkFinals(t, l, "box", "bend*0%pend*0%pend*5")
	checkFinals(t, l, "empty", "")
	checkFinals(t, l, "big", "bend*5%pend*5%pend*10%pend*0")
	checkFinals(t, l, "heap", "hend*0%bend*5%pend*5%pend*10%pend*0%bend*22%pend*22%pend*27%pend*17")
}

// First the type's own, then its own fields in order, then the parent's part in the same way.
func TestFinalsOrder(t *testing.T) {
	l := types("s n ~fs; t ~ft; a p:s ~fa; b<a q:t*2 r:s ~fb; c<b v w:s; d<c z:c ~fd")
	checkFinals(t, l, "a", "fa*0%fs*0")
	checkFinals(t, l, "b", "fb*0%ft*1%ft*1%fs*1%fa*0%fs*0")
	checkFinals(t, l, "c", "fs*3%fb*0%ft*1%ft*1%fs*1%fa*0%fs*0")
	checkFinals(t, l, "d", "fd*0%fs*7%fb*4%ft*5%ft*5%fs*5%fa*4%fs*4%fs*3%fb*0%ft*1%ft*1%fs*1%fa*0%fs*0")
}

// A type without a finaliser of its own, also one between, has its parts finalised all the same; one finaliser may serve many types.
func TestFinalsOfParts(t *testing.T) {
	l := types("a x ~end; b<a; c<b y; d<c ~end; e f:c*2 g:d")
	checkFinals(t, l, "b", "end*0")
	checkFinals(t, l, "c", "end*0")
	checkFinals(t, l, "d", "end*0%end*0")
	checkFinals(t, l, "e", "end*0%end*2%end*4%end*4")
}

// Elements without units are finalised one by one, too.
func TestFinalsOfNoUnits(t *testing.T) {
	l := types("a ~fa; b x y:a*3 z; c v:b")
	checkFinals(t, l, "b", "fa*1%fa*1%fa*1")
	checkFinals(t, l, "c", "fa*1%fa*1%fa*1")
}

// There may be as many calls as parts, and the value's own.
func TestFinalsMany(t *testing.T) {
	l := types("a ~fa; b<a x:a*99 ~fb; c y0:b*100 y1:b*100 y2:b*100 y3:b*100 y4:b*100 y5:b*80 ~fc")
	checkWrong(t, l, "", api.OK)
	calls, err := Finals(l, "c")
	if len(calls) != 1+580*101 || err != api.OK {
		t.Fatalf("%d, %d", len(calls), err)
	}
	if calls[0] != (api.Place{Name: "fc"}) || calls[1] != (api.Place{Name: "fb"}) || slices.Contains(calls[1:], calls[0]) {
		t.Errorf("%v", calls[:3])
	}
}
