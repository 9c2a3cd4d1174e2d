package derive

import (
	"strconv"
	"strings"
	"testing"

	"quadrat/api"
)

// numbered are words that a number makes different, from 0 on.
func numbered(many int, word string) string {
	l := make([]string, many)
	for i := range l {
		l[i] = strings.ReplaceAll(word, "#", strconv.Itoa(i))
	}
	return strings.Join(l, " ")
}

func TestThirtyTypes(t *testing.T) {
	var l []api.Type
	for i := range 30 {
		l = append(l, api.Type{Name: "t" + strconv.Itoa(i)})
	}
	checkRight(t, l)
	checkSize(t, l, "t29", 0)
	l = append(l, api.Type{Name: "t30"}, api.Type{Name: "T31"})
	checkWrong(t, l, "t30", api.ErrLimit)
	for _, c := range []struct {
		last api.Type
		want api.Errno
	}{
		{api.Type{Name: "T"}, api.ErrArg},
		{api.Type{Name: "t3"}, api.ErrTwice},
		{api.Type{Name: "u", Parent: "no"}, api.ErrNone},
		{api.Type{Name: "u", Bindings: []api.Rename{{Local: "b"}}}, api.ErrType},
		{api.Type{Name: "u"}, api.ErrLimit},
	} {
		l[30] = c.last
		checkWrong(t, l, c.last.Name, c.want)
	}
}

// Just a type's own fields are counted.
func TestTwentyFields(t *testing.T) {
	twenty := "a " + numbered(20, "f#")
	checkRight(t, types(twenty+"; b<a "+numbered(20, "g#*100")+"; c<b h"))
	checkSize(t, types(twenty+"; b<a "+numbered(20, "g#*100")+"; c<b h"), "c", 20+2000+1)
	checkWrong(t, types(twenty+" f20"), "a", api.ErrLimit)
	checkWrong(t, types(twenty+"; b<a g; c<b "+numbered(21, "h#")), "c", api.ErrLimit)
	checkRight(t, types("a "+numbered(21, "b#=>p"))) // of bindings there may be more
}

// In b of these, all of 100000 parts are elements: 1000 of a type with 99 numbers, and those.
const fullest = "a x*99; b f0:a*100 f1:a*100 f2:a*100 f3:a*100 f4:a*100 f5:a*100 f6:a*100 f7:a*100 f8:a*100 f9:a*100"

func TestParts(t *testing.T) {
	l := types(fullest)
	checkRight(t, l)
	checkSize(t, l, "b", 99000)
	checkRight(t, types(fullest+"; c"))
	for _, text := range []string{
		fullest + " g",         // a number
		fullest + " g*2",       // numbers
		fullest + "; b1<b",     // a parent
		fullest + "; b1 g:b",   // an element
		fullest + "; b1 g:b*2", // elements
	} {
		l := types(text)
		checkWrong(t, l, l[len(l)-1].Name, api.ErrLimit)
	}
}

// Parts are counted on all levels: empty types, numbers, and parents of parents and of elements.
func TestPartsOnAllLevels(t *testing.T) {
	for _, c := range []struct {
		text string
		last string
		want api.Errno
	}{
		{"a; b f:a*100; c g:b*100; d h0:c*9 h1*99; e<d h2*9", "", api.OK}, // a has none, b 100, c 10100, d 90909 and 99 numbers, e 91018
		{"a; b f:a*100; c g:b*100; d h:c*10", "d", api.ErrLimit},
		{"a; b<a; c<b; d<c; e f:d*100; f g:e*100; g h:f*2", "", api.OK}, // d has 3, e 400, f 40100
		{"a; b<a; c<b; d<c; e f:d*100; f g:e*100; g h:f*3", "g", api.ErrLimit},
		{"a x*8; b<a; c f:b*100; d g:c*99; e<d g1*92 g2*2", "", api.OK}, // b has 9, c 1000, d 99099, e 99194
	} {
		checkWrong(t, types(c.text), c.last, c.want)
	}
	// 9 parts of b and itself, 100 times, and c itself: 1001 for each c; 99 of these are 99099, and what is still missing is 901
	full := "a x*8; b<a; c f:b*100; d g:c*99 " + numbered(9, "n#*100")
	checkRight(t, types(full+" m"))
	checkWrong(t, types(full+" m*2"), "d", api.ErrLimit)
	checkWrong(t, types(full+" m; e<d"), "e", api.ErrLimit)
	checkRight(t, types(full+"; e<d"))
	checkWrong(t, types(full+"; e<d m"), "e", api.ErrLimit)
}

// What is far too large is no trouble.
func TestFarTooLarge(t *testing.T) {
	checkWrong(t, types("a "+numbered(20, "f#*100")+"; b "+numbered(20, "f#:a*100")), "b", api.ErrLimit)
	x := api.Type{Name: "a"}
	for i := range 200000 {
		x.Fields = append(x.Fields, api.Field{Name: "f" + strconv.Itoa(i), Many: 100})
		x.Bindings = append(x.Bindings, api.Rename{Local: "f" + strconv.Itoa(i), Name: "p"})
	}
	checkWrong(t, []api.Type{x}, "a", api.ErrLimit)
	x.Fields = append(x.Fields, api.Field{Name: "f0"})
	checkWrong(t, []api.Type{x}, "a", api.ErrTwice)
	x.Fields = nil
	checkRight(t, []api.Type{x})
}
