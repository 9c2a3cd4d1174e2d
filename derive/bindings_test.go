package derive

import (
	"testing"

	"quadrat/api"
)

// line is a line of types in which bindings are deferred, given, overridden and added.
const line = "a abstract d=> g=>ga; b<a abstract d=> n=>; c<b d=>dc n=>nc; e<c g=>ge; f<e d=>df own=>of; h"

func TestBinding(t *testing.T) {
	l := types(line)
	for _, c := range []struct{ name, d, g, n string }{
		{"a", "", "ga", "none"}, {"b", "", "ga", ""}, {"c", "dc", "ga", "nc"}, {"e", "dc", "ge", "nc"}, {"f", "df", "ge", "nc"}, {"h", "none", "none", "none"},
	} {
		for binding, want := range map[string]string{"d": c.d, "g": c.g, "n": c.n} {
			if want == "none" {
				checkBinding(t, l, c.name, binding, "", api.ErrNone)
			} else {
				checkBinding(t, l, c.name, binding, want, api.OK)
			}
		}
	}
	checkBinding(t, l, "f", "own", "of", api.OK)
	for _, binding := range []string{"own", "dc", "ga", "", "D", "d ", "e"} {
		checkBinding(t, l, "e", binding, "", api.ErrNone)
	}
	checkBinding(t, types(shapes), "big", "in", "", api.ErrNone) // a field is no binding
}

func TestDispatch(t *testing.T) {
	l := types(line)
	for _, c := range []struct{ declared, dynamic, binding, want string }{
		{"a", "c", "d", "dc"}, {"a", "e", "d", "dc"}, {"a", "f", "d", "df"}, {"b", "f", "d", "df"}, {"c", "f", "d", "df"}, {"e", "f", "d", "df"}, {"f", "f", "d", "df"},
		{"a", "c", "g", "ga"}, {"b", "e", "g", "ge"}, {"c", "c", "g", "ga"}, {"c", "f", "g", "ge"}, {"b", "e", "n", "nc"}, {"f", "f", "own", "of"},
	} {
		checkDispatch(t, l, c.declared, c.dynamic, c.binding, c.want, api.OK)
	}
}

func TestNoDispatch(t *testing.T) {
	l := types(line + "; k<b abstract n=>nk; m<k d=>dm")
	for _, c := range []struct {
		declared, dynamic, binding string
		want                       api.Errno
	}{
		{"a", "f", "own", api.ErrNone}, {"e", "f", "own", api.ErrNone}, {"a", "c", "n", api.ErrNone}, {"a", "c", "", api.ErrNone}, {"h", "h", "d", api.ErrNone},
		{"a", "a", "d", api.ErrType}, {"a", "b", "g", api.ErrType}, {"b", "k", "n", api.ErrType},
		{"c", "m", "d", api.ErrType}, {"k", "c", "d", api.ErrType}, {"f", "e", "d", api.ErrType}, {"e", "c", "g", api.ErrType}, {"a", "h", "d", api.ErrType},
		{"a", "b", "own", api.ErrNone}, {"f", "e", "no", api.ErrNone}, {"h", "c", "d", api.ErrNone}, // the binding comes ahead of the types' kinship
	} {
		checkDispatch(t, l, c.declared, c.dynamic, c.binding, "", c.want)
	}
	checkDispatch(t, l, "k", "m", "n", "nk", api.OK)
}
