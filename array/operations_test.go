package array

import (
	"math"
	"testing"

	"quadrat/api"
)

func numberOperators() []string {
	return []string{"+", "-", "*", "/", "==", "/=", "<", "<=", ">", ">="}
}

func operators() []string {
	return append(numberOperators(), ".and.", ".or.")
}

// noOperators are texts that are no operator of two operands.
func noOperators() []string {
	return []string{"", "%", "**", "=", "!=", "<>", ".not.", ".eq.", ".AND.", "and", "//", "+ ", " +", "++", "mod", "=>"}
}

func checkOne(t *testing.T, op string, a, b, want api.Value, wanted api.Errno) {
	t.Helper()
	if v, err := One(op, a, b); v != want || err != wanted {
		t.Errorf("%v %s %v = %v, %d; want %v, %d", a, op, b, v, err, want, wanted)
	}
}

// All operators of numbers, for all pairs of samples of all kinds.
func TestOneOfNumbers(t *testing.T) {
	for _, a := range allSamples() {
		for _, b := range allSamples() {
			if a.Kind == api.KLogical || b.Kind == api.KLogical {
				continue
			}
			for _, op := range numberOperators() {
				want, wanted := expected(op, a, b)
				checkOne(t, op, a, b, want, wanted)
			}
		}
	}
}

func TestOneOfIntegers(t *testing.T) {
	for _, c := range []struct {
		op         string
		a, b, want int
	}{
		{"+", api.MaxInt, -1, api.MaxInt - 1}, {"+", api.MaxInt, -api.MaxInt, 0}, {"-", -api.MaxInt, -api.MaxInt, 0}, {"+", 1<<30 - 1, 1 << 30, api.MaxInt}, {"-", -1, api.MaxInt - 1, -api.MaxInt},
		{"*", 46340, 46340, 2147395600}, {"*", -1, api.MaxInt, -api.MaxInt}, {"*", 0, -api.MaxInt, 0}, {"*", -46341, 46340, -2147441940},
		{"/", 7, 2, 3}, {"/", -7, 2, -3}, {"/", 7, -2, -3}, {"/", -7, -2, 3}, {"/", 1, 2, 0}, {"/", -1, 2, 0}, {"/", api.MaxInt, -1, -api.MaxInt}, {"/", 0, 5, 0}, {"/", -api.MaxInt, api.MaxInt, -1},
	} {
		checkOne(t, c.op, integer(c.a), integer(c.b), integer(c.want), api.OK)
	}
	for _, c := range []struct {
		op   string
		a, b int
		want api.Errno
	}{
		{"+", api.MaxInt, 1, api.ErrRange}, {"+", -api.MaxInt, -1, api.ErrRange}, {"-", api.MaxInt, -api.MaxInt, api.ErrRange}, {"-", -api.MaxInt, 1, api.ErrRange}, {"*", 46341, 46341, api.ErrRange},
		{"*", api.MaxInt, api.MaxInt, api.ErrRange}, {"*", -api.MaxInt, 2, api.ErrRange}, {"*", 1 << 16, -1 << 15, api.ErrRange}, {"/", 0, 0, api.ErrZero}, {"/", api.MaxInt, 0, api.ErrZero}, {"/", -1, 0, api.ErrZero},
	} {
		checkOne(t, c.op, integer(c.a), integer(c.b), api.Value{}, c.want)
	}
}

// An integer is rounded to a float of kind 4 also where just comparing.
func TestOneOfMixedKinds(t *testing.T) {
	odd := integer(1<<24 + 1)
	checkOne(t, "==", odd, real4(1<<24), logical(1), api.OK)
	checkOne(t, "<", real4(1<<24), odd, logical(0), api.OK)
	checkOne(t, "==", odd, real8(1<<24), logical(0), api.OK)
	checkOne(t, ">", odd, real8(1<<24), logical(1), api.OK)
	checkOne(t, "+", odd, real4(0), real4(1<<24), api.OK)
	checkOne(t, "+", real4(0.1), real8(0), real8(0.10000000149011612), api.OK)
	checkOne(t, "+", integer(1), real4(0.5), real4(1.5), api.OK)
	checkOne(t, "/", integer(1), real8(3), real8(1.0/3), api.OK)
	checkOne(t, "/", integer(1), real8(0), real8(math.Inf(1)), api.OK)
	checkOne(t, "/", real4(-1), integer(0), real4(math.Inf(-1)), api.OK)
	checkOne(t, "/", integer(0), real8(0), bits8(quiet8), api.OK)
	checkOne(t, "*", real4(1e38), real4(10), real4(math.Inf(1)), api.OK)
	checkOne(t, "*", real4(1e38), real8(10), real8(float64(float32(1e38))*10), api.OK)
}

// Of no numbers just /= is true; the result of others is the quiet one.
func TestOneOfNoNumbers(t *testing.T) {
	for _, none := range []api.Value{bits4(quiet4), bits4(0xffffffff), bits8(quiet8), bits8(-1), bits8(0x7ff0000000000001)} {
		for _, other := range []api.Value{none, integer(3), real4(-2), real8(0), bits8(-1), real4(math.Inf(1))} {
			for _, op := range operators()[4:10] {
				checkOne(t, op, none, other, isTrue(op == "/="), api.OK)
				checkOne(t, op, other, none, isTrue(op == "/="), api.OK)
			}
			for _, op := range operators()[:4] {
				want := asKind(max(none.Kind, other.Kind), math.NaN())
				checkOne(t, op, none, other, want, api.OK)
				checkOne(t, op, other, none, want, api.OK)
			}
		}
	}
}

func TestOneOfLogicals(t *testing.T) {
	for a := range 2 {
		for b := range 2 {
			x, y := a == 1, b == 1
			checkOne(t, "==", logical(a), logical(b), isTrue(x == y), api.OK)
			checkOne(t, "/=", logical(a), logical(b), isTrue(x != y), api.OK)
			checkOne(t, ".and.", logical(a), logical(b), isTrue(x && y), api.OK)
			checkOne(t, ".or.", logical(a), logical(b), isTrue(x || y), api.OK)
		}
	}
}

func TestOnly(t *testing.T) {
	for _, v := range allSamples() {
		plus, minus := v, v
		switch {
		case v.Kind == api.KInt:
			minus.N = -v.N
		case v.Kind != api.KLogical:
			plus, minus = asKind(v.Kind, asFloat(v)), asKind(v.Kind, -asFloat(v))
		default:
			plus, minus = api.Value{}, api.Value{}
		}
		for op, want := range map[string]api.Value{"+": plus, "-": minus} {
			wanted := api.OK
			if v.Kind == api.KLogical {
				wanted = api.ErrType
			}
			if x, err := Only(op, v); x != want || err != wanted {
				t.Errorf("%s %v = %v, %d; want %v, %d", op, v, x, err, want, wanted)
			}
		}
		want, wanted := api.Value{}, api.ErrType
		if v.Kind == api.KLogical {
			want, wanted = logical(1-v.N), api.OK
		}
		if x, err := Only(".not.", v); x != want || err != wanted {
			t.Errorf(".not. %v = %v, %d", v, x, err)
		}
	}
}

func TestOnlyOfZeros(t *testing.T) {
	for _, c := range []struct{ v, want api.Value }{
		{real4(0), bits4(0x80000000)}, {bits4(0x80000000), bits4(0)}, {real8(0), bits8(math.MinInt)}, {real8(math.Inf(1)), real8(math.Inf(-1))},
		{bits8(-1), bits8(quiet8)}, {bits4(0xffc00000), bits4(quiet4)}, {integer(0), integer(0)}, {integer(api.MaxInt), integer(-api.MaxInt)},
	} {
		if v, err := Only("-", c.v); v != c.want || err != api.OK {
			t.Errorf("- %v = %v, %d", c.v, v, err)
		}
	}
	for _, v := range []api.Value{bits8(math.MinInt), real4(math.Inf(-1)), integer(-3)} {
		if x, err := Only("+", v); x != v || err != api.OK {
			t.Errorf("+ %v = %v, %d", v, x, err)
		}
	}
}

func TestTo(t *testing.T) {
	for _, v := range allSamples() {
		for kind := api.KInt; kind <= api.KReal8; kind++ {
			want, wanted := v, api.OK
			switch {
			case v.Kind == api.KLogical || kind == api.KLogical:
				if v.Kind != kind {
					want, wanted = api.Value{}, api.ErrType
				}
			default:
				want, wanted = expectedTo(kind, v)
			}
			if x, err := To(kind, v); x != want || err != wanted {
				t.Errorf("To(%d, %v) = %v, %d; want %v, %d", kind, v, x, err, want, wanted)
			}
		}
	}
}

func TestToIntegers(t *testing.T) {
	for _, c := range []struct {
		v    api.Value
		want int
	}{
		{real8(2147483647), api.MaxInt}, {real8(2147483647.999), api.MaxInt}, {real8(-2147483647.999), -api.MaxInt}, {real8(-0.999), 0}, {real8(0.999), 0}, {real8(1e-310), 0},
		{real4(2147483520), 2147483520}, {real4(-7.5), -7}, {real8(7.5), 7}, {real8(math.Copysign(0, -1)), 0},
	} {
		if v, err := To(api.KInt, c.v); v != integer(c.want) || err != api.OK {
			t.Errorf("To(KInt, %v) = %v, %d", asFloat(c.v), v, err)
		}
	}
	for _, v := range []api.Value{real8(2147483648), real8(-2147483648), real4(2147483648), real4(-2147483648), real8(1e18), real8(1e19), real8(-1e300), real8(math.Inf(1)), real4(math.Inf(-1)), bits8(-1), bits4(quiet4)} {
		if x, err := To(api.KInt, v); x != (api.Value{}) || err != api.ErrRange {
			t.Errorf("To(KInt, %v) = %v, %d", asFloat(v), x, err)
		}
	}
}

// Kind by a table of letters: n an integer, b a logical, r and d floats; . is 0.
func TestKind(t *testing.T) {
	const letters = ".nbrd"
	for _, c := range []struct {
		ops string
		// rows are what becomes of a first operand n, b, r, d with a second one n, b, r, d.
		rows [4]string
	}{
		{"+ - * /", [4]string{"n.rd", "....", "r.rd", "d.dd"}},
		{"== /=", [4]string{"b.bb", ".b..", "b.bb", "b.bb"}},
		{"< <= > >=", [4]string{"b.bb", "....", "b.bb", "b.bb"}},
		{".and. .or.", [4]string{"....", ".b..", "....", "...."}},
	} {
		for _, op := range split(c.ops) {
			for a := -1; a <= 6; a++ {
				for b := -1; b <= 6; b++ {
					want := byte('.')
					if a >= 1 && a <= 4 && b >= 1 && b <= 4 {
						want = c.rows[a-1][b-1]
					}
					if b == 0 && (op == "+" || op == "-") && a >= 1 && a <= 4 {
						want = "n.rd"[a-1]
					}
					if k := Kind(op, a, b); k < 0 || k > 4 || letters[k] != want {
						t.Errorf("Kind(%s, %d, %d) = %d; want %c", op, a, b, k, want)
					}
				}
			}
		}
	}
	for a := -1; a <= 6; a++ {
		for b := -1; b <= 6; b++ {
			want := 0
			if a == api.KLogical && b == 0 {
				want = api.KLogical
			}
			if k := Kind(".not.", a, b); k != want {
				t.Errorf("Kind(.not., %d, %d) = %d", a, b, k)
			}
			for _, op := range noOperators() {
				if op != ".not." && Kind(op, a, b) != 0 {
					t.Errorf("Kind(%q, %d, %d) is not 0", op, a, b)
				}
			}
		}
	}
}

func split(text string) (l []string) {
	word := ""
	for _, c := range text + " " {
		if c != ' ' {
			word += string(c)
			continue
		}
		l = append(l, word)
		word = ""
	}
	return l
}
