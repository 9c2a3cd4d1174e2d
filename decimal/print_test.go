package decimal

import (
	"math"
	"strconv"
	"strings"
	"testing"

	"quadrat/api"
)

func TestFixedByHand(t *testing.T) {
	least40 := "0." + strings.Repeat("0", 40)
	for _, r := range []struct {
		a       float64
		mode, d int
		want    string
	}{
		{1, 0, 0, "1."}, {1, 0, 2, "1.00"}, {-1.5, 0, 1, "-1.5"}, {0.5, 0, 0, "0."}, {1.5, 0, 0, "2."}, {2.5, 0, 0, "2."}, {0.75, 0, 0, "1."}, {0.75, 1, 0, "0."}, {-0.75, 1, 0, "-0."}, {-0.75, 2, 0, "-1."}, {-0.75, 3, 0, "-0."}, {0.25, 3, 0, "1."}, {0.25, 2, 0, "0."},
		{9.75, 0, 1, "9.8"}, {9.25, 0, 1, "9.2"}, {9.96875, 0, 1, "10.0"}, {99.5, 0, 0, "100."}, {98.5, 0, 0, "98."}, {0.0625, 0, 3, "0.062"}, {0.0625, 0, 1, "0.1"}, {0.05, 0, 1, "0.1"}, {0.049, 0, 1, "0.0"}, {-0.049, 0, 1, "-0.0"}, {0.0049, 0, 1, "0.0"}, {0.0049, 3, 1, "0.1"}, {-0.0049, 2, 1, "-0.1"}, {-0.0049, 3, 1, "-0.0"},
		{0, 0, 0, "0."}, {0, 3, 4, "0.0000"}, {math.Copysign(0, -1), 0, 0, "-0."}, {math.Copysign(0, -1), 2, 3, "-0.000"}, {5e-324, 0, 40, least40}, {5e-324, 3, 40, least40[:41] + "1"}, {-5e-324, 3, 40, "-" + least40}, {5e-324, 3, 0, "1."}, {-5e-324, 2, 0, "-1."},
		{math.Inf(1), 0, 0, "inf"}, {math.Inf(-1), 3, 40, "-inf"}, {math.NaN(), 0, 2, "nan"}, {1e22, 0, 2, "10000000000000000000000.00"}, {1e23, 1, 0, "99999999999999991611392."}, {0.1, 0, 40, "0.1000000000000000055511151231257827021182"},
	} {
		if text, err := Fixed(8, r.mode, bitsOf(r.a), r.d); text != r.want || err != api.OK {
			t.Errorf("Fixed of %v, mode %d, %d: %s, %d instead of %s", r.a, r.mode, r.d, text, err, r.want)
		}
	}
}

func TestFixed(t *testing.T) {
	for _, kind := range kinds {
		for i, size := range append(samples(kind, 300), 0) {
			for _, a := range signs(kind, size) {
				for mode := range 4 {
					for _, d := range []int{0, 1, i % 41, 40} {
						want := fixedOf(mode, isNegative(kind, a), valueOf(kind, size), d)
						if isNegative(kind, a) {
							want = "-" + want
						}
						if text, err := Fixed(kind, mode, a, d); text != want || err != api.OK {
							t.Fatalf("Fixed of %#x, kind %d, mode %d, %d: %s, %d instead of %s", uint64(a), kind, mode, d, text, err, want)
						}
					}
				}
			}
		}
	}
}

func TestPowerByHand(t *testing.T) {
	for _, r := range []struct {
		a          float64
		mode, d, e int
		want       string
	}{
		{1, 0, 1, 2, "0.1E+01"}, {1, 0, 3, 2, "0.100E+01"}, {1, 0, 3, 3, "0.100E+001"}, {1, 0, 3, 4, "0.100E+0001"}, {-123.5, 0, 4, 2, "-0.1235E+03"}, {0.5, 0, 2, 2, "0.50E+00"}, {0.05, 0, 2, 2, "0.50E-01"}, {0.05, 3, 2, 2, "0.51E-01"}, {-0.05, 2, 2, 4, "-0.51E-0001"},
		{0, 0, 1, 2, "0.0E+00"}, {0, 3, 4, 4, "0.0000E+0000"}, {math.Copysign(0, -1), 0, 2, 3, "-0.00E+000"}, {9.96, 0, 2, 2, "0.10E+02"}, {9.96, 1, 2, 2, "0.99E+01"}, {0.0996, 0, 2, 2, "0.10E+00"}, {999.5, 0, 3, 2, "0.100E+04"}, {998.5, 0, 3, 2, "0.998E+03"}, {-998.5, 3, 3, 2, "-0.998E+03"}, {-998.5, 2, 3, 2, "-0.999E+03"},
		{1e99, 0, 2, 2, "0.10E+100"}, {1e98, 0, 2, 2, "0.10E+99"}, {1e-100, 0, 2, 2, "0.10E-99"}, {1e-101, 0, 2, 2, "0.10E-100"}, {math.MaxFloat64, 0, 3, 4, "0.180E+0309"}, {5e-324, 0, 3, 2, "0.494E-323"}, {5e-324, 1, 1, 4, "0.4E-0323"},
		{math.Inf(1), 0, 1, 2, "inf"}, {math.Inf(-1), 3, 40, 4, "-inf"}, {math.NaN(), 0, 2, 2, "nan"}, {0.1, 0, 40, 2, "0.1000000000000000055511151231257827021182E+00"},
	} {
		if text, err := Power(8, r.mode, bitsOf(r.a), r.d, r.e); text != r.want || err != api.OK {
			t.Errorf("Power of %v, mode %d, %d, %d: %s, %d instead of %s", r.a, r.mode, r.d, r.e, text, err, r.want)
		}
	}
}

func TestPower(t *testing.T) {
	for _, kind := range kinds {
		for i, size := range samples(kind, 300) {
			for _, a := range signs(kind, size) {
				for mode := range 4 {
					d, e := 1+i%40, 2+i%3
					digits, x := digitsOf(mode, isNegative(kind, a), valueOf(kind, size), d)
					power := strconv.Itoa(max(x, -x))
					want := "0." + digits + "E+"
					if x < 0 {
						want = "0." + digits + "E-"
					}
					for range e - len(power) {
						want += "0"
					}
					want += power
					if isNegative(kind, a) {
						want = "-" + want
					}
					if text, err := Power(kind, mode, a, d, e); text != want || err != api.OK {
						t.Fatalf("Power of %#x, kind %d, mode %d, %d, %d: %s, %d instead of %s", uint64(a), kind, mode, d, e, text, err, want)
					}
				}
			}
		}
	}
}

func TestPlainByHand(t *testing.T) {
	for text, a := range map[string]float64{
		"0.1": 0.1, "1.0E22": 1e22, "123.5": 123.5, "-123.5": -123.5, "0.30000000000000004": math.Float64frombits(0x3FD3333333333334), "0.0": 0, "-0.0": math.Copysign(0, -1), "1.0": 1, "10.0": 10, "-12.0": -12, "100000000.0": 1e8, "999999999.0": 999999999, "1.0E9": 1e9, "1.234567891E9": 1234567891,
		"999999999.5": 999999999.5, "0.5": 0.5, "0.01": 0.01, "0.001": 0.001, "0.0001": 0.0001, "0.00012": 0.00012, "0.00099": 0.00099, "9.9E-5": 0.000099, "1.0E-5": 0.00001, "-1.5E-7": -1.5e-7, "5.0E-324": 5e-324, "1.7976931348623157E308": math.MaxFloat64, "-1.7976931348623157E308": -math.MaxFloat64,
		"inf": math.Inf(1), "-inf": math.Inf(-1), "nan": math.NaN(), "12345.678": 12345.678, "1.0E10": 1e10, "1.0E100": 1e100, "1.0E-100": 1e-100,
	} {
		if got, err := Plain(8, bitsOf(a)); got != text || err != api.OK {
			t.Errorf("Plain of %v: %s, %d instead of %s", a, got, err, text)
		}
	}
}

// All bits of no numbers, also with a sign, are written alike.
func TestNames(t *testing.T) {
	for _, kind := range kinds {
		for _, size := range []uint64{infBits(kind) + 1, uint64(quietBits(kind)), signBit(kind) - 1} {
			for _, a := range signs(kind, size) {
				checkName(t, kind, a, "nan")
			}
		}
		checkName(t, kind, int(infBits(kind)), "inf")
		checkName(t, kind, negative(kind, infBits(kind)), "-inf")
	}
}

func checkName(t *testing.T, kind, a int, want string) {
	t.Helper()
	for mode := range 4 {
		fixed, e := Fixed(kind, mode, a, mode*13)
		power, f := Power(kind, mode, a, 1+mode*13, 3)
		plain, g := Plain(kind, a)
		if fixed != want || power != want || plain != want || e != api.OK || f != api.OK || g != api.OK {
			t.Errorf("%#x of kind %d: %s, %s, %s", uint64(a), kind, fixed, power, plain)
		}
	}
}

func TestPlain(t *testing.T) {
	for _, kind := range kinds {
		for _, size := range samples(kind, 60) {
			digits, x := shortestOf(kind, size)
			want := digits[:1] + "." + digits[1:]
			switch {
			case x < -3 || x > 9:
				if len(digits) == 1 {
					want += "0"
				}
				want += "E" + strconv.Itoa(x-1)
			case x <= 0:
				want = "0." + strings.Repeat("0", -x) + digits
			case x < len(digits):
				want = digits[:x] + "." + digits[x:]
			default:
				want = digits + strings.Repeat("0", x-len(digits)) + ".0"
			}
			for i, a := range signs(kind, size) {
				if text, err := Plain(kind, a); text != []string{want, "-" + want}[i] || err != api.OK {
					t.Fatalf("Plain of %#x, kind %d: %s, %d instead of %s", uint64(a), kind, text, err, want)
				}
			}
		}
	}
}
