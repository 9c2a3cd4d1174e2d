package decimal

import (
	"math"
	"strconv"
	"strings"
	"testing"

	"quadrat/api"
)

// one8 is 1 of kind 8.
const one8 = 0x3FF0000000000000

func bitsOf(x float64) int {
	return int(math.Float64bits(x))
}

func TestDigitsByHand(t *testing.T) {
	for _, r := range []struct {
		a       float64
		mode, n int
		digits  string
		x       int
	}{
		{1, 0, 1, "1", 1}, {1, 0, 5, "10000", 1}, {123.5, 0, 4, "1235", 3}, {123.5, 0, 3, "124", 3}, {122.5, 0, 3, "122", 3}, {122.5, 1, 3, "122", 3}, {122.5, 3, 3, "123", 3}, {-122.5, 3, 3, "122", 3}, {-122.5, 2, 3, "123", 3}, {122.5, 2, 3, "122", 3},
		{0.25, 0, 1, "2", 0}, {0.75, 0, 1, "8", 0}, {0.0625, 0, 2, "62", -1}, {0.0625, 0, 3, "625", -1}, {9.5, 0, 1, "1", 2}, {8.5, 0, 1, "8", 1}, {99.5, 0, 2, "10", 3}, {99.25, 3, 3, "993", 2}, {999.75, 3, 3, "100", 4}, {999.75, 1, 3, "999", 3}, {-999.75, 2, 2, "10", 4},
		{0.1, 0, 17, "10000000000000001", 0}, {0.1, 0, 18, "100000000000000006", 0}, {0.1, 1, 17, "10000000000000000", 0}, {0.1, 2, 40, "1000000000000000055511151231257827021181", 0}, {0.1, 3, 40, "1000000000000000055511151231257827021182", 0},
		{5e-324, 0, 3, "494", -323}, {5e-324, 3, 1, "5", -323}, {5e-324, 1, 1, "4", -323}, {math.MaxFloat64, 0, 5, "17977", 309}, {math.MaxFloat64, 0, 1, "2", 309}, {1e22, 0, 23, "10000000000000000000000", 23}, {1e23, 0, 23, "99999999999999991611392", 23}, {1e23, 0, 3, "100", 24},
	} {
		sign, digits, x, err := Digits(8, r.mode, bitsOf(r.a), r.n)
		if (sign == 1) != (r.a < 0) || digits != r.digits || x != r.x || err != api.OK {
			t.Errorf("Digits of %v, mode %d, to %d: %d, %s, %d, %d", r.a, r.mode, r.n, sign, digits, x, err)
		}
	}
}

func checkDigits(t *testing.T, kind, a, n int) {
	t.Helper()
	v, under := valueOf(kind, sizeOf(kind, a)), isNegative(kind, a)
	for mode := range 4 {
		wantDigits, wantX := digitsOf(mode, under, v, n)
		sign, digits, x, err := Digits(kind, mode, a, n)
		if (sign == 1) != under || digits != wantDigits || x != wantX || err != api.OK {
			t.Fatalf("Digits of %#x, kind %d, mode %d, to %d: %d, %s, %d, %d instead of %s, %d", uint64(a), kind, mode, n, sign, digits, x, err, wantDigits, wantX)
		}
	}
}

func TestDigits(t *testing.T) {
	for _, kind := range kinds {
		for i, size := range edges(kind) {
			for n := 1; n <= 40; n++ {
				checkDigits(t, kind, signs(kind, size)[(i+n)%2], n)
			}
		}
		for i, size := range samples(kind, 300) {
			for _, a := range signs(kind, size) {
				checkDigits(t, kind, a, 1+i%40)
				checkDigits(t, kind, a, 1+i%5)
			}
		}
	}
}

// Whole numbers and a half, a quarter, an eighth lie halfway between numbers of few digits.
func TestDigitsHalfway(t *testing.T) {
	for i := 1; i < 4000; i++ {
		checkDigits(t, 8, bitsOf(float64(i)/2), len(strconv.Itoa(i/2)))
		checkDigits(t, 8, bitsOf(-float64(i)/2), 1)
		checkDigits(t, 8, bitsOf(float64(i)/4), 3)
		checkDigits(t, 8, bitsOf(-float64(i)/8), 2)
		checkDigits(t, 8, bitsOf(float64(i)*5e20), 2)
	}
}

func TestShortestByHand(t *testing.T) {
	for _, r := range []struct {
		kind, a int
		sign    int
		digits  string
		x       int
	}{
		{8, one8, 0, "1", 1}, {8, bitsOf(-0.1), 1, "1", 0}, {8, bitsOf(0.3), 0, "3", 0}, {8, 0x3FD3333333333334, 0, "30000000000000004", 0}, {8, 1, 0, "5", -323}, {8, 2, 0, "1", -322}, {8, bitsOf(math.MaxFloat64), 0, "17976931348623157", 309},
		{8, 0x0010000000000000, 0, "22250738585072014", -307}, {8, bitsOf(9007199254740992), 0, "9007199254740992", 16}, {8, bitsOf(1e23), 0, "1", 24}, {8, bitsOf(123.5), 0, "1235", 3}, {8, bitsOf(2e-44), 0, "2", -43},
		{8, 0x44B52D02C7E14AF7, 0, "10000000000000001", 24}, {8, bitsOf(9.5367431640625e-7), 0, "95367431640625", -6}, {8, bitsOf(math.Ldexp(1, -1074+52)), 0, "22250738585072014", -307},
		{4, 1, 0, "1", -44}, {4, 0x7F7FFFFF, 0, "34028235", 39}, {4, 0x3DCCCCCD, 0, "1", 0}, {4, 0xBF800000, 1, "1", 1}, {4, 0x00800000, 0, "11754944", -37}, {4, 0x4B800000, 0, "16777216", 8},
		{2, 1, 0, "6", -7}, {2, 2, 0, "1", -6}, {2, 0x7BFF, 0, "655", 5}, {2, 0xFBFF, 1, "655", 5}, {2, 0x0400, 0, "6104", -4}, {2, 0x3555, 0, "3333", 0}, {2, 0x7BFE, 0, "6547", 5},
	} {
		sign, digits, x, err := Shortest(r.kind, r.a)
		if sign != r.sign || digits != r.digits || x != r.x || err != api.OK {
			t.Errorf("Shortest of %#x, kind %d: %d, %s, %d, %d instead of %s, %d", uint64(r.a), r.kind, sign, digits, x, err, r.digits, r.x)
		}
	}
}

func checkShortest(t *testing.T, kind int, size uint64) {
	t.Helper()
	wantDigits, wantX := shortestOf(kind, size)
	for _, a := range signs(kind, size) {
		sign, digits, x, err := Shortest(kind, a)
		if (sign == 1) != isNegative(kind, a) || digits != wantDigits || x != wantX || err != api.OK {
			t.Fatalf("Shortest of %#x, kind %d: %d, %s, %d, %d instead of %s, %d", uint64(a), kind, sign, digits, x, err, wantDigits, wantX)
		}
	}
}

func TestShortest(t *testing.T) {
	for size := uint64(1); size < infBits(2); size += 13 {
		checkShortest(t, 2, size)
	}
	for _, kind := range kinds {
		for _, size := range samples(kind, 40) {
			checkShortest(t, kind, size)
		}
	}
}

// Below a power of 2 floats lie twice as close as above it: there the nearest number may read back another float.
func TestShortestOfPowers(t *testing.T) {
	for _, kind := range kinds {
		p, w := layoutOf(kind)
		for e := uint64(1); e < 1<<w-1; e += 1 + e/uint64(p) {
			checkShortest(t, kind, e<<(p-1))
		}
	}
}

// The library's shortest digits of kinds 4 and 8 are found another way.
func TestShortestLikeLibrary(t *testing.T) {
	for _, kind := range []int{4, 8} {
		for _, size := range samples(kind, 4000) {
			value, width := math.Float64frombits(size), 64
			if kind == 4 {
				value, width = float64(math.Float32frombits(uint32(size))), 32
			}
			want := strings.ReplaceAll(strings.TrimLeft(strconv.FormatFloat(value, 'e', -1, width), "0"), ".", "")
			wantDigits, power, _ := strings.Cut(want, "e")
			wantX, _ := strconv.Atoi(power)
			_, digits, x, err := Shortest(kind, int(size))
			if digits != wantDigits || x != wantX+1 || err != api.OK {
				t.Fatalf("Shortest of %#x, kind %d: %s, %d, %d instead of %s, %d", size, kind, digits, x, err, wantDigits, wantX+1)
			}
		}
	}
}
