package decimal

import (
	"math"
	"testing"

	"quadrat/api"
)

var noKinds = []int{math.MinInt, -8, -2, -1, 0, 1, 3, 5, 6, 7, 9, 10, 16, 32, 64, math.MaxInt}

var noModes = []int{math.MinInt, -1, 4, 5, math.MaxInt}

// noBits are no bits of a kind; of kind 8 all are bits.
func noBits(kind int) []int {
	if kind == 8 {
		return nil
	}
	return []int{math.MinInt, -1 << 31, -1 << 15, -1, 1 << (8 * kind), 1<<(8*kind) + 1, math.MaxInt}
}

// call is a call of a function with bits, and whether it gave nothing beside the error.
type call struct {
	name     string
	mode     bool // whether it takes one
	unnamed  bool // whether it takes infinite ones, no numbers, and zeros
	least    int  // of n or d, where it takes them
	most     int
	do       func(kind, mode, a, n int) (empty bool, err api.Errno)
	ordinary int
}

func calls() []call {
	return []call{
		{"Digits", true, false, 1, 40, func(kind, mode, a, n int) (bool, api.Errno) {
			sign, digits, x, err := Digits(kind, mode, a, n)
			return sign == 0 && digits == "" && x == 0, err
		}, 3},
		{"Shortest", false, false, 0, 0, func(kind, _, a, _ int) (bool, api.Errno) {
			sign, digits, x, err := Shortest(kind, a)
			return sign == 0 && digits == "" && x == 0, err
		}, 0},
		{"Fixed", true, true, 0, 40, func(kind, mode, a, n int) (bool, api.Errno) {
			text, err := Fixed(kind, mode, a, n)
			return text == "", err
		}, 3},
		{"Power", true, true, 1, 40, func(kind, mode, a, n int) (bool, api.Errno) {
			text, err := Power(kind, mode, a, n, 2)
			return text == "", err
		}, 3},
		{"Power's exponent", true, true, 2, 4, func(kind, mode, a, n int) (bool, api.Errno) {
			text, err := Power(kind, mode, a, 5, n)
			return text == "", err
		}, 3},
		{"Plain", false, true, 0, 0, func(kind, _, a, _ int) (bool, api.Errno) {
			text, err := Plain(kind, a)
			return text == "", err
		}, 0},
	}
}

func (c call) refuses(t *testing.T, kind, mode, a, n int) {
	t.Helper()
	if empty, err := c.do(kind, mode, a, n); !empty || err != api.ErrArg {
		t.Errorf("%s of %#x, kind %d, mode %d, %d: %v, %d", c.name, uint64(a), kind, mode, n, empty, err)
	}
}

func (c call) takes(t *testing.T, kind, mode, a, n int) {
	t.Helper()
	if empty, err := c.do(kind, mode, a, n); empty || err != api.OK {
		t.Errorf("%s of %#x, kind %d, mode %d, %d: %v, %d", c.name, uint64(a), kind, mode, n, empty, err)
	}
}

func TestRefusedKindsAndModes(t *testing.T) {
	for _, c := range calls() {
		for _, a := range []int{0, 1, 0x3C00, 0x7C00, 0x7E00} {
			for _, kind := range noKinds {
				c.refuses(t, kind, 0, a, c.ordinary)
			}
			for _, kind := range kinds {
				for _, mode := range noModes {
					if c.mode {
						c.refuses(t, kind, mode, a, c.ordinary)
					}
				}
			}
		}
	}
}

func TestRefusedBits(t *testing.T) {
	for _, c := range calls() {
		for _, kind := range kinds {
			for _, a := range noBits(kind) {
				c.refuses(t, kind, 0, a, c.ordinary)
			}
			for _, size := range []uint64{0, infBits(kind), infBits(kind) + 1, uint64(quietBits(kind)), signBit(kind) - 1} {
				for _, a := range signs(kind, size) {
					if c.unnamed {
						c.takes(t, kind, 3, a, c.ordinary)
					} else {
						c.refuses(t, kind, 3, a, c.ordinary)
					}
				}
			}
			for _, size := range edges(kind) {
				for _, a := range signs(kind, size) {
					c.takes(t, kind, 2, a, c.ordinary)
				}
			}
		}
	}
}

func TestRefusedCounts(t *testing.T) {
	for _, c := range calls() {
		if c.most == 0 {
			continue
		}
		for _, kind := range kinds {
			for _, a := range []int{0, 1, 0x3C00, int(infBits(kind)), quietBits(kind)} {
				for _, n := range []int{math.MinInt, -40, -1, c.least - 1, c.most + 1, 100, math.MaxInt} {
					c.refuses(t, kind, 0, a, n)
				}
			}
			for mode := range 4 {
				c.takes(t, kind, mode, 1, c.least)
				c.takes(t, kind, mode, 1, c.most)
			}
		}
	}
}

// ErrArg is told ahead of ErrForm.
func TestReadRefused(t *testing.T) {
	for _, text := range []string{"1", "0", "inf", "nan", "", "x"} {
		for _, kind := range noKinds {
			if out, flags, err := Read(text, kind, 0); out != 0 || flags != 0 || err != api.ErrArg {
				t.Errorf("Read of %q, kind %d: %d, %d, %d", text, kind, out, flags, err)
			}
		}
		for _, kind := range kinds {
			for _, mode := range noModes {
				if out, flags, err := Read(text, kind, mode); out != 0 || flags != 0 || err != api.ErrArg {
					t.Errorf("Read of %q, kind %d, mode %d: %d, %d, %d", text, kind, mode, out, flags, err)
				}
			}
		}
	}
}
