package decimal

import (
	"strconv"
	"strings"

	"quadrat/api"
	"quadrat/float"
)

// Names of what has no digits.
const (
	nameInfinite = "inf"
	nameNone     = "nan"
)

const (
	mostTextDigits  = 60
	mostPowerDigits = 4
	decimalDigits   = "0123456789"
	powerLetters    = "eEdD"
)

// Floats of kind 8, of which those of the other kinds are made.
const (
	infinite8 = 0x7FF0000000000000
	quiet8    = 0x7FF8000000000000
)

// scanned is what a decimal text says: a name with a sign, or a number.
type scanned struct {
	name   string
	number number
}

func scan(text string) (scanned, bool) {
	sign, rest := cutSign(text)
	if rest == nameInfinite || rest == nameNone {
		return scanned{name: rest, number: number{sign: sign}}, true
	}
	whole, rest := cutDigits(rest)
	digits, x := whole, len(whole)
	if behind, ok := strings.CutPrefix(rest, "."); ok {
		behind, rest = cutDigits(behind)
		digits += behind
	}
	power, ok := scanPower(rest)
	if !ok || digits == "" || len(digits) > mostTextDigits {
		return scanned{}, false
	}
	count := len(digits)
	digits = strings.TrimLeft(digits, "0")
	x += power - (count - len(digits))
	return scanned{number: number{sign, digits, x}}, true
}

// scanPower reads the end of a text: nothing, or a letter and an exponent.
func scanPower(text string) (power int, ok bool) {
	if text == "" {
		return 0, true
	}
	if !strings.Contains(powerLetters, text[:1]) {
		return 0, false
	}
	sign, rest := cutSign(text[1:])
	digits, rest := cutDigits(rest)
	if rest != "" || digits == "" || len(digits) > mostPowerDigits {
		return 0, false
	}
	power, _ = strconv.Atoi(digits)
	if sign == 1 {
		power = -power
	}
	return power, true
}

func cutSign(text string) (sign int, rest string) {
	if rest, ok := strings.CutPrefix(text, "-"); ok {
		return 1, rest
	}
	return 0, strings.TrimPrefix(text, "+")
}

func cutDigits(text string) (digits, rest string) {
	rest = strings.TrimLeft(text, decimalDigits)
	return text[:len(text)-len(rest)], rest
}

// known reports whether kind and mode are ones of layer 1.
func known(kind, mode int) bool {
	_, _, err := float.FromInt(kind, mode, 0)
	return err == api.OK
}

// hasDigits reports whether a float is finite and not 0.
func hasDigits(kind, a int) bool {
	class := float.Class(kind, a)
	return class == "least" || class == "normal"
}

func infinite(kind, sign int) int {
	out, _, _ := float.Convert(8, kind, modeNearest, infinite8)
	if sign == 1 {
		out, _ = float.Neg(kind, out)
	}
	return out
}

func quiet(kind int) int {
	out, _, _ := float.Convert(8, kind, modeNearest, quiet8)
	return out
}

// nameOf is the text of a float that is infinite or no number; of others it is empty.
func nameOf(kind, a int) string {
	switch float.Class(kind, a) {
	case "none":
		return nameNone
	case "infinite":
		sign := 0
		if order, _ := float.Compare(kind, a, 0); order < 0 {
			sign = 1
		}
		return minus(sign) + nameInfinite
	}
	return ""
}

func minus(sign int) string {
	if sign == 1 {
		return "-"
	}
	return ""
}

// zeros returns n zeros, or none, if n is below 0.
func zeros(n int) string {
	return strings.Repeat("0", max(n, 0))
}

// exponent writes a sign, and at least so many digits.
func exponent(x, least int) string {
	sign := "+"
	if x < 0 {
		sign, x = "-", -x
	}
	digits := strconv.Itoa(x)
	return sign + zeros(least-len(digits)) + digits
}

// scientific writes a number's size with one digit ahead of the point, and an exponent.
func (v number) scientific() string {
	return v.digits[:1] + "." + orZero(v.digits[1:]) + "E" + strconv.Itoa(v.x-1)
}

// positional writes a number's size without an exponent.
func (v number) positional() string {
	digits := zeros(-v.x) + v.digits + zeros(v.x-len(v.digits))
	point := max(v.x, 0)
	return orZero(digits[:point]) + "." + orZero(digits[point:])
}

func orZero(digits string) string {
	if digits == "" {
		return "0"
	}
	return digits
}
