package scope

import (
	"slices"
	"strings"
	"testing"

	"quadrat/api"
)

// withVersion is a module file of these lines, with the version that the chapter tells.
func withVersion(module, lines string) string {
	sum := 0
	for i, b := range []byte(lines) {
		sum += int(b) * (i + 1)
	}
	return "module " + module + " " + decimalText(sum%65521) + "\n" + lines
}

func decimalText(n int) string {
	digits := string(rune('0' + n%10))
	if n > 9 {
		return decimalText(n/10) + digits
	}
	return digits
}

func TestWrite(t *testing.T) {
	f := parsed(t, "module m|integer, parameter :: k(2, 2) = 1|real(8) :: b|contains|subroutine s|end|end|module n|use m, a => s|logical :: l(1:2)|end|module e|end")
	for module, lines := range map[string]string{
		"m": "b m b 4 0 0\nk m k 1 2 1\ns m s 0 0 0\n",
		"n": "a m s 0 0 0\nb m b 4 0 0\nk m k 1 2 1\nl n l 2 1 0\n",
		"e": "",
	} {
		if text, err := Write(f, module); text != withVersion(module, lines) || err != api.OK {
			t.Errorf("Write(%s) = %q, %d", module, text, err)
		}
	}
	if text, err := Write(f, "e"); text != "module e 0\n" || err != api.OK {
		t.Errorf("%q, %d", text, err)
	}
}

// By hand: 'a' 97, ' ' 32, 'm' 109, 'a' 97, '1' 49, '0' 48, line feed 10, at places 1 to 12.
func TestVersion(t *testing.T) {
	const lines = "a m a 1 0 0\n"
	sum := 97*1 + 32*2 + 109*3 + 32*4 + 97*5 + 32*6 + 49*7 + 32*8 + 48*9 + 32*10 + 48*11 + 10*12
	if sum != 3292 {
		t.Fatal(sum)
	}
	text, err := Write(parsed(t, "module m|integer :: a|end"), "m")
	if text != "module m 3292\n"+lines || err != api.OK {
		t.Errorf("%q, %d", text, err)
	}
	if _, version, _, _, err := Read(text); version != 3292 || err != api.OK {
		t.Errorf("%d, %d", version, err)
	}
}

func TestRead(t *testing.T) {
	text := withVersion("m_1", "a m_1 a 1 0 1\nabcdefghijkl n abcdefghijkl 0 0 0\nb2 p%s x 4 3 0\nc q x 2 3 1\nd q x 3 0 0\n")
	module, version, names, l, err := Read(text)
	want := []api.Entity{parameter("m_1", "a", 1, 0), subroutine("n", "abcdefghijkl"), variable("p%s", "x", 4, 3), parameter("q", "x", 2, 3), variable("q", "x", 3, 0)}
	if module != "m_1" || !strings.HasPrefix(text, "module m_1 "+decimalText(version)+"\n") || !slices.Equal(names, []string{"a", "abcdefghijkl", "b2", "c", "d"}) || !slices.Equal(l, want) || err != api.OK {
		t.Errorf("%s, %d, %v, %v, %d", module, version, names, l, err)
	}
	module, version, names, l, err = Read("module e 0\n")
	if module != "e" || version != 0 || len(names) > 0 || len(l) > 0 || err != api.OK {
		t.Errorf("%s, %d, %v, %v, %d", module, version, names, l, err)
	}
}

// Longer files than the modulus keep their version's exact sum.
func TestReadLong(t *testing.T) {
	var b strings.Builder
	for i := range 9000 {
		name := "x" + decimalText(10000+i)
		b.WriteString(name + " m " + name + " 1 0 0\n")
	}
	text := withVersion("m", b.String())
	if module, _, names, l, err := Read(text); module != "m" || len(names) != 9000 || len(l) != 9000 || names[8999] != "x18999" || err != api.OK {
		t.Errorf("%s, %d, %d, %d", module, len(names), len(l), err)
	}
}

// Lines that are malformed, each with the version that they would have.
func TestReadLines(t *testing.T) {
	const good = "a m a 1 0 0\n"
	for _, line := range []string{
		"", " ", "a", "a m a 1 0", "a m a 1 0 0 0", " a m a 1 0 0", "a m a 1 0 0 ", "a  m a 1 0 0", "a m a 1 0  0", "a m a 1 0 0\r",
		"A m a 1 0 0", "a M a 1 0 0", "a m A 1 0 0", "1 m a 1 0 0", "a 1 a 1 0 0", "a m 1 1 0 0", "abcdefghijklm m a 1 0 0", "a abcdefghijklm a 1 0 0", "a m abcdefghijklm 1 0 0",
		"a  a 1 0 0", "a m  1 0 0", "a m a  0 0", "a m a 1  0", "a m a 1 0 ",
		"a % a 1 0 0", "a m% a 1 0 0", "a %s a 1 0 0", "a m%s%t a 1 0 0", "a m%S a 1 0 0", "a m.s a 1 0 0",
		"a m a 5 0 0", "a m a -1 0 0", "a m a +1 0 0", "a m a 01 0 0", "a m a 1.0 0 0", "a m a x 0 0", "a m a 99999999999999999999 0 0",
		"a m a 1 4 0", "a m a 1 -1 0", "a m a 1 00 0", "a m a 1 x 0",
		"a m a 1 0 2", "a m a 1 0 -1", "a m a 1 0 00", "a m a 1 0 01", "a m a 1 0 T",
		"a m a 1 0 0 ! a",
	} {
		checkMalformed(t, withVersion("m", line+"\n"))
		checkMalformed(t, withVersion("m", good+strings.Replace(line, "a", "b", 1)+"\n"))
	}
	if _, _, _, _, err := Read(withVersion("m", good)); err != api.OK {
		t.Errorf("%d", err)
	}
}

// Names ascend, byte by byte, each one once.
func TestReadAscending(t *testing.T) {
	for names, want := range map[string]api.Errno{
		"a b c": api.OK, "a a1 a_ aa b": api.OK, "x x1": api.OK,
		"a c b": api.ErrForm, "a a": api.ErrForm, "a b b": api.ErrForm, "b a": api.ErrForm, "aa a": api.ErrForm, "a_ a1": api.ErrForm, "x2 x10": api.ErrForm,
	} {
		lines := ""
		for _, name := range strings.Fields(names) {
			lines += name + " m x 1 0 0\n"
		}
		if _, _, _, _, err := Read(withVersion("m", lines)); err != want {
			t.Errorf("%s: %d", names, err)
		}
	}
}

func TestReadHead(t *testing.T) {
	lines := "a m a 1 0 0\n"
	for _, head := range []string{
		"", "\n", "module m 3292", "module m\n", "module\n", "m 3292\n", "Module m 3292\n", "modul m 3292\n", "module m 3292 \n", " module m 3292\n", "module  m 3292\n", "module m  3292\n",
		"module m 03292\n", "module m +3292\n", "module m 3293\n", "module m 0\n", "module m 68813\n", "module m -62229\n", "module m x\n", "module m 3292\r\n", "module m 3292\n\n",
		"module M 3292\n", "module 1 3292\n", "module  3292\n", "module abcdefghijklm 3292\n", "module m%s 3292\n", "module m 3292 1\n", "program m 3292\n", "\tmodule m 3292\n", "module\tm 3292\n",
	} {
		checkMalformed(t, head+lines)
	}
	if _, version, _, _, err := Read("module abcdefghijkl 3292\n" + lines); version != 3292 || err != api.OK {
		t.Errorf("%d, %d", version, err)
	}
	for _, text := range []string{"", "\n", "module", "module ", "module a", "module a ", "module a 0", "module a 1\n", "module a 00\n", "module a 0\n\n", "module a 0\n ", "module a 0 \n"} {
		checkMalformed(t, text)
	}
}

// A text that has lost its end, has another byte, or two bytes in the other order is another version, or malformed.
func TestReadChanged(t *testing.T) {
	text := withVersion("m", "a m a 1 0 0\nbb n%s c 3 2 1\nc q d 0 0 0\n")
	for i := range len(text) {
		checkMalformed(t, text[:i])
		for _, b := range []byte("a0b1 2\n%z\x00\xff") {
			changed := text[:i] + string([]byte{b}) + text[i+1:]
			isOther := i < len("module ") || i > len("module m")
			if changed != text && isOther {
				checkMalformed(t, changed)
			}
		}
		if i > len("module m ") && text[i] != text[i-1] {
			checkMalformed(t, text[:i-1]+text[i:i+1]+text[i-1:i]+text[i+1:])
		}
	}
}
