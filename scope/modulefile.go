package scope

import (
	"strconv"
	"strings"

	"quadrat/api"
	"quadrat/token"
)

// headWord begins a module file.
const headWord = "module"

// modulus is the number below which versions stay.
const modulus = 65521

// moduleFile writes a module file.
func moduleFile(module string, names []string, l []api.Entity) string {
	var b strings.Builder
	for i, e := range l {
		words := []string{names[i], e.Path, e.Name, strconv.Itoa(e.Kind), strconv.Itoa(e.Rank), parameterWord(e.Parameter)}
		b.WriteString(strings.Join(words, " "))
		b.WriteByte('\n')
	}
	lines := b.String()
	return strings.Join([]string{headWord, module, strconv.Itoa(versionOf(lines))}, " ") + "\n" + lines
}

// Words for whether an entity is a parameter.
const (
	isParameter = "1"
	isVariable  = "0"
)

func parameterWord(parameter bool) string {
	if parameter {
		return isParameter
	}
	return isVariable
}

// versionOf returns the version of a module file by what stands behind its first line. Each step stays below the modulus, so that no sum gets too great.
func versionOf(lines string) int {
	sum := 0
	for i := range len(lines) {
		place := (i + 1) % modulus
		sum = (sum + int(lines[i])*place) % modulus
	}
	return sum
}

// cutLine parts a text behind its first line.
func cutLine(text string) (line, rest string) {
	line, rest, _ = strings.Cut(text, "\n")
	return line, rest
}

// readHead reads the first line of a module file, but for its version.
func readHead(line string) (module string, ok bool) {
	words := strings.Split(line, " ")
	if len(words) < 2 || !token.IsName(words[1]) {
		return "", false
	}
	return words[1], true
}

// readLines reads the lines behind the first one, so far as they are right in themselves.
func readLines(text string) (names []string, l []api.Entity, ok bool) {
	for text != "" {
		var line string
		line, text = cutLine(text)
		words := strings.Split(line, " ")
		e, isEntity := readEntity(words[1:])
		if !isEntity || !token.IsName(words[0]) || len(names) > 0 && words[0] <= names[len(names)-1] {
			return nil, nil, false
		}
		names = append(names, words[0])
		l = append(l, e)
	}
	return names, l, true
}

// readEntity reads what stands behind a name. A subroutine has no rank, and is no parameter.
func readEntity(words []string) (api.Entity, bool) {
	if len(words) != 5 || !isPath(words[0]) || !token.IsName(words[1]) {
		return api.Entity{}, false
	}
	kind, ok := readNumber(words[2], api.KReal8)
	rank, fine := readNumber(words[3], api.MaxRank)
	e := api.Entity{Path: words[0], Name: words[1], Kind: kind, Rank: rank, Parameter: words[4] == isParameter}
	if kind == 0 && (rank > 0 || e.Parameter) {
		return api.Entity{}, false
	}
	return e, ok && fine
}

// isPath reports whether a text can be the path of a unit.
func isPath(text string) bool {
	host, name, contained := strings.Cut(text, "%")
	return token.IsName(host) && (!contained || token.IsName(name))
}

// readNumber reads a number from 0 to most.
func readNumber(text string, most int) (int, bool) {
	n, err := strconv.Atoi(text)
	return n, err == nil && n >= 0 && n <= most
}
