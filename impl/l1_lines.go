// Package impl is about texts and what was changed in them; each file is one layer.
package impl

import (
	"iter"
	"strings"
)

const MaxLines = 40
const MaxLine = 30

func LinesOf(s string) ([]string, bool) {
	var l []string
	for line := range linesIn(s) {
		if len(l) == MaxLines || len(line) > MaxLine {
			return nil, false
		}
		l = append(l, line)
	}
	return l, true
}

// A rune of value 10 is always the one byte 10: no longer rune has that byte in it,
// and a byte that begins no good rune is ranged over alone, so any bytes can be cut here.
func linesIn(s string) iter.Seq[string] {
	return func(yield func(string) bool) {
		from := 0
		for i, r := range s {
			if r != '\n' {
				continue
			}
			if !yield(s[from : i+1]) {
				return
			}
			from = i + 1
		}
		if from < len(s) {
			yield(s[from:])
		}
	}
}

func GoodLines(l []string) bool {
	if len(l) > MaxLines {
		return false
	}
	for i, line := range l {
		last := i == len(l)-1
		if !isLine(line) || !last && !hasEnd(line) {
			return false
		}
	}
	return true
}

func isLine(line string) bool {
	if line == "" || len(line) > MaxLine {
		return false
	}
	for i, r := range line {
		if r == '\n' && i < len(line)-1 {
			return false
		}
	}
	return true
}

func hasEnd(line string) bool {
	return strings.HasSuffix(line, "\n")
}

func TextOf(l []string) (string, bool) {
	if !GoodLines(l) {
		return "", false
	}
	return strings.Join(l, ""), true
}

func IsWhole(l []string) (bool, bool) {
	if !GoodLines(l) {
		return false, false
	}
	return len(l) == 0 || hasEnd(l[len(l)-1]), true
}

func SameAhead(a []string, b []string) (int, bool) {
	if !GoodLines(a) || !GoodLines(b) {
		return 0, false
	}
	n := 0
	for n < min(len(a), len(b)) && a[n] == b[n] {
		n++
	}
	return n, true
}

func SameBehind(a []string, b []string) (int, bool) {
	ahead, ok := SameAhead(a, b)
	if !ok {
		return 0, false
	}
	// A line that is the same ahead must not be told a second time from the other end.
	most := min(len(a), len(b)) - ahead
	n := 0
	for n < most && a[len(a)-1-n] == b[len(b)-1-n] {
		n++
	}
	return n, true
}

func PartOf(l []string, from int, to int) ([]string, bool) {
	if !GoodLines(l) || from < 0 || from > to || to > len(l) {
		return nil, false
	}
	return copyOf(l[from:to]), true
}

// An answer that were a slice of an argument would hand out the caller's own memory.
func copyOf(l []string) []string {
	own := make([]string, len(l))
	copy(own, l)
	return own
}

func PlainOf(line string) (string, bool) {
	if !isLine(line) {
		return "", false
	}
	return strings.TrimSuffix(line, "\n"), true
}
