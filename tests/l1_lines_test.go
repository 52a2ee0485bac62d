package tests

import (
	"slices"
	"strings"
	"testing"

	"loop.example/g00825/impl"
)

// wordsUpTo lists all lists of at most most members, each one of parts.
func wordsUpTo(parts []string, most int) [][]string {
	all := [][]string{{}}
	for from := 0; most > 0; most-- {
		end := len(all)
		for _, w := range all[from:end] {
			for _, p := range parts {
				all = append(all, append(slices.Clone(w), p))
			}
		}
		from = end
	}
	return all
}

// goodLists lists good lines of at most most lines, some of them with a last line that has no end.
func goodLists(most int) [][]string {
	var all [][]string
	for _, l := range wordsUpTo([]string{"x\n", "y\n", "\n"}, most) {
		all = append(all, l)
		if len(l) > 0 && l[len(l)-1] != "\n" {
			open := slices.Clone(l)
			open[len(l)-1] = strings.TrimSuffix(open[len(l)-1], "\n")
			all = append(all, open)
		}
	}
	return all
}

func manyLines(n int) []string {
	return slices.Repeat([]string{"l\n"}, n)
}

// full is a line of n bytes, the last of which is its end.
func full(n int) string {
	return strings.Repeat("f", n-1) + "\n"
}

func TestLinesOf(t *testing.T) {
	forty := manyLines(impl.MaxLines)
	open := slices.Concat(forty[1:], []string{"end"})
	wide := slices.Repeat([]string{full(impl.MaxLine)}, impl.MaxLines)
	cases := []struct {
		name string
		text string
		want []string
	}{
		{"empty", "", nil},
		{"end alone", "\n", []string{"\n"}},
		{"ends alone", "\n\n\n", []string{"\n", "\n", "\n"}},
		{"one line", "a\n", []string{"a\n"}},
		{"one line without end", "a", []string{"a"}},
		{"last with end", "a\nb c\nend\n", []string{"a\n", "b c\n", "end\n"}},
		{"last without end", "a\nb c\nend", []string{"a\n", "b c\n", "end"}},
		{"empty line ahead", "\na", []string{"\n", "a"}},
		{"other white space is no end", "a\rb\r\n\tc\x0b\x0c\u0085\u2028", []string{"a\rb\r\n", "\tc\x0b\x0c\u0085\u2028"}},
		{"bytes that are no runes", "\xff\n\xe2\n\xc3", []string{"\xff\n", "\xe2\n", "\xc3"}},
		{"byte 0", "\x00\n\x00", []string{"\x00\n", "\x00"}},
		{"longest line", full(impl.MaxLine), []string{full(impl.MaxLine)}},
		{"longest line without end", strings.Repeat("f", impl.MaxLine), []string{strings.Repeat("f", impl.MaxLine)}},
		{"longest line of long runes", strings.Repeat("\u00e9", impl.MaxLine/2), []string{strings.Repeat("\u00e9", impl.MaxLine/2)}},
		{"most lines", strings.Join(forty, ""), forty},
		{"most lines, last without end", strings.Join(open, ""), open},
		{"most and longest lines", strings.Join(wide, ""), wide},
	}
	for _, c := range cases {
		l, ok := impl.LinesOf(c.text)
		if !ok || !slices.Equal(l, c.want) {
			t.Errorf("%s: LinesOf(%q) = %q, %v", c.name, c.text, l, ok)
		}
		if !impl.GoodLines(l) {
			t.Errorf("%s: not good: %q", c.name, l)
		}
		if s, ok := impl.TextOf(l); s != c.text || !ok {
			t.Errorf("%s: TextOf(%q) = %q, %v", c.name, l, s, ok)
		}
	}
}

func TestLinesOfBeyondLimits(t *testing.T) {
	most := strings.Repeat("l\n", impl.MaxLines)
	cases := map[string]string{
		"line too long":             full(impl.MaxLine + 1),
		"line too long, no end":     strings.Repeat("f", impl.MaxLine+1),
		"last too long":             "a\n" + full(impl.MaxLine+1),
		"first too long":            full(impl.MaxLine+1) + "a\n",
		"too long in bytes alone":   strings.Repeat("\u00e9", impl.MaxLine/2) + "\n",
		"too many lines":            most + "l\n",
		"too many, last has no end": most + "l",
		"too many empty lines":      strings.Repeat("\n", impl.MaxLines+1),
		"much too long":             strings.Repeat("f", 100000),
		"much too many":             strings.Repeat("f\n", 100000),
	}
	for name, text := range cases {
		if l, ok := impl.LinesOf(text); len(l) != 0 || ok {
			t.Errorf("%s: %q, %v", name, l, ok)
		}
	}
}

func TestTextIsMadeOfItsLines(t *testing.T) {
	for _, w := range wordsUpTo([]string{"a", "\n", "\xe2"}, 8) {
		text := strings.Join(w, "")
		want := strings.SplitAfter(text, "\n")
		if want[len(want)-1] == "" {
			want = want[:len(want)-1]
		}
		l, ok := impl.LinesOf(text)
		if !ok || !slices.Equal(l, want) {
			t.Fatalf("LinesOf(%q) = %q, %v", text, l, ok)
		}
		if s, ok := impl.TextOf(l); s != text || !ok {
			t.Fatalf("TextOf(%q) = %q, %v", l, s, ok)
		}
	}
}

func TestLinesOfTextAreTheLines(t *testing.T) {
	for _, l := range goodLists(5) {
		s, ok := impl.TextOf(l)
		if s != strings.Join(l, "") || !ok {
			t.Fatalf("TextOf(%q) = %q, %v", l, s, ok)
		}
		if again, ok := impl.LinesOf(s); !ok || !slices.Equal(again, l) {
			t.Fatalf("LinesOf(%q) = %q, %v", s, again, ok)
		}
	}
}

func TestGoodLines(t *testing.T) {
	good := goodLists(4)
	good = append(good, nil, manyLines(impl.MaxLines), append(manyLines(impl.MaxLines-1), "l"))
	good = append(good, []string{full(impl.MaxLine), strings.Repeat("f", impl.MaxLine)})
	good = append(good, []string{"\xff\n", "\xe2\n", "\xe2"})
	for _, l := range good {
		if !impl.GoodLines(l) {
			t.Errorf("good, but not told: %q", l)
		}
	}
	for name, l := range badLists() {
		if impl.GoodLines(l) {
			t.Errorf("%s: not good, but told: %q", name, l)
		}
	}
}

func TestIsWhole(t *testing.T) {
	cases := []struct {
		l    []string
		want bool
	}{
		{nil, true},
		{[]string{}, true},
		{[]string{"\n"}, true},
		{[]string{"a\n"}, true},
		{[]string{"a"}, false},
		{[]string{"a\n", "b\n"}, true},
		{[]string{"a\n", "b"}, false},
		{manyLines(impl.MaxLines), true},
		{append(manyLines(impl.MaxLines-1), "l"), false},
	}
	for _, c := range cases {
		if is, ok := impl.IsWhole(c.l); is != c.want || !ok {
			t.Errorf("IsWhole(%q) = %v, %v", c.l, is, ok)
		}
	}
}

func TestSameAheadAndBehind(t *testing.T) {
	most := manyLines(impl.MaxLines)
	cases := []struct {
		name          string
		a, b          string
		ahead, behind int
	}{
		{"none and none", "", "", 0, 0},
		{"none and some", "", "x\ny\n", 0, 0},
		{"in nothing", "x\ny\n", "z\nw\n", 0, 0},
		{"in all", "x\ny\nz\n", "x\ny\nz\n", 3, 0},
		{"in all, last without end", "x\ny", "x\ny", 2, 0},
		{"at the beginning", "x\ny\nz\n", "x\ny\nw\n", 2, 0},
		{"at the end", "x\ny\nz\n", "w\ny\nz\n", 0, 2},
		{"at both", "x\ny\nz\n", "x\nw\nz\n", 1, 1},
		{"in the middle alone", "x\ny\nz\n", "v\ny\nw\n", 0, 0},
		{"the one begins the other", "x\ny\n", "x\ny\nz\n", 2, 0},
		{"the one ends the other", "y\nz\n", "x\ny\nz\n", 0, 2},
		{"no more than is left of the shorter", "x\ny\nx\n", "x\nx\n", 1, 1},
		{"nothing left of the shorter", "x\nx\nx\n", "x\nx\n", 2, 0},
		{"nothing left of one", "x\n", "x\ny\nx\n", 1, 0},
		{"an end alone is unlike", "x\ny\n", "x\ny", 1, 0},
		{"most lines", strings.Join(most, ""), strings.Join(most, ""), impl.MaxLines, 0},
		{"most lines, all but the first", strings.Join(most, ""), "k\n" + strings.Join(most[1:], ""), 0, impl.MaxLines - 1},
	}
	for _, c := range cases {
		a, b := strings.SplitAfter(c.a, "\n"), strings.SplitAfter(c.b, "\n")
		a, b = slices.DeleteFunc(a, isEmpty), slices.DeleteFunc(b, isEmpty)
		checkSame(t, c.name, a, b, c.ahead, c.behind)
		checkSame(t, c.name+", turned", b, a, c.ahead, c.behind)
	}
}

func isEmpty(s string) bool { return s == "" }

func checkSame(t *testing.T, name string, a, b []string, ahead, behind int) {
	t.Helper()
	if n, ok := impl.SameAhead(a, b); n != ahead || !ok {
		t.Errorf("%s: SameAhead(%q, %q) = %d, %v, not %d", name, a, b, n, ok, ahead)
	}
	if n, ok := impl.SameBehind(a, b); n != behind || !ok {
		t.Errorf("%s: SameBehind(%q, %q) = %d, %v, not %d", name, a, b, n, ok, behind)
	}
}

func TestSameOfAllSmallLists(t *testing.T) {
	lists := goodLists(4)
	for _, a := range lists {
		for _, b := range lists {
			most := min(len(a), len(b))
			ahead := most
			for !slices.Equal(a[:ahead], b[:ahead]) {
				ahead--
			}
			behind := most - ahead
			for !slices.Equal(a[len(a)-behind:], b[len(b)-behind:]) {
				behind--
			}
			checkSame(t, "small", a, b, ahead, behind)
		}
	}
}

func TestPartOf(t *testing.T) {
	lists := append(goodLists(3), manyLines(impl.MaxLines))
	for _, l := range lists {
		for from := -2; from <= len(l)+2; from++ {
			for to := -2; to <= len(l)+2; to++ {
				part, ok := impl.PartOf(l, from, to)
				if from < 0 || from > to || to > len(l) {
					if len(part) != 0 || ok {
						t.Fatalf("PartOf(%q, %d, %d) = %q, %v", l, from, to, part, ok)
					}
				} else if !ok || !slices.Equal(part, l[from:to]) {
					t.Fatalf("PartOf(%q, %d, %d) = %q, %v", l, from, to, part, ok)
				}
			}
		}
	}
}

func TestPlainOf(t *testing.T) {
	long := strings.Repeat("f", impl.MaxLine-1)
	cases := map[string]string{
		"\n":        "",
		"x\n":       "x",
		"x":         "x",
		" x \r\n":   " x \r",
		"\xe2\n":    "\xe2",
		long + "\n": long,
		long + "f":  long + "f",
	}
	for line, want := range cases {
		if s, ok := impl.PlainOf(line); s != want || !ok {
			t.Errorf("PlainOf(%q) = %q, %v", line, s, ok)
		}
	}
}
