package tests

import (
	"fmt"
	"slices"
	"strings"
	"testing"

	"loop.example/g00825/impl"
)

type parts = []impl.Part

func partOf(kind, from, to int, left, right []string) impl.Part {
	return impl.Part{Kind: kind, From: from, To: to, Left: left, Right: right}
}

// partBy is a part whose lines are told by letters.
func partBy(kind, from, to int, left, right string) impl.Part {
	return partOf(kind, from, to, linesBy(left), linesBy(right))
}

// sameBy is a part that is the same in all three.
func sameBy(from, to int, letters string) impl.Part {
	return partBy(impl.MgSame, from, to, letters, letters)
}

func alikeParts(a, b parts) bool {
	return slices.EqualFunc(a, b, func(j, k impl.Part) bool {
		return j.Kind == k.Kind && j.From == k.From && j.To == k.To && slices.Equal(j.Left, k.Left) && slices.Equal(j.Right, k.Right)
	})
}

// kindBy finds the kind by what the document asks of each.
func kindBy(own, left, right []string) int {
	o, l, r := fmt.Sprintf("%q", own), fmt.Sprintf("%q", left), fmt.Sprintf("%q", right)
	asked := map[int]bool{
		impl.MgSame:  l == o && r == o && len(own) > 0,
		impl.MgLeft:  r == o && l != o,
		impl.MgRight: l == o && r != o,
		impl.MgBoth:  l != o && r != o && l == r,
	}
	for kind, is := range asked {
		if is {
			return kind
		}
	}
	return impl.MgClash
}

// placesBy tells, for each place of n, with which one it is paired, or -1.
func placesBy(n int, p pairs) []int {
	places := slices.Repeat([]int{-1}, n)
	for _, k := range p {
		places[k[0]] = k[1]
	}
	return places
}

// partsBy goes through three texts at once, one part after the other.
func partsBy(base, left, right []string, toLeft, toRight pairs) parts {
	inLeft, inRight := placesBy(len(base), toLeft), placesBy(len(base), toRight)
	var p parts
	i, j, k := 0, 0, 0
	for i < len(base) || j < len(left) || k < len(right) {
		n := 0
		for i+n < len(base) && inLeft[i+n] == j+n && inRight[i+n] == k+n {
			n++
		}
		toI, toJ, toK := i+n, j+n, k+n
		if n == 0 {
			for toI < len(base) && (inLeft[toI] < 0 || inRight[toI] < 0) {
				toI++
			}
			toJ, toK = len(left), len(right)
			if toI < len(base) {
				toJ, toK = inLeft[toI], inRight[toI]
			}
		}
		own, ofLeft, ofRight := base[i:toI], left[j:toJ], right[k:toK]
		p = append(p, partOf(kindBy(own, ofLeft, ofRight), i, toI, slices.Clone(ofLeft), slices.Clone(ofRight)))
		i, j, k = toI, toJ, toK
	}
	return p
}

// mergedBy tells the lines of both sides together, and how many clashes there are.
func mergedBy(p parts) ([]string, int) {
	var l []string
	clashes := 0
	for _, k := range p {
		switch k.Kind {
		case impl.MgSame, impl.MgLeft, impl.MgBoth:
			l = append(l, k.Left...)
		case impl.MgRight:
			l = append(l, k.Right...)
		case impl.MgClash:
			clashes++
		}
	}
	return l, clashes
}

// markedBy tells the text of both sides together, with what both have of each clash.
func markedBy(p parts) string {
	text := ""
	ended := func(l []string) string {
		s := strings.Join(l, "")
		if s != "" && !strings.HasSuffix(s, "\n") {
			s += "\n"
		}
		return s
	}
	for _, k := range p {
		if k.Kind == impl.MgClash {
			text += "<<<\n" + ended(k.Left) + "===\n" + ended(k.Right) + ">>>\n"
			continue
		}
		l, _ := mergedBy(parts{k})
		text += strings.Join(l, "")
	}
	return text
}

// swappedBy changes left and right for one another.
func swappedBy(p parts) parts {
	kinds := map[int]int{impl.MgSame: impl.MgSame, impl.MgLeft: impl.MgRight, impl.MgRight: impl.MgLeft, impl.MgBoth: impl.MgBoth, impl.MgClash: impl.MgClash}
	var all parts
	for _, k := range p {
		all = append(all, partOf(kinds[k.Kind], k.From, k.To, k.Right, k.Left))
	}
	return all
}

func checkParts(t *testing.T, name string, p parts, ok bool, want parts) {
	t.Helper()
	if !ok || !alikeParts(p, want) {
		t.Errorf("%s: %#v, %v, not %#v", name, p, ok, want)
	}
}

func checkTaken(t *testing.T, name string, base []string, p parts, side int, want []string) {
	t.Helper()
	if l, ok := impl.TakeSide(base, p, side); !ok || !slices.Equal(l, want) {
		t.Errorf("%s: TakeSide(%q, %#v, %d) = %q, %v, not %q", name, base, p, side, l, ok, want)
	}
}

func checkMerged(t *testing.T, name string, base, left, right, want []string) {
	t.Helper()
	if l, ok := impl.Merge(base, left, right); !ok || !slices.Equal(l, want) {
		t.Errorf("%s: Merge(%q, %q, %q) = %q, %v, not %q", name, base, left, right, l, ok, want)
	}
}

func checkNotMerged(t *testing.T, name string, base, left, right []string) {
	t.Helper()
	if l, ok := impl.Merge(base, left, right); len(l) != 0 || ok {
		t.Errorf("%s: Merge(%q, %q, %q) = %q, %v", name, base, left, right, l, ok)
	}
}

func checkMarked(t *testing.T, name string, base, left, right []string, want string) {
	t.Helper()
	if s, ok := impl.MarkedText(base, left, right); s != want || !ok {
		t.Errorf("%s: MarkedText(%q, %q, %q) = %q, %v, not %q", name, base, left, right, s, ok, want)
	}
}

func checkClashes(t *testing.T, name string, p parts, want int) {
	t.Helper()
	if n, ok := impl.ClashesIn(p); n != want || !ok {
		t.Errorf("%s: ClashesIn(%v) = %d, %v, not %d", name, p, n, ok, want)
	}
}

func checkSwapped(t *testing.T, name string, p parts) {
	t.Helper()
	s, ok := impl.SwapSides(p)
	checkParts(t, name+", changed", s, ok, swappedBy(p))
	s, ok = impl.SwapSides(s)
	checkParts(t, name+", changed twice", s, ok, p)
}

// checkThree expects all functions of the layer to answer by the parts that are wanted.
func checkThree(t *testing.T, name string, base, left, right []string, want parts) {
	t.Helper()
	p, ok := impl.PartsOf(base, left, right)
	checkParts(t, fmt.Sprintf("%s: PartsOf(%q, %q, %q)", name, base, left, right), p, ok, want)
	if !impl.GoodParts(base, p) {
		t.Errorf("%s: not good for %q: %#v", name, base, p)
	}
	checkTaken(t, name, base, p, 0, base)
	checkTaken(t, name, base, p, 1, left)
	checkTaken(t, name, base, p, 2, right)
	other, ok := impl.PartsOf(base, right, left)
	checkParts(t, name+", sides changed", other, ok, swappedBy(want))
	checkSwapped(t, name, p)
	merged, clashes := mergedBy(want)
	checkClashes(t, name, p, clashes)
	if clashes > 0 || len(merged) > impl.MaxLines {
		checkNotMerged(t, name, base, left, right)
	} else {
		checkMerged(t, name, base, left, right, merged)
	}
	checkMarked(t, name, base, left, right, markedBy(want))
}

// checkUnchangedSide expects the other side to come where one is as base, and both where they are alike.
func checkUnchangedSide(t *testing.T, name string, base, l []string) {
	t.Helper()
	text := strings.Join(l, "")
	for _, sides := range [][2][]string{{base, l}, {l, base}, {l, l}} {
		checkMerged(t, name, base, sides[0], sides[1], l)
		checkMarked(t, name, base, sides[0], sides[1], text)
	}
}

type threeCase struct {
	name, base, left, right string
	want                    parts
}

func checkThreeCases(t *testing.T, cases []threeCase) {
	t.Helper()
	for _, c := range cases {
		base, left, right := linesBy(c.base), linesBy(c.left), linesBy(c.right)
		checkThree(t, c.name, base, left, right, c.want)
		byModel := partsBy(base, left, right, bestOfAll(base, left), bestOfAll(base, right))
		if !alikeParts(byModel, c.want) {
			t.Errorf("%s: by the model %#v, not %#v", c.name, byModel, c.want)
		}
		checkUnchangedSide(t, c.name, base, left)
		checkUnchangedSide(t, c.name, base, right)
	}
}

func TestPartsOfLikeAndUnlikeTexts(t *testing.T) {
	checkThreeCases(t, []threeCase{
		{"no lines in all three", "", "", "", nil},
		{"all three alike", "abc", "abc", "abc", parts{sameBy(0, 3, "abc")}},
		{"one line, all alike", "a", "a", "a", parts{sameBy(0, 1, "a")}},
		{"left is a third", "abc", "axc", "abc", parts{sameBy(0, 1, "a"), partBy(impl.MgLeft, 1, 2, "x", "b"), sameBy(2, 3, "c")}},
		{"right is a third", "abc", "abc", "axc", parts{sameBy(0, 1, "a"), partBy(impl.MgRight, 1, 2, "b", "x"), sameBy(2, 3, "c")}},
		{"base is a third", "abc", "axc", "axc", parts{sameBy(0, 1, "a"), partBy(impl.MgBoth, 1, 2, "x", "x"), sameBy(2, 3, "c")}},
		{"all of left alone is another", "ab", "xyz", "ab", parts{partBy(impl.MgLeft, 0, 2, "xyz", "ab")}},
		{"all of right alone is another", "ab", "ab", "x", parts{partBy(impl.MgRight, 0, 2, "ab", "x")}},
		{"all of both is another", "ab", "xy", "xy", parts{partBy(impl.MgBoth, 0, 2, "xy", "xy")}},
		{"they share nothing", "ab", "xyz", "v", parts{partBy(impl.MgClash, 0, 2, "xyz", "v")}},
		{"both sides share what base has not", "ab", "xyz", "xyw", parts{partBy(impl.MgClash, 0, 2, "xyz", "xyw")}},
		{"no lines of base", "", "a", "bc", parts{partBy(impl.MgClash, 0, 0, "a", "bc")}},
		{"no lines of base, both alike", "", "ab", "ab", parts{partBy(impl.MgBoth, 0, 0, "ab", "ab")}},
		{"no lines of left", "ab", "", "ab", parts{partBy(impl.MgLeft, 0, 2, "", "ab")}},
		{"no lines of left, right is another", "ab", "", "axb", parts{partBy(impl.MgClash, 0, 2, "", "axb")}},
		{"no lines of right", "ab", "ab", "", parts{partBy(impl.MgRight, 0, 2, "ab", "")}},
		{"no lines of right, left is another", "ab", "b", "", parts{partBy(impl.MgClash, 0, 2, "b", "")}},
		{"no lines of base and left", "", "", "ab", parts{partBy(impl.MgRight, 0, 0, "", "ab")}},
		{"no lines of base and right", "", "ab", "", parts{partBy(impl.MgLeft, 0, 0, "ab", "")}},
		{"no lines of left and right", "ab", "", "", parts{partBy(impl.MgBoth, 0, 2, "", "")}},
	})
}

func TestLinesThatStand(t *testing.T) {
	checkThreeCases(t, []threeCase{
		{"equal lines, left has fewer", "aaa", "aa", "aaa", parts{sameBy(0, 2, "aa"), partBy(impl.MgLeft, 2, 3, "", "a")}},
		{"equal lines, right has more", "aa", "aa", "aaaa", parts{sameBy(0, 2, "aa"), partBy(impl.MgRight, 2, 2, "", "aa")}},
		{"equal lines, both have as many more", "a", "aaa", "aaa", parts{sameBy(0, 1, "a"), partBy(impl.MgBoth, 1, 1, "aa", "aa")}},
		{"equal lines, both have more", "a", "aaa", "aa", parts{sameBy(0, 1, "a"), partBy(impl.MgClash, 1, 1, "aa", "a")}},
		{"equal lines, both have fewer", "aaa", "aa", "a", parts{sameBy(0, 1, "a"), partBy(impl.MgClash, 1, 3, "a", "")}},
		{"equal lines, left has more and right fewer", "aa", "aaa", "a", parts{sameBy(0, 1, "a"), partBy(impl.MgClash, 1, 2, "aa", "")}},
		{"a line comes twice, each side pairs another one", "aba", "a", "ba", parts{partBy(impl.MgClash, 0, 3, "a", "ba")}},
		{"a line comes twice, both sides pair the first", "aba", "a", "ab", parts{sameBy(0, 1, "a"), partBy(impl.MgClash, 1, 3, "", "b")}},
		{"a line comes twice, each side pairs one more", "abab", "ab", "bab", parts{partBy(impl.MgRight, 0, 1, "a", ""), sameBy(1, 2, "b"), partBy(impl.MgLeft, 2, 4, "", "ab")}},
		{"each side leaves another line", "ab", "a", "b", parts{partBy(impl.MgClash, 0, 2, "a", "b")}},
		{"only left pairs the first", "abc", "abc", "bc", parts{partBy(impl.MgRight, 0, 1, "a", ""), sameBy(1, 3, "bc")}},
		{"only right pairs the last", "abc", "ab", "abc", parts{sameBy(0, 2, "ab"), partBy(impl.MgLeft, 2, 3, "", "c")}},
		{"only one side pairs each", "abcd", "ac", "bd", parts{partBy(impl.MgClash, 0, 4, "ac", "bd")}},
		{"lines change places on the left", "abc", "bca", "abc", parts{partBy(impl.MgLeft, 0, 1, "", "a"), sameBy(1, 3, "bc"), partBy(impl.MgLeft, 3, 3, "a", "")}},
		{"lines change places on both sides, in other ways", "abc", "bca", "cab", parts{partBy(impl.MgClash, 0, 1, "", "ca"), sameBy(1, 2, "b"), partBy(impl.MgClash, 2, 3, "ca", "")}},
	})
}

func TestLinesThatStandButDoNotFollow(t *testing.T) {
	checkThreeCases(t, []threeCase{
		{"left has one between", "ab", "axb", "ab", parts{sameBy(0, 1, "a"), partBy(impl.MgLeft, 1, 1, "x", ""), sameBy(1, 2, "b")}},
		{"right has one between", "ab", "ab", "axb", parts{sameBy(0, 1, "a"), partBy(impl.MgRight, 1, 1, "", "x"), sameBy(1, 2, "b")}},
		{"both have the same between", "ab", "axyb", "axyb", parts{sameBy(0, 1, "a"), partBy(impl.MgBoth, 1, 1, "xy", "xy"), sameBy(1, 2, "b")}},
		{"both have others between", "ab", "axb", "axyb", parts{sameBy(0, 1, "a"), partBy(impl.MgClash, 1, 1, "x", "xy"), sameBy(1, 2, "b")}},
		{"each has one at another place", "abc", "axbc", "abyc", parts{sameBy(0, 1, "a"), partBy(impl.MgLeft, 1, 1, "x", ""), sameBy(1, 2, "b"), partBy(impl.MgRight, 2, 2, "", "y"), sameBy(2, 3, "c")}},
		{"at each place", "ab", "xayb", "aybz", parts{
			partBy(impl.MgLeft, 0, 0, "x", ""), sameBy(0, 1, "a"), partBy(impl.MgBoth, 1, 1, "y", "y"), sameBy(1, 2, "b"), partBy(impl.MgRight, 2, 2, "", "z"),
		}},
		{"equal lines with one between", "aa", "axa", "aa", parts{sameBy(0, 1, "a"), partBy(impl.MgLeft, 1, 1, "x", ""), sameBy(1, 2, "a")}},
	})
}

func TestPlacesOfChanges(t *testing.T) {
	checkThreeCases(t, []threeCase{
		{"left, the first line", "abc", "xbc", "abc", parts{partBy(impl.MgLeft, 0, 1, "x", "a"), sameBy(1, 3, "bc")}},
		{"left, ahead of the first line", "abc", "xabc", "abc", parts{partBy(impl.MgLeft, 0, 0, "x", ""), sameBy(0, 3, "abc")}},
		{"left, the last line", "abc", "abx", "abc", parts{sameBy(0, 2, "ab"), partBy(impl.MgLeft, 2, 3, "x", "c")}},
		{"left, behind the last line", "abc", "abcx", "abc", parts{sameBy(0, 3, "abc"), partBy(impl.MgLeft, 3, 3, "x", "")}},
		{"right, the first line goes", "abc", "abc", "bc", parts{partBy(impl.MgRight, 0, 1, "a", ""), sameBy(1, 3, "bc")}},
		{"right, the middle goes", "abc", "abc", "ac", parts{sameBy(0, 1, "a"), partBy(impl.MgRight, 1, 2, "b", ""), sameBy(2, 3, "c")}},
		{"right, the last line goes", "abc", "abc", "ab", parts{sameBy(0, 2, "ab"), partBy(impl.MgRight, 2, 3, "c", "")}},
		{"right, behind the last line", "abc", "abc", "abcxy", parts{sameBy(0, 3, "abc"), partBy(impl.MgRight, 3, 3, "", "xy")}},
		{"both alike, the first line", "abc", "xbc", "xbc", parts{partBy(impl.MgBoth, 0, 1, "x", "x"), sameBy(1, 3, "bc")}},
		{"both alike, the middle goes", "abc", "ac", "ac", parts{sameBy(0, 1, "a"), partBy(impl.MgBoth, 1, 2, "", ""), sameBy(2, 3, "c")}},
		{"both alike, behind the last line", "abc", "abcx", "abcx", parts{sameBy(0, 3, "abc"), partBy(impl.MgBoth, 3, 3, "x", "x")}},
		{"both otherwise, the first line", "abc", "xbc", "ybc", parts{partBy(impl.MgClash, 0, 1, "x", "y"), sameBy(1, 3, "bc")}},
		{"both otherwise, the middle", "abc", "ac", "ayc", parts{sameBy(0, 1, "a"), partBy(impl.MgClash, 1, 2, "", "y"), sameBy(2, 3, "c")}},
		{"both otherwise, the last line", "abc", "abx", "ab", parts{sameBy(0, 2, "ab"), partBy(impl.MgClash, 2, 3, "x", "")}},
		{"both otherwise, behind the last line", "abc", "abcx", "abcy", parts{sameBy(0, 3, "abc"), partBy(impl.MgClash, 3, 3, "x", "y")}},
		{"left at the first line, right at the last", "abc", "xbc", "aby", parts{partBy(impl.MgLeft, 0, 1, "x", "a"), sameBy(1, 2, "b"), partBy(impl.MgRight, 2, 3, "c", "y")}},
		{"side by side", "abcd", "axcd", "abyd", parts{sameBy(0, 1, "a"), partBy(impl.MgClash, 1, 3, "xc", "by"), sameBy(3, 4, "d")}},
		{"side by side, right ahead of left", "abcd", "abxd", "aycd", parts{sameBy(0, 1, "a"), partBy(impl.MgClash, 1, 3, "bx", "yc"), sameBy(3, 4, "d")}},
		{"side by side, one goes and one comes", "abc", "ac", "abyc", parts{sameBy(0, 1, "a"), partBy(impl.MgClash, 1, 2, "", "by"), sameBy(2, 3, "c")}},
		{"side by side, the last goes and one comes behind it", "ab", "a", "abx", parts{sameBy(0, 1, "a"), partBy(impl.MgClash, 1, 2, "", "bx")}},
		{"side by side, both go", "abcd", "acd", "abd", parts{sameBy(0, 1, "a"), partBy(impl.MgClash, 1, 3, "c", "b"), sameBy(3, 4, "d")}},
		{"two changes, of which one is a clash", "abcde", "xbcde", "ybcdz", parts{partBy(impl.MgClash, 0, 1, "x", "y"), sameBy(1, 4, "bcd"), partBy(impl.MgRight, 4, 5, "e", "z")}},
		{"all kinds", "abcdefgh", "xbcdyfzh", "abvdyfwh", parts{
			partBy(impl.MgLeft, 0, 1, "x", "a"), sameBy(1, 2, "b"), partBy(impl.MgRight, 2, 3, "c", "v"), sameBy(3, 4, "d"),
			partBy(impl.MgBoth, 4, 5, "y", "y"), sameBy(5, 6, "f"), partBy(impl.MgClash, 6, 7, "z", "w"), sameBy(7, 8, "h"),
		}},
	})
}

func TestPartsWithoutAnEnd(t *testing.T) {
	checkThreeCases(t, []threeCase{
		{"all three have none", "a.b", "a.b", "a.b", parts{sameBy(0, 2, "a.b")}},
		{"of left alone it goes", "ab", "a.b", "ab", parts{sameBy(0, 1, "a"), partBy(impl.MgLeft, 1, 2, ".b", "b")}},
		{"of right alone it comes", "a.b", "a.b", "ab", parts{sameBy(0, 1, "a"), partBy(impl.MgRight, 1, 2, ".b", "b")}},
		{"of both it goes", "ab", "a.b", "a.b", parts{sameBy(0, 1, "a"), partBy(impl.MgBoth, 1, 2, ".b", ".b")}},
		{"of both it comes", "a.b", "ab", "ab", parts{sameBy(0, 1, "a"), partBy(impl.MgBoth, 1, 2, "b", "b")}},
		{"left has one more behind", "a.b", "abc", "a.b", parts{sameBy(0, 1, "a"), partBy(impl.MgLeft, 1, 2, "bc", ".b")}},
		{"it goes, and the other has one more behind", "ab", "a.b", "abc", parts{sameBy(0, 1, "a"), partBy(impl.MgClash, 1, 2, ".b", "bc")}},
		{"both are others", "a.b", "a.x", "ay", parts{sameBy(0, 1, "a"), partBy(impl.MgClash, 1, 2, ".x", "y")}},
		{"a change ahead of it", "ab.c", "xb.c", "ab.c", parts{partBy(impl.MgLeft, 0, 1, "x", "a"), sameBy(1, 3, "b.c")}},
		{"all there is", ".a", ".b", ".c", parts{partBy(impl.MgClash, 0, 1, ".b", ".c")}},
		{"no lines of base", "", ".a", "a", parts{partBy(impl.MgClash, 0, 0, ".a", "a")}},
	})
}

func TestPartsOfAllSmallTexts(t *testing.T) {
	for _, lists := range [][][]string{goodLists(2), wordsUpTo([]string{"x\n", "y\n"}, 4), wordsUpTo([]string{"x\n", "y\n", "z\n"}, 3)} {
		for _, base := range lists {
			var best []pairs
			for _, l := range lists {
				best = append(best, bestOfAll(base, l))
				checkUnchangedSide(t, "small", base, l)
			}
			for i, left := range lists {
				for j, right := range lists {
					checkThree(t, "small", base, left, right, partsBy(base, left, right, best[i], best[j]))
				}
			}
		}
	}
}

// changedAt is a copy of lines of which some, by a step and from a place on, go or have others ahead.
func changedAt(l []string, from, step int, mark string) []string {
	var made []string
	for i, line := range l {
		switch (i + from) % step {
		case 0:
			continue
		case 1:
			made = append(made, fmt.Sprintf("%s%d\n", mark, i))
		}
		made = append(made, line)
	}
	return made[:min(len(made), impl.MaxLines)]
}

func TestPartsOfLongTexts(t *testing.T) {
	for seed := range 10 {
		for _, kinds := range []int{1, 2, 3, 8, 50} {
			base := mixed(impl.MaxLines-seed%7, kinds, seed)
			sides := [][]string{
				base, mixed(impl.MaxLines-seed%5, kinds, seed+1000), changedAt(base, seed, 5+seed%9, "l"), changedAt(base, seed+2, 4+seed%7, "r"), changedAt(base, 1, 13, "l"),
			}
			var best []pairs
			for _, l := range sides {
				best = append(best, bestOfLong(base, l))
				checkUnchangedSide(t, "long", base, l)
			}
			for i, left := range sides {
				for j, right := range sides {
					checkThree(t, "long", base, left, right, partsBy(base, left, right, best[i], best[j]))
				}
			}
		}
	}
}

// mostOfParts are texts with as many parts as there can be: 30 lines stand, and of each text one line stands between two of them, in turn.
func mostOfParts() ([]string, []string, []string, parts) {
	var base, left, right []string
	var p parts
	for i := range 30 {
		own := impl.Part{From: len(base), To: len(base)}
		line := fmt.Sprintf("own%d\n", i)
		switch i % 3 {
		case 0:
			base = append(base, line)
			own.Kind = impl.MgBoth
		case 1:
			left = append(left, line)
			own.Kind, own.Left = impl.MgLeft, []string{line}
		case 2:
			right = append(right, line)
			own.Kind, own.Right = impl.MgRight, []string{line}
		}
		own.To = len(base)
		line = fmt.Sprintf("all%d\n", i)
		same := partOf(impl.MgSame, len(base), len(base)+1, []string{line}, []string{line})
		base, left, right = append(base, line), append(left, line), append(right, line)
		p = append(p, own, same)
	}
	return base, left, right, p
}

func TestPartsOfMostLines(t *testing.T) {
	const most = impl.MaxLines
	base, left, right, p := mostOfParts()
	if len(base) != most || len(left) != most || len(right) != most || len(p) != 60 {
		t.Fatalf("%d, %d and %d lines, %d parts", len(base), len(left), len(right), len(p))
	}
	checkThree(t, "most parts", base, left, right, p)
	a, b, c := numbered("a", most), numbered("b", most), numbered("c", most)
	x := []string{"x\n"}
	cases := []struct {
		name              string
		base, left, right []string
		want              parts
	}{
		{"alike", a, slices.Clone(a), slices.Clone(a), parts{partOf(impl.MgSame, 0, most, a, a)}},
		{"equal lines", manyLines(most), manyLines(most), manyLines(most), parts{partOf(impl.MgSame, 0, most, manyLines(most), manyLines(most))}},
		{"nothing shared", a, b, c, parts{partOf(impl.MgClash, 0, most, b, c)}},
		{"nothing shared, both alike", a, b, slices.Clone(b), parts{partOf(impl.MgBoth, 0, most, b, b)}},
		{"no lines of base", nil, b, c, parts{partOf(impl.MgClash, 0, 0, b, c)}},
		{"no lines of both sides", a, nil, nil, parts{partOf(impl.MgBoth, 0, most, nil, nil)}},
		{"the first and the last", a, slices.Concat(x, a[1:]), slices.Concat(a[:most-1], x), parts{
			partOf(impl.MgLeft, 0, 1, x, a[:1]), partOf(impl.MgSame, 1, most-1, a[1:most-1], a[1:most-1]), partOf(impl.MgRight, most-1, most, a[most-1:], x),
		}},
	}
	for _, k := range cases {
		checkThree(t, k.name, k.base, k.left, k.right, k.want)
	}
}

func TestMerge(t *testing.T) {
	cases := []struct {
		name, base, left, right, want string
	}{
		{"no lines", "", "", "", ""},
		{"one side takes a line, the other one changes another", "abcde", "acde", "abcdz", "acdz"},
		{"both bring lines", "abc", "xabc", "abcy", "xabcy"},
		{"both take lines", "abcd", "bcd", "abc", "bc"},
		{"both do the same, and more", "abcd", "xbcd", "xbc", "xbc"},
		{"lines without an end", "ab.c", "xb.c", "abc", "xbc"},
		{"the end goes on one side", "abc", "xbc", "ab.c", "xb.c"},
		{"all that is left goes", "abc", "", "abc", ""},
		{"the first goes here, the last there", "aba", "ba", "ab", "b"},
	}
	for _, c := range cases {
		checkMerged(t, c.name, linesBy(c.base), linesBy(c.left), linesBy(c.right), linesBy(c.want))
		checkMerged(t, c.name+", sides changed", linesBy(c.base), linesBy(c.right), linesBy(c.left), linesBy(c.want))
		checkUnchangedSide(t, c.name, linesBy(c.base), linesBy(c.want))
	}
	clashes := []struct {
		name, base, left, right string
	}{
		{"one line", "a", "x", "y"},
		{"one of three", "abc", "axc", "ayc"},
		{"no lines of base", "", "x", "y"},
		{"goes and is another", "ab", "b", "xb"},
		{"the end goes and a line comes behind", "ab", "a.b", "abc"},
		{"one clash beside changes", "abcde", "xbcdy", "abcdz"},
	}
	for _, c := range clashes {
		checkNotMerged(t, c.name, linesBy(c.base), linesBy(c.left), linesBy(c.right))
		checkNotMerged(t, c.name+", sides changed", linesBy(c.base), linesBy(c.right), linesBy(c.left))
	}
}

func TestMergeOfTooManyLines(t *testing.T) {
	const half = impl.MaxLines / 2
	base := numbered("a", half)
	left := slices.Concat(numbered("l", half), base)
	for _, more := range []int{half, 1} {
		right := slices.Concat(base, numbered("r", more))
		all := slices.Concat(numbered("l", half), base, numbered("r", more))
		checkNotMerged(t, "too many", base, left, right)
		checkMarked(t, "too many", base, left, right, strings.Join(all, ""))
		checkMerged(t, "just as many as there may be", base, left[more:], right, all[more:])
		checkMarked(t, "just as many as there may be", base, left[more:], right, strings.Join(all[more:], ""))
	}
}

func TestMarkedText(t *testing.T) {
	cases := []struct {
		name, base, left, right, want string
	}{
		{"no lines", "", "", "", ""},
		{"no clash", "abcde", "acde", "abcdz", "a\nc\nd\nz\n"},
		{"no clash, both alike", "ab", "xb", "xb", "x\nb\n"},
		{"a clash alone", "a", "x", "yz", "<<<\nx\n===\ny\nz\n>>>\n"},
		{"first", "abc", "xbc", "ybc", "<<<\nx\n===\ny\n>>>\nb\nc\n"},
		{"in the middle", "abc", "axc", "ayc", "a\n<<<\nx\n===\ny\n>>>\nc\n"},
		{"last", "abc", "abx", "aby", "a\nb\n<<<\nx\n===\ny\n>>>\n"},
		{"behind the last", "ab", "abx", "aby", "a\nb\n<<<\nx\n===\ny\n>>>\n"},
		{"no lines of left", "abc", "ac", "ayc", "a\n<<<\n===\ny\n>>>\nc\n"},
		{"no lines of right", "abc", "axc", "ac", "a\n<<<\nx\n===\n>>>\nc\n"},
		{"no lines of base", "", "x", "y", "<<<\nx\n===\ny\n>>>\n"},
		{"two clashes", "abc", "xbz", "ybw", "<<<\nx\n===\ny\n>>>\nb\n<<<\nz\n===\nw\n>>>\n"},
		{"beside changes of one side", "abcde", "xbvde", "abwdz", "x\nb\n<<<\nv\n===\nw\n>>>\nd\nz\n"},
		{"no end of left within", "ab", "a.x", "ay", "a\n<<<\nx\n===\ny\n>>>\n"},
		{"no end of right within", "ab", "ax", "a.y", "a\n<<<\nx\n===\ny\n>>>\n"},
		{"no end of both within", "ab", "ax.z", "a.y", "a\n<<<\nx\nz\n===\ny\n>>>\n"},
		{"an end alone", "a", ".x", "x", "<<<\nx\n===\nx\n>>>\n"},
		{"no end of left within, no lines of right", "ab", "a.x", "a", "a\n<<<\nx\n===\n>>>\n"},
		{"no end outside, unchanged", "ab.c", "xb.c", "yb.c", "<<<\nx\n===\ny\n>>>\nb\nc"},
		{"no end outside, of left", "abc", "xb.c", "ybc", "<<<\nx\n===\ny\n>>>\nb\nc"},
		{"no end outside, of right", "abc", "xbc", "yb.z", "<<<\nx\n===\ny\n>>>\nb\nz"},
		{"no end outside, of both", "abc", "xb.z", "yb.z", "<<<\nx\n===\ny\n>>>\nb\nz"},
		{"no end, no clash", "ab", "a.b", "ab", "a\nb"},
	}
	for _, c := range cases {
		checkMarked(t, c.name, linesBy(c.base), linesBy(c.left), linesBy(c.right), c.want)
	}
	marks := []string{"<<<\n", "===\n", ">>>\n"}
	checkMarked(t, "lines that are marks", nil, marks, nil, "<<<\n===\n>>>\n")
	checkMarked(t, "lines that are marks, within", nil, marks, []string{">>>"}, "<<<\n<<<\n===\n>>>\n===\n>>>\n>>>\n")
	most := slices.Repeat([]string{full(impl.MaxLine)}, impl.MaxLines-1)
	left, right := append(slices.Clone(most), strings.Repeat("l", impl.MaxLine)), append(slices.Clone(most), strings.Repeat("r", impl.MaxLine))
	text := strings.Join(most, "")
	checkMarked(t, "most bytes", numbered("a", impl.MaxLines), left, right, "<<<\n"+text+left[impl.MaxLines-1]+"\n===\n"+text+right[impl.MaxLines-1]+"\n>>>\n")
}

func checkGoodParts(t *testing.T, name string, base []string, p parts, want bool) {
	t.Helper()
	if is := impl.GoodParts(base, p); is != want {
		t.Errorf("%s: GoodParts(%.80q, %#v) = %v", name, base, p, is)
	}
}

func TestGoodParts(t *testing.T) {
	most := numbered("m", impl.MaxLines)
	good := map[string]struct {
		base []string
		p    parts
	}{
		"none of no lines":               {nil, nil},
		"all the same":                   {fourLines(), parts{sameBy(0, 4, "abcd")}},
		"all kinds":                      {fourLines(), allKinds()},
		"the same but one between":       {fourLines(), parts{sameBy(0, 2, "ab"), partBy(impl.MgBoth, 2, 2, "x", "x"), sameBy(2, 4, "cd")}},
		"one kind side by side":          {fourLines(), parts{partBy(impl.MgLeft, 0, 2, "", "ab"), partBy(impl.MgLeft, 2, 4, "c", "cd")}},
		"one kind twice at one place":    {nil, parts{partBy(impl.MgRight, 0, 0, "", "x"), partBy(impl.MgRight, 0, 0, "", "x")}},
		"what PartsOf would not cut so":  {fourLines(), parts{partBy(impl.MgLeft, 0, 4, "abcdx", "abcd")}},
		"nothing in all three is a rest": {nil, parts{partBy(impl.MgClash, 0, 0, "", "")}},
		"lines without an end":           {fourLines(), parts{partBy(impl.MgClash, 0, 2, ".x", "y.z"), partBy(impl.MgLeft, 2, 4, ".v.w", "cd")}},
		"most lines":                     {most, parts{partOf(impl.MgSame, 0, impl.MaxLines, most, most)}},
		"most lines of left":             {nil, parts{partOf(impl.MgLeft, 0, 0, most, nil), partOf(impl.MgLeft, 0, 0, most, nil)}},
		"most lines of right":            {nil, parts{partOf(impl.MgRight, 0, 0, nil, most), partOf(impl.MgRight, 0, 0, nil, most)}},
		"longest lines":                  {nil, parts{partOf(impl.MgClash, 0, 0, []string{full(impl.MaxLine)}, []string{strings.Repeat("f", impl.MaxLine)})}},
		"any bytes":                      {[]string{"\xff\n"}, parts{partOf(impl.MgClash, 0, 1, []string{"\xe2\n"}, []string{"\x00"})}},
		"most parts":                     {fourLines(), append(slices.Repeat(parts{partBy(impl.MgLeft, 0, 0, "x", "")}, 3*impl.MaxLines-1), sameBy(0, 4, "abcd"))},
	}
	for name, c := range good {
		checkGoodParts(t, name, c.base, c.p, true)
		checkSwappedGood(t, name, c.base, c.p)
	}
	for name, p := range badParts() {
		checkGoodParts(t, name, fourLines(), p, false)
	}
	checkGoodParts(t, "other lines", linesBy("abxd"), parts{sameBy(0, 4, "abcd")}, false)
	checkGoodParts(t, "other lines, of which there are more", linesBy("abcde"), parts{sameBy(0, 4, "abcd")}, false)
	checkGoodParts(t, "other lines, of which there are fewer", linesBy("abc"), parts{sameBy(0, 4, "abcd")}, false)
	checkGoodParts(t, "the last without an end", linesBy("abc.d"), parts{sameBy(0, 4, "abcd")}, false)
}

// checkSwappedGood expects good parts to be good with left and right changed for one another, too.
func checkSwappedGood(t *testing.T, name string, base []string, p parts) {
	t.Helper()
	s, ok := impl.SwapSides(p)
	checkParts(t, name, s, ok, swappedBy(p))
	checkGoodParts(t, name+", sides changed", base, s, true)
}

// Each part is good as one kind alone.
func TestGoodPartsOfEachKind(t *testing.T) {
	cases := []struct {
		to          int
		left, right string
		kind        int
	}{
		{2, "ab", "ab", impl.MgSame},
		{2, "x", "ab", impl.MgLeft},
		{2, "", "ab", impl.MgLeft},
		{2, "a.b", "ab", impl.MgLeft},
		{2, "ab", "ba", impl.MgRight},
		{2, "ab", "", impl.MgRight},
		{2, "ab", "abb", impl.MgRight},
		{2, "x", "x", impl.MgBoth},
		{2, "", "", impl.MgBoth},
		{2, "a.b", "a.b", impl.MgBoth},
		{2, "x", "y", impl.MgClash},
		{2, "", "y", impl.MgClash},
		{2, "a", "", impl.MgClash},
		{2, "xa", "x.a", impl.MgClash},
		{0, "x", "", impl.MgLeft},
		{0, "", "x", impl.MgRight},
		{0, "x", "x", impl.MgBoth},
		{0, "x", "xy", impl.MgClash},
		{0, "", "", impl.MgClash},
	}
	for _, c := range cases {
		base := linesBy("ab")[:c.to]
		if kind := kindBy(base, linesBy(c.left), linesBy(c.right)); kind != c.kind {
			t.Errorf("the model has kind %d of %q and %q, not %d", kind, c.left, c.right, c.kind)
		}
		for kind := impl.MgSame - 1; kind <= impl.MgClash+1; kind++ {
			p := parts{partBy(kind, 0, c.to, c.left, c.right)}
			checkGoodParts(t, fmt.Sprint("kind ", kind), base, p, kind == c.kind)
		}
	}
}

// areGoodParts takes parts off the front of base.
func areGoodParts(base []string, p parts) bool {
	from, ahead := 0, 0
	for _, k := range p {
		if k.From != from || k.To < from || k.To > len(base) || k.Kind != kindBy(base[from:k.To], k.Left, k.Right) {
			return false
		}
		if k.Kind == impl.MgSame && ahead == impl.MgSame || slices.Contains(k.Left, "") || slices.Contains(k.Right, "") {
			return false
		}
		from, ahead = k.To, k.Kind
	}
	return from == len(base)
}

// partsIn are all parts with these kinds, places and lines.
func partsIn(kinds, places []int, lists [][]string) parts {
	var all parts
	for _, kind := range kinds {
		for _, from := range places {
			for _, to := range places {
				for _, left := range lists {
					for _, right := range lists {
						all = append(all, partOf(kind, from, to, left, right))
					}
				}
			}
		}
	}
	return all
}

func TestGoodPartsOfAllSmall(t *testing.T) {
	good := 0
	check := func(base []string, p parts) {
		want := areGoodParts(base, p)
		if want {
			good++
		}
		if is := impl.GoodParts(base, p); is != want {
			t.Fatalf("GoodParts(%q, %#v) = %v", base, p, is)
		}
	}
	lists := [][]string{nil, {"a\n"}, {"b\n"}, {"a\n", "b\n"}, {"a"}, {""}}
	bases := [][]string{nil, {"a\n"}, {"a"}, {"a\n", "b\n"}}
	for _, base := range bases {
		for _, k := range partsIn([]int{0, 1, 2, 3, 4, 5, 6}, []int{-1, 0, 1, 2, 3}, lists) {
			check(base, parts{k})
		}
		few := partsIn([]int{1, 2, 3, 4, 5}, []int{0, 1, 2}, lists[:4])
		for _, j := range few {
			for _, k := range few {
				check(base, parts{j, k})
			}
		}
	}
	fewer := partsIn([]int{1, 2, 4, 5}, []int{0, 1, 2}, lists[:2])
	for _, i := range fewer {
		for _, j := range fewer {
			for _, k := range fewer {
				check(bases[3], parts{i, j, k})
			}
		}
	}
	if good < 1000 {
		t.Errorf("only %d are good", good)
	}
}

// allKinds are parts of each kind, good for the lines a to d.
func allKinds() parts {
	return parts{
		sameBy(0, 1, "a"), partBy(impl.MgLeft, 1, 2, "x", "b"), partBy(impl.MgRight, 2, 2, "", "yz"),
		partBy(impl.MgBoth, 2, 3, "", ""), partBy(impl.MgClash, 3, 4, "v.w", ".u"),
	}
}

func TestTakeSide(t *testing.T) {
	p := allKinds()
	checkTaken(t, "base", fourLines(), p, 0, fourLines())
	checkTaken(t, "left", fourLines(), p, 1, linesBy("axv.w"))
	checkTaken(t, "right", fourLines(), p, 2, linesBy("abyz.u"))
	for side := range 3 {
		checkTaken(t, "no parts", nil, nil, side, nil)
		checkTaken(t, "a part with nothing", nil, parts{partBy(impl.MgClash, 0, 0, "", "")}, side, nil)
		checkTaken(t, "all the same", linesBy("a.b"), parts{sameBy(0, 2, "a.b")}, side, linesBy("a.b"))
	}
}

// Parts can be good where all lines of one side, one behind the other, are not.
func TestTakeSideOfLinesThatAreNotGoodInTheEnd(t *testing.T) {
	most := numbered("m", impl.MaxLines)
	cases := []struct {
		name string
		p    parts
	}{
		{"one more than most", parts{partOf(impl.MgLeft, 0, 0, most, nil), partOf(impl.MgLeft, 0, 1, linesBy("x"), linesBy("a"))}},
		{"twice most", parts{partOf(impl.MgClash, 0, 1, most, linesBy("y")), partOf(impl.MgLeft, 1, 1, most, nil)}},
		{"one behind most of base's", parts{partOf(impl.MgLeft, 0, 0, most, nil), sameBy(0, 1, "a")}},
		{"an end is missing ahead of another part's", parts{partBy(impl.MgLeft, 0, 0, ".x", ""), sameBy(0, 1, "a")}},
		{"an end is missing ahead of others of that part", parts{partBy(impl.MgLeft, 0, 1, ".xy", "a")}},
		{"an end is missing ahead of others in the end", parts{partBy(impl.MgLeft, 0, 1, "x.y", "a"), partBy(impl.MgClash, 1, 1, "", ""), partBy(impl.MgLeft, 1, 1, "z", "")}},
	}
	for _, c := range cases {
		for left, p := range map[int]parts{1: c.p, 2: swappedBy(c.p)} {
			base := linesBy("a")
			checkGoodParts(t, c.name, base, p, true)
			checkNoSideTaken(t, c.name, base, p, left)
			checkTaken(t, c.name, base, p, 0, base)
			if other, ok := impl.TakeSide(base, p, 3-left); !ok || !impl.GoodLines(other) {
				t.Errorf("%s: the other side is %q, %v", c.name, other, ok)
			}
		}
	}
	checkTaken(t, "just most", linesBy("a"), parts{partOf(impl.MgLeft, 0, 0, most[1:], nil), sameBy(0, 1, "a")}, 1, append(slices.Clone(most[1:]), "a\n"))
	checkTaken(t, "an end is missing ahead of nothing", linesBy("a"), parts{partBy(impl.MgLeft, 0, 1, "x.y", "a"), partBy(impl.MgRight, 1, 1, "", "z")}, 1, linesBy("x.y"))
}

func checkNoSideTaken(t *testing.T, name string, base []string, p parts, side int) {
	t.Helper()
	if l, ok := impl.TakeSide(base, p, side); len(l) != 0 || ok {
		t.Errorf("%s: TakeSide(%.80q, %#v, %d) = %.80q, %v", name, base, p, side, l, ok)
	}
}

// oneOfKind is a part with this kind; all else of it is not good.
func oneOfKind(kind int) impl.Part {
	return partOf(kind, 7, -3, []string{"", "a\nb"}, []string{"r"})
}

func TestClashesInAndSwapSides(t *testing.T) {
	of := func(kinds ...int) parts {
		var p parts
		for _, kind := range kinds {
			p = append(p, oneOfKind(kind))
		}
		return p
	}
	const most = 3 * impl.MaxLines
	cases := []struct {
		name string
		p    parts
		want int
	}{
		{"no parts", nil, 0},
		{"no parts, not nil", parts{}, 0},
		{"MgSame", of(impl.MgSame), 0},
		{"MgLeft", of(impl.MgLeft), 0},
		{"MgRight", of(impl.MgRight), 0},
		{"MgBoth", of(impl.MgBoth), 0},
		{"MgClash", of(impl.MgClash), 1},
		{"each kind", of(impl.MgClash, impl.MgBoth, impl.MgRight, impl.MgLeft, impl.MgSame), 1},
		{"each kind twice", of(1, 1, 2, 2, 3, 3, 4, 4, 5, 5), 2},
		{"MgSame side by side with clashes", of(1, 1, 5, 1, 1, 5, 5), 3},
		{"good parts", parts{sameBy(0, 1, "a"), partBy(impl.MgClash, 1, 2, "x", "y")}, 1},
		{"most parts, all clashes", slices.Repeat(of(impl.MgClash), most), most},
		{"most parts, no clash", slices.Repeat(of(impl.MgLeft), most), 0},
		{"most parts, the last a clash", append(slices.Repeat(of(impl.MgRight), most-1), of(impl.MgClash)...), 1},
		{"more lines than most", parts{{Kind: impl.MgClash, Left: manyLines(1000)}, {Kind: impl.MgRight, Right: slices.Repeat([]string{""}, 1000)}}, 1},
	}
	for _, c := range cases {
		checkClashes(t, c.name, c.p, c.want)
		checkSwapped(t, c.name, c.p)
	}
	s, ok := impl.SwapSides(parts{sameBy(0, 1, "a"), partBy(impl.MgLeft, 1, 2, "x", "b"), partBy(impl.MgRight, 2, 2, "", "yz"), partBy(impl.MgBoth, 2, 3, "v", "v"), partBy(impl.MgClash, 3, 4, "t", "u")})
	checkParts(t, "word by word", s, ok, parts{sameBy(0, 1, "a"), partBy(impl.MgRight, 1, 2, "b", "x"), partBy(impl.MgLeft, 2, 2, "yz", ""), partBy(impl.MgBoth, 2, 3, "v", "v"), partBy(impl.MgClash, 3, 4, "u", "t")})
}
