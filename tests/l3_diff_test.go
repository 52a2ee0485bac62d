package tests

import (
	"fmt"
	"slices"
	"testing"

	"loop.example/g00825/impl"
)

type pairs = [][]int

// allPairs tries each way to leave lines out of both lists, from two places on, by which the same lines are left of both.
func allPairs(a, b []string, i, j int, ahead pairs, try func(pairs)) {
	try(ahead)
	for p := i; p < len(a); p++ {
		for q := j; q < len(b); q++ {
			if a[p] == b[q] {
				allPairs(a, b, p+1, q+1, append(slices.Clip(ahead), []int{p, q}), try)
			}
		}
	}
}

// isBetter says whether the one is longer, or as long and less.
func isBetter(one, other pairs) bool {
	if len(one) != len(other) {
		return len(one) > len(other)
	}
	return slices.Compare(slices.Concat(one...), slices.Concat(other...)) < 0
}

// bestOfAll tries all ways to leave lines out; it is for small lists alone.
func bestOfAll(a, b []string) pairs {
	var best pairs
	allPairs(a, b, 0, 0, nil, func(p pairs) {
		if isBetter(p, best) {
			best = p
		}
	})
	return best
}

// bestOfLong holds whole lists of pairs against one another, for all ends of both lists.
func bestOfLong(a, b []string) pairs {
	best := make([][]pairs, len(a)+1)
	for i := range best {
		best[i] = make([]pairs, len(b)+1)
	}
	for i := len(a) - 1; i >= 0; i-- {
		for j := len(b) - 1; j >= 0; j-- {
			tries := []pairs{best[i+1][j], best[i][j+1]}
			if a[i] == b[j] {
				tries = append(tries, append(pairs{{i, j}}, best[i+1][j+1]...))
			}
			for _, p := range tries {
				if isBetter(p, best[i][j]) {
					best[i][j] = p
				}
			}
		}
	}
	return best[0][0]
}

func samePairs(a, b pairs) bool {
	return slices.EqualFunc(a, b, func(p, q []int) bool { return slices.Equal(p, q) })
}

// hunksFromPairs marks the lines of b that come from a.
func hunksFromPairs(a, b []string, p pairs) hunks {
	last := markedOf(b)
	for i := range last {
		last[i].from = -1
	}
	for _, k := range p {
		last[k[1]].from = k[0]
	}
	return gapsOf(len(a), last)
}

// checkDiff expects all functions of the layer to answer by the pairs that are wanted.
func checkDiff(t *testing.T, name string, a, b []string, want pairs) {
	t.Helper()
	if n, ok := impl.Common(a, b); n != len(want) || !ok {
		t.Errorf("%s: Common(%q, %q) = %d, %v, not %d", name, a, b, n, ok, len(want))
	}
	if p, ok := impl.CommonLines(a, b); !ok || !samePairs(p, want) {
		t.Errorf("%s: CommonLines(%q, %q) = %v, %v, not %v", name, a, b, p, ok, want)
	}
	all := len(a) + len(b)
	if n, ok := impl.FarApart(a, b); n != all-2*len(want) || !ok {
		t.Errorf("%s: FarApart(%q, %q) = %d, %v", name, a, b, n, ok)
	}
	alike := 100
	if all > 0 {
		alike = 200 * len(want) / all
	}
	if n, ok := impl.AlikeOf(a, b); n != alike || !ok {
		t.Errorf("%s: AlikeOf(%q, %q) = %d, %v, not %d", name, a, b, n, ok, alike)
	}
	checkDiffHunks(t, name, a, b, hunksFromPairs(a, b, want))
}

// checkDiffHunks expects these hunks, or none where they are too many, and that they do what they are for.
func checkDiffHunks(t *testing.T, name string, a, b []string, want hunks) {
	t.Helper()
	if n, ok := impl.NeedsHunks(a, b); n != len(want) || !ok {
		t.Errorf("%s: NeedsHunks(%q, %q) = %d, %v, not %d", name, a, b, n, ok, len(want))
	}
	h, ok := impl.DiffHunks(a, b)
	if len(want) > impl.MaxHunks {
		if len(h) != 0 || ok {
			t.Errorf("%s: DiffHunks(%q, %q) = %#v, %v, but it needs %d", name, a, b, h, ok, len(want))
		}
		return
	}
	checkHunks(t, name, h, ok, want)
	checkPatch(t, name, a, h, b)
	checkIsLeast(t, name, a, h, true)
	joined, ok := impl.JoinHunks(a, h, nil)
	checkHunks(t, name+", as JoinHunks has them", joined, ok, want)
	back, ok := impl.BackHunks(a, h)
	if !ok {
		t.Errorf("%s: no way back from %#v", name, h)
	}
	checkIsLeast(t, name+", back", b, back, true)
}

func checkIsLeast(t *testing.T, name string, l []string, h hunks, want bool) {
	t.Helper()
	if is, ok := impl.IsLeast(l, h); is != want || !ok {
		t.Errorf("%s: IsLeast(%q, %#v) = %v, %v", name, l, h, is, ok)
	}
}

// linesBy makes a line of each letter; a letter behind a dot has no end.
func linesBy(letters string) []string {
	var l []string
	for i, r := range letters {
		switch {
		case r == '.':
			continue
		case i > 0 && letters[i-1] == '.':
			l = append(l, string(r))
		default:
			l = append(l, string(r)+"\n")
		}
	}
	return l
}

func TestCommonLines(t *testing.T) {
	cases := []struct {
		name, a, b string
		want       pairs
	}{
		{"none and none", "", "", nil},
		{"a list and none", "abc", "", nil},
		{"none and a list", "", "abc", nil},
		{"one line", "a", "a", pairs{{0, 0}}},
		{"equal lists", "abc", "abc", pairs{{0, 0}, {1, 1}, {2, 2}}},
		{"nothing shared", "abc", "xyz", nil},
		{"one goes", "abc", "ac", pairs{{0, 0}, {2, 1}}},
		{"one comes", "ac", "abc", pairs{{0, 0}, {1, 2}}},
		{"one is another", "abc", "axc", pairs{{0, 0}, {2, 2}}},
		{"the first and the last go", "abcd", "bc", pairs{{1, 0}, {2, 1}}},
		{"the same many times", "aaaa", "aa", pairs{{0, 0}, {1, 1}}},
		{"the same many times, turned", "aa", "aaaa", pairs{{0, 0}, {1, 1}}},
		{"the same many times, with others", "abaca", "aaa", pairs{{0, 0}, {2, 1}, {4, 2}}},
		{"the place in a decides, though that in b is greater", "ab", "ba", pairs{{0, 1}}},
		{"of three in turn", "abc", "cba", pairs{{0, 2}}},
		{"the place in b decides where that in a is the same", "a", "xaa", pairs{{0, 1}}},
		{"a first place that is not less must be taken", "xab", "abx", pairs{{1, 0}, {2, 1}}},
		{"two longest lists, the one with the first place", "abcd", "cdab", pairs{{0, 2}, {1, 3}}},
		{"the second pair decides", "xab", "xba", pairs{{0, 0}, {1, 2}}},
		{"the last pair decides", "xyab", "xyba", pairs{{0, 0}, {1, 1}, {2, 3}}},
		{"the nearest of the same lines", "axbxc", "xc", pairs{{1, 0}, {4, 1}}},
		{"the nearest that leaves room in b", "ab", "babab", pairs{{0, 1}, {1, 2}}},
		{"a near one that leaves too little is passed over", "abcab", "cab", pairs{{2, 0}, {3, 1}, {4, 2}}},
		{"as said in books", "abcbdab", "bdcaba", pairs{{1, 0}, {2, 2}, {3, 4}, {5, 5}}},
	}
	for _, c := range cases {
		a, b := linesBy(c.a), linesBy(c.b)
		checkDiff(t, c.name, a, b, c.want)
		if best := bestOfAll(a, b); !samePairs(best, c.want) {
			t.Errorf("%s: of all ways the best is %v, not %v", c.name, best, c.want)
		}
	}
}

func TestLastLineWithoutAnEnd(t *testing.T) {
	cases := []struct {
		name, a, b string
		want       hunks
	}{
		{"the end alone goes", "ab", "a.b", hunks{{At: 1, Gone: 1, New: []string{"b"}}}},
		{"the end alone comes", "a.b", "ab", hunks{{At: 1, Gone: 1, New: []string{"b\n"}}}},
		{"of both none has one", "a.b", "a.b", nil},
		{"of both none has one, and they are unlike", "a.b", "a.c", hunks{{At: 1, Gone: 1, New: []string{"c"}}}},
		{"a line goes ahead of it", "xa.b", "a.b", hunks{{Gone: 1}}},
		{"it goes", "a.b", "a", hunks{{At: 1, Gone: 1}}},
		{"it comes", "a", "a.b", hunks{{At: 1, New: []string{"b"}}}},
		{"it is all there is, and goes", ".b", "", hunks{{Gone: 1}}},
		{"it is all there is, and comes", "", ".b", hunks{{New: []string{"b"}}}},
		{"it gets an end, and lines behind it", "a.b", "abc", hunks{{At: 1, Gone: 1, New: []string{"b\n", "c\n"}}}},
		{"it is not the same as a line within", "ba", "a.b", hunks{{Gone: 1}, {At: 2, New: []string{"b"}}}},
	}
	for _, c := range cases {
		checkDiffHunks(t, c.name, linesBy(c.a), linesBy(c.b), c.want)
	}
}

func TestDiffHunks(t *testing.T) {
	cases := []struct {
		name, a, b string
		want       hunks
	}{
		{"none and none", "", "", nil},
		{"equal", "abc", "abc", nil},
		{"all go", "abc", "", hunks{{Gone: 3}}},
		{"all come", "", "abc", hunks{{New: linesBy("abc")}}},
		{"all are others", "ab", "xyz", hunks{{Gone: 2, New: linesBy("xyz")}}},
		{"ahead of the first", "ab", "xab", hunks{{New: linesBy("x")}}},
		{"behind the last", "ab", "abx", hunks{{At: 2, New: linesBy("x")}}},
		{"the last goes", "ab", "a", hunks{{At: 1, Gone: 1}}},
		{"of the same lines the last ones go", "aaa", "a", hunks{{At: 1, Gone: 2}}},
		{"of the same lines the last ones come", "a", "aaa", hunks{{At: 1, New: linesBy("aa")}}},
		{"a line moves up", "abc", "cab", hunks{{New: linesBy("c")}, {At: 2, Gone: 1}}},
		{"two lines change places, the first one stays", "ab", "ba", hunks{{New: linesBy("b")}, {At: 1, Gone: 1}}},
		{"ahead, within and behind", "abcd", "xacyez", hunks{{New: linesBy("x")}, {At: 1, Gone: 1}, {At: 3, Gone: 1, New: linesBy("yez")}}},
	}
	for _, c := range cases {
		checkDiffHunks(t, c.name, linesBy(c.a), linesBy(c.b), c.want)
	}
}

func TestDiffOfAllSmallLists(t *testing.T) {
	for _, lists := range [][][]string{goodLists(3), wordsUpTo([]string{"x\n", "y\n"}, 5), wordsUpTo([]string{"x\n", "y\n", "z\n"}, 4)} {
		for _, a := range lists {
			for _, b := range lists {
				checkDiff(t, "small", a, b, bestOfAll(a, b))
			}
		}
	}
}

// mixed are n lines of which kinds are unlike, in an order that the seed changes.
func mixed(n, kinds, seed int) []string {
	var l []string
	for range n {
		seed = (seed*1103515245 + 12345) % (1 << 31)
		l = append(l, fmt.Sprintf("%d\n", (seed>>16)%kinds))
	}
	return l
}

func TestDiffOfLongLists(t *testing.T) {
	for seed := range 60 {
		for _, kinds := range []int{1, 2, 3, 8, 50} {
			a, b := mixed(impl.MaxLines-seed%7, kinds, seed), mixed(impl.MaxLines-seed%5, kinds, seed+1000)
			checkDiff(t, "long", a, b, bestOfLong(a, b))
			part := slices.Delete(slices.Clone(a), seed%10, seed%10+9)
			checkDiff(t, "a part", a, part, bestOfLong(a, part))
			checkDiff(t, "of a part", part, a, bestOfLong(part, a))
		}
	}
}

// numbered are n lines, all unlike, each with a mark ahead.
func numbered(mark string, n int) []string {
	var l []string
	for i := range n {
		l = append(l, fmt.Sprintf("%s%d\n", mark, i))
	}
	return l
}

// inOrder pairs n lines from two places on.
func inOrder(i, j, n int) pairs {
	var p pairs
	for k := range n {
		p = append(p, []int{i + k, j + k})
	}
	return p
}

func TestDiffOfMostLines(t *testing.T) {
	const most = impl.MaxLines
	a := numbered("a", most)
	same := manyLines(most)
	open := slices.Concat(same[1:], []string{"l"})
	turned := slices.Clone(a)
	slices.Reverse(turned)
	cases := []struct {
		name string
		a, b []string
		want pairs
	}{
		{"equal", a, numbered("a", most), inOrder(0, 0, most)},
		{"all the same line", same, manyLines(most), inOrder(0, 0, most)},
		{"nothing shared", a, numbered("b", most), nil},
		{"most and none", a, nil, nil},
		{"none and most", nil, a, nil},
		{"most and one", a, a[most-1:], pairs{{most - 1, 0}}},
		{"turned", a, turned, pairs{{0, most - 1}}},
		{"the last without an end", same, open, inOrder(0, 0, most-1)},
		{"the last without an end, turned", open, same, inOrder(0, 0, most-1)},
		{"both without an end", open, slices.Clone(open), inOrder(0, 0, most)},
		{"the first alone", a, slices.Concat(a[:1], numbered("b", most-1)), pairs{{0, 0}}},
		{"the last alone", a, slices.Concat(numbered("b", most-1), a[most-1:]), pairs{{most - 1, most - 1}}},
		{"all but the first", a, slices.Concat(a[1:], []string{"x\n"}), inOrder(1, 0, most-1)},
		{"all but the last", a, slices.Concat([]string{"x\n"}, a[:most-1]), inOrder(0, 1, most-1)},
		{"both halves changed", a, slices.Concat(a[most/2:], a[:most/2]), inOrder(0, most/2, most/2)},
	}
	for _, c := range cases {
		checkDiff(t, c.name, c.a, c.b, c.want)
	}
}

// gapped are lists that share n lines with n and 1 gaps; the first gaps have a line of a, and the others, up to all, one of b.
func gapped(n, gone, all int) ([]string, []string, hunks) {
	var a, b []string
	var h hunks
	for i := range n + 1 {
		if i < gone {
			h = append(h, impl.Hunk{At: len(a), Gone: 1})
			a = append(a, "gone\n")
		} else if i < all {
			h = append(h, impl.Hunk{At: len(a), New: []string{"new\n"}})
			b = append(b, "new\n")
		}
		if i < n {
			line := fmt.Sprintf("s%d\n", i)
			a, b = append(a, line), append(b, line)
		}
	}
	return a, b, h
}

func TestUpToMostHunks(t *testing.T) {
	const most = impl.MaxHunks
	cases := []struct {
		name         string
		n, gone, all int
	}{
		{"most, all take away", most, most, most},
		{"most, all bring", most, 0, most},
		{"most, of both", 26, 14, most},
		{"one less", most, most - 1, most - 1},
		{"one more", most, most, most + 1},
		{"one more, of both", 26, 8, most + 1},
		{"as many as there can be", 26, 14, 27},
	}
	for _, c := range cases {
		a, b, h := gapped(c.n, c.gone, c.all)
		if len(h) != c.all || len(a) > impl.MaxLines || len(b) > impl.MaxLines {
			t.Fatalf("%s: %d hunks for %d and %d lines", c.name, len(h), len(a), len(b))
		}
		checkDiffHunks(t, c.name, a, b, h)
		if n, ok := impl.FarApart(a, b); n != c.all || !ok {
			t.Errorf("%s: FarApart %d, %v", c.name, n, ok)
		}
	}
	l := numbered("a", impl.MaxLines)
	h := everySecond(most, 1, []string{"x\n"})
	made, _ := impl.Patch(l, h)
	checkDiffHunks(t, "most, every second line", l, made, h)
}

func TestFarApart(t *testing.T) {
	cases := []struct {
		a, b string
		want int
	}{
		{"", "", 0},
		{"abc", "abc", 0},
		{"abc", "", 3},
		{"", "ab", 2},
		{"abc", "xy", 5},
		{"abc", "axc", 2},
		{"ab", "ba", 2},
		{"aaa", "a", 2},
		{"ab", "a.b", 2},
	}
	for _, c := range cases {
		if n, ok := impl.FarApart(linesBy(c.a), linesBy(c.b)); n != c.want || !ok {
			t.Errorf("FarApart of %q and %q = %d, %v, not %d", c.a, c.b, n, ok, c.want)
		}
	}
	if n, ok := impl.FarApart(numbered("a", impl.MaxLines), numbered("b", impl.MaxLines)); n != 2*impl.MaxLines || !ok {
		t.Errorf("FarApart of most lines = %d, %v", n, ok)
	}
}

func TestIsLeast(t *testing.T) {
	cases := []struct {
		name, l string
		h       hunks
		want    bool
	}{
		{"no hunks", "abc", nil, true},
		{"no hunks for no lines", "", nil, true},
		{"a line goes", "abc", hunks{{At: 1, Gone: 1}}, true},
		{"a line comes", "abc", hunks{{At: 1, New: linesBy("x")}}, true},
		{"a line is another", "abc", hunks{{At: 1, Gone: 1, New: linesBy("x")}}, true},
		{"all lines are others", "abc", hunks{{Gone: 3, New: linesBy("xy")}}, true},
		{"a line goes and comes again", "abc", hunks{{At: 1, Gone: 1, New: linesBy("b")}}, false},
		{"all lines go and come again", "abc", hunks{{Gone: 3, New: linesBy("abc")}}, false},
		{"a line ahead of another one goes and comes again", "abc", hunks{{Gone: 2, New: linesBy("ax")}}, false},
		{"a line behind another one goes and comes again", "abc", hunks{{Gone: 2, New: linesBy("xb")}}, false},
		{"a line in the middle goes and comes again", "abc", hunks{{Gone: 3, New: linesBy("xby")}}, false},
		{"not those of DiffHunks, but as few", "aaa", hunks{{Gone: 1}}, true},
		{"not those of DiffHunks, but as few come", "aa", hunks{{New: linesBy("a")}}, true},
		{"a line moves down", "abc", hunks{{Gone: 1}, {At: 3, New: linesBy("a")}}, true},
		{"two lines move where one could", "abc", hunks{{New: linesBy("bc")}, {At: 1, Gone: 2}}, false},
		{"the same goes here and comes there", "aaa", hunks{{New: linesBy("a")}, {At: 2, Gone: 1}}, false},
		{"only one hunk of two is more than need be", "abc", hunks{{Gone: 1, New: linesBy("x")}, {At: 2, Gone: 1, New: linesBy("c")}}, false},
		{"an end goes", "ab", hunks{{At: 1, Gone: 1, New: []string{"b"}}}, true},
		{"a line without an end goes and comes again", "a.b", hunks{{At: 1, Gone: 1, New: []string{"b"}}}, false},
	}
	for _, c := range cases {
		checkIsLeast(t, c.name, linesBy(c.l), c.h, c.want)
	}
	most := numbered("a", impl.MaxLines)
	checkIsLeast(t, "most lines are others", most, hunks{{Gone: impl.MaxLines, New: numbered("b", impl.MaxLines)}}, true)
	checkIsLeast(t, "most lines come again", most, hunks{{Gone: impl.MaxLines, New: most}}, false)
	checkIsLeast(t, "most hunks", most, everySecond(impl.MaxHunks, 1, []string{"x\n"}), true)
	checkIsLeast(t, "most hunks, of which the first brings what was there", most, everySecond(impl.MaxHunks, 1, most[:1]), false)
}

func TestIsLeastOfAllSmallHunks(t *testing.T) {
	for _, l := range smallTexts() {
		for _, h := range hunksFor(len(l), smallNews()) {
			made, ok := impl.Patch(l, h)
			if !ok {
				checkNoLeast(t, "small", l, h)
				continue
			}
			size := 0
			for _, k := range h {
				size += k.Gone + len(k.New)
			}
			need := len(l) + len(made) - 2*len(bestOfLong(l, made))
			if size < need {
				t.Fatalf("%#v changes fewer lines of %q than can be", h, l)
			}
			checkIsLeast(t, "small", l, h, size == need)
		}
	}
}

func TestAlikeOf(t *testing.T) {
	most := numbered("a", impl.MaxLines)
	cases := []struct {
		name string
		a, b []string
		want int
	}{
		{"none and none", nil, nil, 100},
		{"none and none, one of them not nil", nil, []string{}, 100},
		{"equal", linesBy("abc"), linesBy("abc"), 100},
		{"equal, in one line without an end", linesBy(".a"), linesBy(".a"), 100},
		{"nothing shared", linesBy("abc"), linesBy("xy"), 0},
		{"a list and none", linesBy("abc"), nil, 0},
		{"none and a list", nil, linesBy("abc"), 0},
		{"half", linesBy("ab"), linesBy("ax"), 50},
		{"66.6", linesBy("ab"), linesBy("a"), 66},
		{"28.5", linesBy("abcd"), linesBy("axy"), 28},
		{"57.1", linesBy("abcd"), linesBy("abx"), 57},
		{"85.7", linesBy("abcd"), linesBy("abc"), 85},
		{"an end alone", linesBy("a"), linesBy(".a"), 0},
		{"most lines", most, numbered("a", impl.MaxLines), 100},
		{"most lines, nothing shared", most, numbered("b", impl.MaxLines), 0},
		{"98.7", most, most[1:], 98},
		{"97.5", most, append(slices.Clone(most[1:]), "x\n"), 97},
		{"4.8", most, most[7:8], 4},
		{"2.5", most, append(numbered("b", impl.MaxLines-1), most[3]), 2},
	}
	for _, c := range cases {
		if n, ok := impl.AlikeOf(c.a, c.b); n != c.want || !ok {
			t.Errorf("%s: AlikeOf(%q, %q) = %d, %v, not %d", c.name, c.a, c.b, n, ok, c.want)
		}
		if n, ok := impl.AlikeOf(c.b, c.a); n != c.want || !ok {
			t.Errorf("%s: AlikeOf(%q, %q) = %d, %v, not %d", c.name, c.b, c.a, n, ok, c.want)
		}
	}
}
