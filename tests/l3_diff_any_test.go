package tests

import (
	"slices"
	"testing"

	"loop.example/g00825/impl"
)

// checkNoDiff expects each function that takes two lists to answer with nothing.
func checkNoDiff(t *testing.T, name string, a, b []string) {
	t.Helper()
	numbers := map[string]func(a, b []string) (int, bool){
		"Common": impl.Common, "FarApart": impl.FarApart, "AlikeOf": impl.AlikeOf, "NeedsHunks": impl.NeedsHunks,
	}
	for call, f := range numbers {
		if n, ok := f(a, b); n != 0 || ok {
			t.Errorf("%s: %s = %d, %v", name, call, n, ok)
		}
	}
	if p, ok := impl.CommonLines(a, b); len(p) != 0 || ok {
		t.Errorf("%s: CommonLines = %v, %v", name, p, ok)
	}
	if h, ok := impl.DiffHunks(a, b); len(h) != 0 || ok {
		t.Errorf("%s: DiffHunks = %#v, %v", name, h, ok)
	}
}

func checkNoLeast(t *testing.T, name string, l []string, h hunks) {
	t.Helper()
	if is, ok := impl.IsLeast(l, h); is || ok {
		t.Errorf("%s: IsLeast(%q, %#v) = %v, %v", name, l, h, is, ok)
	}
}

func TestBadLinesGetNoDiff(t *testing.T) {
	for name, l := range badLists() {
		for _, good := range [][]string{nil, fourLines(), {"a\n", "b"}, manyLines(impl.MaxLines)} {
			checkNoDiff(t, name+", first", l, good)
			checkNoDiff(t, name+", second", good, l)
		}
		checkNoDiff(t, name+", both", l, l)
		for other, m := range badLists() {
			checkNoDiff(t, name+" and "+other, l, m)
		}
		for _, h := range []hunks{nil, {{Gone: 1}}, {{Gone: len(l)}}, {{Gone: len(l), New: []string{"x\n"}}}, {{New: []string{"x\n"}}}} {
			checkNoLeast(t, name, l, h)
		}
	}
}

func TestBadHunksAreNotLeast(t *testing.T) {
	for name, h := range badHunks() {
		checkNoLeast(t, name, fourLines(), h)
	}
	toBadLines := map[string]hunks{
		"a line without an end comes first":  {{New: []string{"x"}}},
		"a line without an end comes within": {{At: 1, Gone: 1, New: []string{"x\n", "y"}}},
		"lines come behind one without":      {{At: 4, New: []string{"x", "y\n"}}},
		"one of two hunks":                   {{Gone: 1, New: []string{"x"}}, {At: 2, Gone: 1}},
		"too many lines come":                {{At: 1, New: manyLines(impl.MaxLines - 3)}},
	}
	for name, h := range toBadLines {
		if !impl.GoodHunks(4, h) {
			t.Errorf("%s: not good: %#v", name, h)
		}
		checkNoLeast(t, name, fourLines(), h)
	}
	checkNoLeast(t, "behind a last line without an end", []string{"a\n", "b"}, hunks{{At: 2, New: []string{"c\n"}}})
	checkIsLeast(t, "most lines come", fourLines(), hunks{{At: 1, New: manyLines(impl.MaxLines - 4)}}, true)
}

// spoilPairs writes into all memory that an answer hands out.
func spoilPairs(p pairs) {
	for _, k := range p {
		for i := range k[:cap(k)] {
			k[:cap(k)][i] = -9
		}
		_ = append(k, -9)
	}
	for i := range p[:cap(p)] {
		p[:cap(p)][i] = []int{-9}
	}
}

// callDiff calls each function of the layer and writes into what it answers.
func callDiff(a, b []string) {
	impl.Common(a, b)
	impl.FarApart(a, b)
	impl.AlikeOf(a, b)
	impl.NeedsHunks(a, b)
	p, _ := impl.CommonLines(a, b)
	spoilPairs(p)
	h, _ := impl.DiffHunks(a, b)
	spoil(h)
}

func TestNoListIsChangedByDiff(t *testing.T) {
	lists := append(goodAndBad(), numbered("a", impl.MaxLines))
	for _, l := range lists {
		for _, m := range lists {
			checkUnchanged(t, l, m, callDiff)
		}
	}
}

func TestNoHunksAreChangedByIsLeast(t *testing.T) {
	lists := []hunks{nil, {{Gone: 4}}, {{New: []string{"x\n"}}, {At: 2, Gone: 2, New: []string{"x\n", "d"}}}, {{Gone: 4, New: fourLines()}}}
	for _, h := range badHunks() {
		lists = append(lists, h)
	}
	for _, text := range [][]string{nil, fourLines(), {"a", "b\n"}} {
		for _, g := range lists {
			l, roomL := within(text)
			h, roomH := hunksWithin(g)
			beforeL, beforeH := slices.Clone(roomL), deepCopy(roomH)
			impl.IsLeast(l, h)
			if !slices.Equal(roomL, beforeL) || !unchanged(roomH, beforeH) {
				t.Fatalf("changed: %q, %#v", l, g)
			}
		}
	}
}

func TestListsOfOneDiffShareNoMemory(t *testing.T) {
	for _, b := range [][]string{fourLines(), linesBy("xaybzcw"), linesBy("xbyd"), linesBy("xyz"), linesBy("ab")} {
		h, ok := impl.DiffHunks(fourLines(), b)
		if !ok {
			t.Fatalf("no hunks for %q", b)
		}
		checkApart(t, "DiffHunks", h)
		p, ok := impl.CommonLines(fourLines(), b)
		if !ok {
			t.Fatalf("no pairs for %q", b)
		}
		checkPairsApart(t, p)
	}
	most, _ := impl.CommonLines(manyLines(impl.MaxLines), manyLines(impl.MaxLines))
	checkPairsApart(t, most)
}

// checkPairsApart expects that no two pairs of an answer share memory, and that nothing lies behind them.
func checkPairsApart(t *testing.T, p pairs) {
	t.Helper()
	for _, k := range p[len(p):cap(p)] {
		if k != nil {
			t.Errorf("CommonLines hands out %v", k)
		}
	}
	for i, k := range p {
		if len(k) != 2 {
			t.Errorf("%v is no pair", k)
		}
		for j := range k[:cap(k)] {
			k[:cap(k)][j] = i
		}
	}
	for i, k := range p {
		for _, n := range k[:cap(k)] {
			if n != i {
				t.Error("two pairs of the answer share memory")
			}
		}
	}
}

func TestWhatIsBehindListsIsNotInTheDiff(t *testing.T) {
	lists := goodLists(3)
	for _, l := range lists {
		for _, m := range lists {
			a, _ := within(l)
			b, _ := within(m)
			checkDiff(t, "in a larger array", a, b, bestOfAll(l, m))
		}
	}
	l, _ := within(fourLines())
	h, _ := hunksWithin(hunks{{Gone: 2, New: []string{"x\n", "b\n"}}, {At: 3, New: []string{"y\n"}}})
	checkIsLeast(t, "in a larger array", l, h, false)
	checkIsLeast(t, "in a larger array, the last", l, h[1:], true)
}

func TestNoDiffIsKept(t *testing.T) {
	a, b := linesBy("abcd"), linesBy("xacyd")
	for range 3 {
		checkDiff(t, "again", a, b, pairs{{0, 1}, {2, 2}, {3, 4}})
		callDiff(a, b)
	}
	a[0] = "x\n"
	checkDiff(t, "after a change", a, b, pairs{{0, 0}, {2, 2}, {3, 4}})
}
