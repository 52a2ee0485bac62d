package tests

import (
	"slices"
	"testing"

	"loop.example/g00825/impl"
)

type hunks = []impl.Hunk

// hunksFor lists all good hunks for many lines whose New are among news.
func hunksFor(many int, news [][]string) []hunks {
	return hunksFrom(0, many, news)
}

func hunksFrom(from, many int, news [][]string) []hunks {
	all := []hunks{nil}
	for at := from; at <= many; at++ {
		for gone := 0; at+gone <= many; gone++ {
			for _, lines := range news {
				if gone == 0 && len(lines) == 0 {
					continue
				}
				first := impl.Hunk{At: at, Gone: gone, New: lines}
				for _, rest := range hunksFrom(at+gone+1, many, news) {
					all = append(all, append(hunks{first}, rest...))
				}
			}
		}
	}
	return all
}

// smallNews are what hunks may bring in tests of all small ones; the last two have a line without an end.
func smallNews() [][]string {
	return [][]string{nil, {"x\n"}, {"y\n", "x\n"}, {"x"}, {"x", "y\n"}}
}

// smallTexts are lines whose members are alike in many ways.
func smallTexts() [][]string {
	return [][]string{nil, {"x\n"}, {"x"}, {"x\n", "x\n"}, {"y\n", "x"}, {"x\n", "y\n", "x\n"}, {"y\n", "x\n", "x"}}
}

// marked is a line together with the place in the first text from which it came, or -1.
type marked struct {
	line string
	from int
}

func markedOf(l []string) []marked {
	var all []marked
	for i, line := range l {
		all = append(all, marked{line, i})
	}
	return all
}

// change does what hunks say place by place.
func change(l []marked, h hunks) []marked {
	var all []marked
	for place := 0; place <= len(l); place++ {
		stays := place < len(l)
		for _, k := range h {
			if k.At == place {
				for _, line := range k.New {
					all = append(all, marked{line, -1})
				}
			}
			if k.At <= place && place < k.At+k.Gone {
				stays = false
			}
		}
		if stays {
			all = append(all, l[place])
		}
	}
	return all
}

func plainOf(l []marked) []string {
	var all []string
	for _, m := range l {
		all = append(all, m.line)
	}
	return all
}

func checkPatch(t *testing.T, name string, l []string, h hunks, want []string) {
	t.Helper()
	if made, ok := impl.Patch(l, h); !ok || !slices.Equal(made, want) {
		t.Errorf("%s: Patch(%#v, %#v) = %#v, %v, not %#v", name, l, h, made, ok, want)
	}
}

func alike(a, b hunks) bool {
	return slices.EqualFunc(a, b, func(j, k impl.Hunk) bool {
		return j.At == k.At && j.Gone == k.Gone && slices.Equal(j.New, k.New)
	})
}

func checkHunks(t *testing.T, name string, h hunks, ok bool, want hunks) {
	t.Helper()
	if !ok || !alike(h, want) {
		t.Errorf("%s: %#v, %v, not %#v", name, h, ok, want)
	}
}

// checkNone expects each function that needs a Patch that tells true to answer with nothing.
func checkNone(t *testing.T, name string, l []string, h hunks) {
	t.Helper()
	if made, ok := impl.Patch(l, h); len(made) != 0 || ok {
		t.Errorf("%s: Patch(%#v, %#v) = %#v, %v", name, l, h, made, ok)
	}
	if back, ok := impl.BackHunks(l, h); len(back) != 0 || ok {
		t.Errorf("%s: BackHunks(%#v, %#v) = %#v, %v", name, l, h, back, ok)
	}
	if kept, ok := impl.TrimHunks(l, h); len(kept) != 0 || ok {
		t.Errorf("%s: TrimHunks(%#v, %#v) = %#v, %v", name, l, h, kept, ok)
	}
	if joined, ok := impl.JoinHunks(l, h, nil); len(joined) != 0 || ok {
		t.Errorf("%s: JoinHunks(%#v, %#v, none) = %#v, %v", name, l, h, joined, ok)
	}
	if joined, ok := impl.JoinHunks(l, nil, h); len(joined) != 0 || ok {
		t.Errorf("%s: JoinHunks(%#v, none, %#v) = %#v, %v", name, l, h, joined, ok)
	}
}

func TestPatchAndBack(t *testing.T) {
	abc, open := []string{"a\n", "b\n", "c\n"}, []string{"a\n", "b"}
	xy := []string{"x\n", "y\n"}
	cases := []struct {
		name string
		l    []string
		h    hunks
		want []string
		back hunks
	}{
		{"no hunks", abc, nil, abc, nil},
		{"nothing at all", nil, nil, nil, nil},
		{"lines come to none", nil, hunks{{New: xy}}, xy, hunks{{Gone: 2}}},
		{"the first line goes", abc, hunks{{Gone: 1}}, []string{"b\n", "c\n"}, hunks{{New: []string{"a\n"}}}},
		{"lines come ahead of the first", abc, hunks{{New: xy}}, []string{"x\n", "y\n", "a\n", "b\n", "c\n"}, hunks{{Gone: 2}}},
		{"the first line is changed", abc, hunks{{Gone: 1, New: xy}}, []string{"x\n", "y\n", "b\n", "c\n"}, hunks{{Gone: 2, New: []string{"a\n"}}}},
		{"lines come within", abc, hunks{{At: 1, New: xy}}, []string{"a\n", "x\n", "y\n", "b\n", "c\n"}, hunks{{At: 1, Gone: 2}}},
		{"the last line goes", abc, hunks{{At: 2, Gone: 1}}, []string{"a\n", "b\n"}, hunks{{At: 2, New: []string{"c\n"}}}},
		{"lines come behind the last", abc, hunks{{At: 3, New: xy}}, []string{"a\n", "b\n", "c\n", "x\n", "y\n"}, hunks{{At: 3, Gone: 2}}},
		{"all lines go", abc, hunks{{Gone: 3}}, nil, hunks{{New: abc}}},
		{"all lines are changed", abc, hunks{{Gone: 3, New: xy}}, xy, hunks{{Gone: 2, New: abc}}},
		{"all lines come again", abc, hunks{{Gone: 3, New: abc}}, abc, hunks{{Gone: 3, New: abc}}},
		{"one line between", abc, hunks{{Gone: 1}, {At: 2, Gone: 1, New: xy}}, []string{"b\n", "x\n", "y\n"},
			hunks{{New: []string{"a\n"}}, {At: 1, Gone: 2, New: []string{"c\n"}}}},
		{"what comes, with one line between", abc, hunks{{New: xy}, {At: 1, New: xy}}, []string{"x\n", "y\n", "a\n", "x\n", "y\n", "b\n", "c\n"},
			hunks{{Gone: 2}, {At: 3, Gone: 2}}},
		{"less, more and less", []string{"a\n", "b\n", "c\n", "d\n", "e\n"}, hunks{{Gone: 2}, {At: 3, New: xy}, {At: 4, Gone: 1, New: []string{"z"}}},
			[]string{"c\n", "x\n", "y\n", "d\n", "z"}, hunks{{New: []string{"a\n", "b\n"}}, {At: 1, Gone: 2}, {At: 4, Gone: 1, New: []string{"e\n"}}}},
		{"a last line without an end goes", open, hunks{{At: 1, Gone: 1}}, []string{"a\n"}, hunks{{At: 1, New: []string{"b"}}}},
		{"a last line without an end comes", abc, hunks{{At: 3, New: []string{"x\n", "d"}}}, []string{"a\n", "b\n", "c\n", "x\n", "d"}, hunks{{At: 3, Gone: 2}}},
		{"a last line loses its end", abc, hunks{{At: 2, Gone: 1, New: []string{"c"}}}, []string{"a\n", "b\n", "c"}, hunks{{At: 2, Gone: 1, New: []string{"c\n"}}}},
		{"a last line gets an end, and more come", open, hunks{{At: 1, Gone: 1, New: []string{"b\n", "c"}}}, []string{"a\n", "b\n", "c"}, hunks{{At: 1, Gone: 2, New: []string{"b"}}}},
		{"a last line without an end stays", open, hunks{{At: 1, New: xy}}, []string{"a\n", "x\n", "y\n", "b"}, hunks{{At: 1, Gone: 2}}},
		{"lines change ahead of one without an end", open, hunks{{Gone: 1, New: xy}}, []string{"x\n", "y\n", "b"}, hunks{{Gone: 2, New: []string{"a\n"}}}},
	}
	for _, c := range cases {
		if !impl.GoodHunks(len(c.l), c.h) {
			t.Errorf("%s: not good: %#v", c.name, c.h)
		}
		checkPatch(t, c.name, c.l, c.h, c.want)
		back, ok := impl.BackHunks(c.l, c.h)
		checkHunks(t, c.name, back, ok, c.back)
		checkPatch(t, c.name+", back", c.want, c.back, c.l)
		again, ok := impl.BackHunks(c.want, c.back)
		checkHunks(t, c.name+", back again", again, ok, c.h)
	}
}

func TestPatchToLinesThatAreNotGood(t *testing.T) {
	abc, open := []string{"a\n", "b\n", "c\n"}, []string{"a\n", "b"}
	cases := []struct {
		name string
		l    []string
		h    hunks
	}{
		{"a line without an end comes first", abc, hunks{{New: []string{"x"}}}},
		{"a line without an end comes within", abc, hunks{{At: 1, Gone: 1, New: []string{"x\n", "y"}}}},
		{"a line without an end comes ahead of the last", open, hunks{{Gone: 1, New: []string{"x"}}}},
		{"a line without an end within what comes last", abc, hunks{{At: 3, New: []string{"x", "y\n"}}}},
		{"two lines without an end come", nil, hunks{{New: []string{"x", "y"}}}},
		{"lines come behind one without an end", open, hunks{{At: 2, New: []string{"c\n"}}}},
		{"a line without an end comes behind one", open, hunks{{At: 2, New: []string{"c"}}}},
		{"one of two hunks", abc, hunks{{Gone: 1, New: []string{"x"}}, {At: 2, Gone: 1, New: []string{"y"}}}},
	}
	for _, c := range cases {
		if !impl.GoodHunks(len(c.l), c.h) {
			t.Errorf("%s: not good: %#v", c.name, c.h)
		}
		checkNone(t, c.name, c.l, c.h)
	}
}

func TestPatchOfAllSmallHunks(t *testing.T) {
	for _, l := range smallTexts() {
		for _, h := range hunksFor(len(l), smallNews()) {
			if !impl.GoodHunks(len(l), h) {
				t.Fatalf("not good for %d: %#v", len(l), h)
			}
			want := plainOf(change(markedOf(l), h))
			if !impl.GoodLines(want) {
				checkNone(t, "small", l, h)
				continue
			}
			checkPatch(t, "small", l, h, want)
			back, ok := impl.BackHunks(l, h)
			if !ok || len(back) != len(h) || !impl.GoodHunks(len(want), back) {
				t.Fatalf("BackHunks(%#v, %#v) = %#v, %v", l, h, back, ok)
			}
			for i, k := range h {
				if back[i].Gone != len(k.New) || !slices.Equal(back[i].New, l[k.At:k.At+k.Gone]) {
					t.Fatalf("BackHunks(%#v, %#v) = %#v", l, h, back)
				}
			}
			checkPatch(t, "small, back", want, back, l)
			again, ok := impl.BackHunks(want, back)
			checkHunks(t, "small, back again", again, ok, h)
		}
	}
}

func TestPatchUpToMostLines(t *testing.T) {
	for have := 0; have <= impl.MaxLines; have++ {
		for _, at := range []int{0, have / 2, have} {
			l, left := manyLines(have), impl.MaxLines-have
			if left > 0 {
				h := hunks{{At: at, New: manyLines(left)}}
				checkPatch(t, "most", l, h, manyLines(impl.MaxLines))
				back, ok := impl.BackHunks(l, h)
				checkHunks(t, "most, back", back, ok, hunks{{At: at, Gone: left}})
			}
			if have > 0 {
				checkNone(t, "one more", l, hunks{{At: at, New: manyLines(left + 1)}})
			}
		}
		h := hunks{{Gone: have, New: manyLines(impl.MaxLines)}}
		checkPatch(t, "all are others", manyLines(have), h, manyLines(impl.MaxLines))
	}
	all := hunks{{Gone: impl.MaxLines}}
	checkPatch(t, "most lines go", manyLines(impl.MaxLines), all, nil)
	two := hunks{{New: manyLines(impl.MaxLines)}, {At: 1, New: manyLines(impl.MaxLines)}}
	checkNone(t, "much more", manyLines(impl.MaxLines), two)
}

// everySecond are n hunks, each for every second place, with Gone lines and a New as told.
func everySecond(n, gone int, lines []string) hunks {
	var h hunks
	for i := range n {
		h = append(h, impl.Hunk{At: 2 * i, Gone: gone, New: lines})
	}
	return h
}

func TestMostHunks(t *testing.T) {
	l, x := manyLines(impl.MaxLines), []string{"x\n"}
	most := everySecond(impl.MaxHunks, 1, x)
	want := slices.Repeat([]string{"x\n", "l\n"}, impl.MaxHunks)
	checkPatch(t, "most hunks", l, most, want)
	back, ok := impl.BackHunks(l, most)
	checkHunks(t, "most hunks, back", back, ok, everySecond(impl.MaxHunks, 1, []string{"l\n"}))
	kept, ok := impl.TrimHunks(l, most)
	checkHunks(t, "most hunks, trimmed", kept, ok, most)
	joined, ok := impl.JoinHunks(l, most, nil)
	checkHunks(t, "most hunks, joined", joined, ok, most)
	if gone, come, ok := impl.CountHunks(most); gone != impl.MaxHunks || come != impl.MaxHunks || !ok {
		t.Errorf("CountHunks of most: %d, %d, %v", gone, come, ok)
	}
	if n, ok := impl.PlaceOf(most, impl.MaxLines, impl.MaxLines); n != impl.MaxLines || !ok {
		t.Errorf("PlaceOf behind most: %d, %v", n, ok)
	}

	more := append(everySecond(impl.MaxHunks, 1, nil), impl.Hunk{At: impl.MaxLines, New: x})
	checkNone(t, "one more", l, more)
	if impl.GoodHunks(impl.MaxLines, more) || !impl.GoodHunks(impl.MaxLines, more[1:]) {
		t.Errorf("GoodHunks of %d", len(more))
	}
	if gone, come, ok := impl.CountHunks(more); gone != 0 || come != 0 || ok {
		t.Errorf("CountHunks of more: %d, %d, %v", gone, come, ok)
	}
	if n, ok := impl.PlaceOf(more, impl.MaxLines, 1); n != 0 || ok {
		t.Errorf("PlaceOf in more: %d, %v", n, ok)
	}
}

func TestTrimHunks(t *testing.T) {
	x, y, z := "x\n", "y\n", "z\n"
	cases := []struct {
		name string
		l    []string
		h    hunks
		want hunks
	}{
		{"no hunks", []string{x}, nil, nil},
		{"nothing the same", []string{x, y}, hunks{{Gone: 2, New: []string{z, x}}}, hunks{{Gone: 2, New: []string{z, x}}}},
		{"the same ahead", []string{x, y}, hunks{{Gone: 2, New: []string{x, z}}}, hunks{{At: 1, Gone: 1, New: []string{z}}}},
		{"the same behind", []string{x, y}, hunks{{Gone: 2, New: []string{z, y}}}, hunks{{Gone: 1, New: []string{z}}}},
		{"the same at both", []string{x, y, z}, hunks{{Gone: 3, New: []string{x, z, z}}}, hunks{{At: 1, Gone: 1, New: []string{z}}}},
		{"only some come", []string{x, z}, hunks{{Gone: 2, New: []string{x, y, y, z}}}, hunks{{At: 1, New: []string{y, y}}}},
		{"only some go", []string{x, y, y, z}, hunks{{Gone: 4, New: []string{x, z}}}, hunks{{At: 1, Gone: 2}}},
		{"the same in the middle alone", []string{x, y, x}, hunks{{Gone: 3, New: []string{z, y, z}}}, hunks{{Gone: 3, New: []string{z, y, z}}}},
		{"equal lines, fewer come", []string{x, x, x}, hunks{{Gone: 3, New: []string{x, x}}}, hunks{{At: 2, Gone: 1}}},
		{"equal lines, more come", []string{x, x}, hunks{{Gone: 2, New: []string{x, x, x}}}, hunks{{At: 2, New: []string{x}}}},
		{"equal lines with one between", []string{x, y, x}, hunks{{Gone: 3, New: []string{x, x}}}, hunks{{At: 1, Gone: 1}}},
		{"equal lines at both ends", []string{x, x, y, x}, hunks{{Gone: 4, New: []string{x, x, x}}}, hunks{{At: 2, Gone: 1}}},
		{"one is all of both ends", []string{x}, hunks{{Gone: 1, New: []string{x, y, x}}}, hunks{{At: 1, New: []string{y, x}}}},
		{"nothing left", []string{x, y}, hunks{{Gone: 2, New: []string{x, y}}}, nil},
		{"nothing left of equal lines", []string{x, x}, hunks{{Gone: 2, New: []string{x, x}}}, nil},
		{"nothing left of the first", []string{x, y, z}, hunks{{Gone: 1, New: []string{x}}, {At: 2, Gone: 1}}, hunks{{At: 2, Gone: 1}}},
		{"nothing left of the last", []string{x, y, z}, hunks{{Gone: 1}, {At: 2, Gone: 1, New: []string{z}}}, hunks{{Gone: 1}}},
		{"nothing left of one between", []string{x, y, x, y, x}, hunks{{Gone: 1}, {At: 2, Gone: 1, New: []string{x}}, {At: 4, Gone: 1}}, hunks{{Gone: 1}, {At: 4, Gone: 1}}},
		{"only what goes", []string{x, x}, hunks{{Gone: 1}}, hunks{{Gone: 1}}},
		{"only what comes", []string{x}, hunks{{New: []string{x}}}, hunks{{New: []string{x}}}},
		{"an end alone is unlike", []string{x, "y"}, hunks{{Gone: 2, New: []string{x, y}}}, hunks{{At: 1, Gone: 1, New: []string{y}}}},
		{"the same last line without an end", []string{x, "y"}, hunks{{Gone: 2, New: []string{z, "y"}}}, hunks{{Gone: 1, New: []string{z}}}},
		{"the line ahead of a hunk is no part of it", []string{x, x, y}, hunks{{At: 1, Gone: 1, New: []string{y, x}}}, hunks{{At: 1, New: []string{y}}}},
		{"most lines", manyLines(impl.MaxLines), hunks{{Gone: impl.MaxLines, New: append([]string{x}, manyLines(impl.MaxLines-1)...)}}, hunks{{Gone: 1, New: []string{x}}}},
	}
	for _, c := range cases {
		kept, ok := impl.TrimHunks(c.l, c.h)
		checkHunks(t, c.name, kept, ok, c.want)
	}
}

// trimOf takes one line after the other off a hunk, first ahead and then behind.
func trimOf(l []string, h hunks) hunks {
	var all hunks
	for _, k := range h {
		gone, come := l[k.At:k.At+k.Gone], k.New
		for len(gone) > 0 && len(come) > 0 && gone[0] == come[0] {
			gone, come = gone[1:], come[1:]
			k.At++
		}
		for len(gone) > 0 && len(come) > 0 && gone[len(gone)-1] == come[len(come)-1] {
			gone, come = gone[:len(gone)-1], come[:len(come)-1]
		}
		if len(gone)+len(come) > 0 {
			all = append(all, impl.Hunk{At: k.At, Gone: len(gone), New: come})
		}
	}
	return all
}

func TestTrimOfAllSmallHunks(t *testing.T) {
	news := wordsUpTo([]string{"x\n", "y\n"}, 3)
	news = append(news, []string{"x"}, []string{"y\n", "x"})
	for _, l := range smallTexts() {
		for _, h := range hunksFor(len(l), news) {
			made, good := impl.Patch(l, h)
			if !good {
				continue
			}
			kept, ok := impl.TrimHunks(l, h)
			checkHunks(t, "small", kept, ok, trimOf(l, h))
			if !impl.GoodHunks(len(l), kept) {
				t.Fatalf("TrimHunks(%#v, %#v) = %#v", l, h, kept)
			}
			checkPatch(t, "small, trimmed", l, kept, made)
			again, ok := impl.TrimHunks(l, kept)
			checkHunks(t, "small, trimmed again", again, ok, kept)
		}
	}
}

func TestJoinHunks(t *testing.T) {
	l := []string{"a\n", "b\n", "c\n", "d\n"}
	x, y := []string{"x\n"}, []string{"y\n"}
	cases := []struct {
		name string
		l    []string
		a, b hunks
		want hunks
	}{
		{"none", l, nil, nil, nil},
		{"none of none", nil, nil, nil, nil},
		{"only a", l, hunks{{Gone: 1}, {At: 3, New: x}}, nil, hunks{{Gone: 1}, {At: 3, New: x}}},
		{"only b", l, nil, hunks{{Gone: 1}, {At: 3, New: x}}, hunks{{Gone: 1}, {At: 3, New: x}}},
		{"far apart", l, hunks{{Gone: 1}}, hunks{{At: 2, Gone: 1, New: x}}, hunks{{Gone: 1}, {At: 3, Gone: 1, New: x}}},
		{"far apart, b ahead", l, hunks{{At: 3, Gone: 1, New: y}}, hunks{{New: x}}, hunks{{New: x}, {At: 3, Gone: 1, New: y}}},
		{"side by side are one", l, hunks{{Gone: 1}}, hunks{{Gone: 1}}, hunks{{Gone: 2}}},
		{"side by side, b comes behind", l, hunks{{At: 1, New: x}}, hunks{{At: 2, New: y}}, hunks{{At: 1, New: []string{"x\n", "y\n"}}}},
		{"side by side, b comes ahead", l, hunks{{At: 1, New: x}}, hunks{{At: 1, New: y}}, hunks{{At: 1, New: []string{"y\n", "x\n"}}}},
		{"b changes what came", l, hunks{{At: 1, Gone: 1, New: x}}, hunks{{At: 1, Gone: 1, New: y}}, hunks{{At: 1, Gone: 1, New: y}}},
		{"b takes what came", l, hunks{{At: 1, New: x}}, hunks{{At: 1, Gone: 1}}, nil},
		{"b takes what came, and more", l, hunks{{At: 1, New: x}}, hunks{{At: 0, Gone: 3}}, hunks{{Gone: 2}}},
		{"b brings what went", l, hunks{{At: 1, Gone: 1}}, hunks{{At: 1, New: []string{"b\n"}}}, hunks{{At: 1, Gone: 1, New: []string{"b\n"}}}},
		{"b goes over two of a", l, hunks{{Gone: 1}, {At: 2, Gone: 1}}, hunks{{Gone: 1, New: x}}, hunks{{Gone: 3, New: x}}},
		{"b fills what is between", l, hunks{{New: x}, {At: 1, New: x}}, hunks{{At: 1, Gone: 1}}, hunks{{Gone: 1, New: []string{"x\n", "x\n"}}}},
		{"b goes within what came", l, hunks{{At: 4, New: []string{"e\n", "f\n", "g\n"}}}, hunks{{At: 5, Gone: 1}}, hunks{{At: 4, New: []string{"e\n", "g\n"}}}},
		{"all go and all come", l, hunks{{Gone: 4}}, hunks{{New: l}}, hunks{{Gone: 4, New: l}}},
		{"the end goes and comes again", []string{"a\n", "b"}, hunks{{At: 1, Gone: 1, New: []string{"b\n"}}}, hunks{{At: 1, Gone: 1, New: []string{"b"}}}, hunks{{At: 1, Gone: 1, New: []string{"b"}}}},
	}
	for _, c := range cases {
		joined, ok := impl.JoinHunks(c.l, c.a, c.b)
		checkHunks(t, c.name, joined, ok, c.want)
		made, _ := impl.Patch(c.l, c.a)
		made, _ = impl.Patch(made, c.b)
		checkPatch(t, c.name+", at once", c.l, c.want, made)
	}
}

func TestJoinWhereOneCanNotBeDone(t *testing.T) {
	l := []string{"a\n", "b\n"}
	cases := []struct {
		name string
		a, b hunks
	}{
		{"a is not good", hunks{{At: 1, Gone: 2}}, nil},
		{"a leads to no good lines", hunks{{New: []string{"x"}}}, nil},
		{"a leads to no good lines, b would mend them", hunks{{New: []string{"x"}}}, hunks{{Gone: 1}}},
		{"b is not good for what comes", hunks{{Gone: 1}}, hunks{{At: 1, Gone: 1}}},
		{"b is not good for what comes, nor for what was", nil, hunks{{At: 3, New: []string{"x\n"}}}},
		{"b leads to no good lines", nil, hunks{{New: []string{"x"}}}},
		{"b comes behind a last line without an end", hunks{{At: 2, New: []string{"c"}}}, hunks{{At: 3, New: []string{"d"}}}},
		{"a leads beyond most lines", hunks{{New: manyLines(impl.MaxLines - 1)}}, nil},
		{"b leads beyond most lines", hunks{{New: manyLines(impl.MaxLines - 2)}}, hunks{{New: []string{"x\n"}}}},
	}
	for _, c := range cases {
		if joined, ok := impl.JoinHunks(l, c.a, c.b); len(joined) != 0 || ok {
			t.Errorf("%s: %#v, %v", c.name, joined, ok)
		}
	}
	// Good for what comes of a, though not for what was there.
	joined, ok := impl.JoinHunks(l, hunks{{At: 2, New: []string{"c\n"}}}, hunks{{At: 2, Gone: 1, New: []string{"d\n"}}})
	checkHunks(t, "good for what comes", joined, ok, hunks{{At: 2, New: []string{"d\n"}}})
}

func TestJoinUpToMostHunks(t *testing.T) {
	l := manyLines(impl.MaxLines)
	var a, b hunks
	for i := range impl.MaxHunks {
		k := impl.Hunk{At: 2 * i, Gone: 1, New: []string{"x\n"}}
		if i%2 == 0 {
			a = append(a, k)
		} else {
			b = append(b, k)
		}
	}
	joined, ok := impl.JoinHunks(l, a, b)
	checkHunks(t, "most", joined, ok, everySecond(impl.MaxHunks, 1, []string{"x\n"}))

	all := everySecond(impl.MaxHunks, 1, nil)
	half := manyLines(impl.MaxLines / 2)
	end := impl.Hunk{At: len(half), New: []string{"x\n"}}
	if made, ok := impl.Patch(half, hunks{end}); !ok || len(made) != len(half)+1 {
		t.Fatalf("both can be done, one behind the other: %#v, %v", made, ok)
	}
	checkPatch(t, "every second goes", l, all, half)
	if joined, ok := impl.JoinHunks(l, all, hunks{end}); len(joined) != 0 || ok {
		t.Errorf("one more: %#v, %v", joined, ok)
	}
	joined, ok = impl.JoinHunks(l, all[1:], hunks{{At: len(half) + 1, New: []string{"x\n"}}})
	want := append(slices.Clone(all[1:]), impl.Hunk{At: impl.MaxLines, New: []string{"x\n"}})
	checkHunks(t, "most, with one at the end", joined, ok, want)
}

// joinOf goes over lines of which each tells from where it came.
func joinOf(l []string, a, b hunks) hunks {
	return gapsOf(len(l), change(change(markedOf(l), a), b))
}

// gapsOf makes a hunk of all that is between two lines that follow one another and came from many lines.
func gapsOf(many int, last []marked) hunks {
	var all hunks
	k := impl.Hunk{}
	end := func(place int) {
		k.Gone = place - k.At
		if k.Gone > 0 || len(k.New) > 0 {
			all = append(all, k)
		}
		k = impl.Hunk{At: place + 1}
	}
	for _, m := range last {
		if m.from < 0 {
			k.New = append(k.New, m.line)
		} else {
			end(m.from)
		}
	}
	end(many)
	return all
}

func TestJoinOfAllSmallHunks(t *testing.T) {
	news := [][]string{nil, {"x\n"}, {"x"}, {"y\n", "x\n"}}
	for _, l := range smallTexts() {
		for _, a := range hunksFor(len(l), news) {
			between, ok := impl.Patch(l, a)
			if !ok || len(between) > 3 {
				continue
			}
			for _, b := range hunksFor(len(between), news) {
				last, good := impl.Patch(between, b)
				joined, ok := impl.JoinHunks(l, a, b)
				if ok != good || !ok && len(joined) != 0 {
					t.Fatalf("JoinHunks(%#v, %#v, %#v) = %#v, %v", l, a, b, joined, ok)
				}
				if !good {
					continue
				}
				checkHunks(t, "small", joined, ok, joinOf(l, a, b))
				checkPatch(t, "small, at once", l, joined, last)
			}
		}
	}
}

func TestJoinWithBack(t *testing.T) {
	for _, l := range smallTexts() {
		for _, h := range hunksFor(len(l), smallNews()) {
			back, good := impl.BackHunks(l, h)
			if !good {
				continue
			}
			joined, ok := impl.JoinHunks(l, h, back)
			if !ok {
				t.Fatalf("JoinHunks(%#v, %#v, %#v)", l, h, back)
			}
			checkPatch(t, "there and back", l, joined, l)
			kept, ok := impl.TrimHunks(l, joined)
			checkHunks(t, "there and back, trimmed", kept, ok, nil)
		}
	}
}

func TestCountHunks(t *testing.T) {
	cases := []struct {
		name       string
		h          hunks
		gone, come int
	}{
		{"none", nil, 0, 0},
		{"only what goes", hunks{{Gone: 3}, {At: 5, Gone: 4}}, 7, 0},
		{"only what comes", hunks{{New: manyLines(3)}, {At: 5, New: manyLines(1)}}, 0, 4},
		{"both", hunks{{Gone: 2, New: manyLines(3)}, {At: 5, Gone: 1, New: manyLines(1)}}, 3, 4},
		{"hunks with nothing", hunks{{}, {}}, 0, 0},
		{"any place", hunks{{At: -7, Gone: 1}, {At: -7, Gone: 1}}, 2, 0},
		{"any lines", hunks{{New: []string{"", "\n\n", "x"}}}, 0, 3},
		{"more than most lines", hunks{{Gone: 1000, New: manyLines(impl.MaxLines + 1)}}, 1000, impl.MaxLines + 1},
	}
	for _, c := range cases {
		if gone, come, ok := impl.CountHunks(c.h); gone != c.gone || come != c.come || !ok {
			t.Errorf("%s: CountHunks(%#v) = %d, %d, %v", c.name, c.h, gone, come, ok)
		}
	}
}

func TestPlaceOf(t *testing.T) {
	h := hunks{{At: 1, Gone: 2, New: []string{"x\n"}}, {At: 4, New: []string{"y\n", "z\n"}}, {At: 6, Gone: 1}}
	want := []int{0, -1, -1, 2, 5, 6, -1, 7, 8}
	for k, place := range want {
		n, ok := impl.PlaceOf(h, len(want)-1, k)
		if place < 0 && (n != 0 || ok) || place >= 0 && (n != place || !ok) {
			t.Errorf("PlaceOf %d = %d, %v, not %d", k, n, ok, place)
		}
	}
	cases := []struct {
		name    string
		h       hunks
		many, k int
		want    int
	}{
		{"0 of none", nil, 0, 0, 0},
		{"0, nothing ahead", nil, 3, 0, 0},
		{"0, lines come ahead", hunks{{New: []string{"x\n", "y\n"}}}, 3, 0, 2},
		{"many, no hunks", nil, 3, 3, 3},
		{"many, lines come behind", hunks{{At: 3, New: []string{"x\n"}}}, 3, 3, 4},
		{"many, the last line goes", hunks{{At: 2, Gone: 1}}, 3, 3, 2},
		{"many, all go", hunks{{Gone: 3}}, 3, 3, 0},
		{"many, lines come to none", hunks{{New: []string{"x\n"}}}, 0, 0, 1},
		{"right ahead of what goes", hunks{{At: 2, Gone: 1}}, 3, 1, 1},
		{"right behind what goes", hunks{{At: 0, Gone: 2}}, 3, 2, 0},
		{"most lines", hunks{{Gone: 1}}, impl.MaxLines, impl.MaxLines, impl.MaxLines - 1},
		{"whether or not Patch tells true", hunks{{New: manyLines(impl.MaxLines)}, {At: 1, New: []string{"x"}}}, 2, 1, impl.MaxLines + 2},
	}
	for _, c := range cases {
		if n, ok := impl.PlaceOf(c.h, c.many, c.k); n != c.want || !ok {
			t.Errorf("%s: PlaceOf(%#v, %d, %d) = %d, %v, not %d", c.name, c.h, c.many, c.k, n, ok, c.want)
		}
	}
}

func TestPlaceOfAllSmallHunks(t *testing.T) {
	for many := 0; many <= 3; many++ {
		for _, h := range hunksFor(many, smallNews()) {
			// One line more stands for the place behind all; where hunks change at that place they come ahead of it.
			made := change(markedOf(manyLines(many+1)), h)
			for k := 0; k <= many; k++ {
				want := slices.IndexFunc(made, func(m marked) bool { return m.from == k })
				n, ok := impl.PlaceOf(h, many, k)
				if want < 0 && (n != 0 || ok) || want >= 0 && (n != want || !ok) {
					t.Fatalf("PlaceOf(%#v, %d, %d) = %d, %v, not %d", h, many, k, n, ok, want)
				}
			}
		}
	}
}

func TestSameHunks(t *testing.T) {
	one := impl.Hunk{At: 1, Gone: 2, New: []string{"x\n", "y\n"}}
	// Any two by place are unlike in one thing; most are no good hunks.
	lists := []hunks{
		nil,
		{{}},
		{one},
		{{At: 2, Gone: 2, New: one.New}},
		{{At: 1, Gone: 3, New: one.New}},
		{{At: 1, Gone: 2}},
		{{At: 1, Gone: 2, New: one.New[:1]}},
		{{At: 1, Gone: 2, New: []string{"x\n", "y"}}},
		{{At: 1, Gone: 2, New: []string{"y\n", "x\n"}}},
		{{At: 1, Gone: 2, New: []string{"x\n", "y\n", ""}}},
		{{At: -1, Gone: -2, New: one.New}},
		{one, one},
		{one, {}},
		{{}, one},
		slices.Repeat(hunks{one}, impl.MaxHunks+1),
		slices.Repeat(hunks{one}, impl.MaxHunks+2),
	}
	for i, a := range lists {
		for j, b := range lists {
			if impl.SameHunks(a, b) != (i == j) {
				t.Errorf("SameHunks(%#v, %#v) is not %v", a, b, i == j)
			}
		}
	}
	if !impl.SameHunks(nil, hunks{}) || !impl.SameHunks(hunks{{New: nil}}, hunks{{New: []string{}}}) {
		t.Error("an empty list and none are not the same")
	}
	own := hunks{{At: 1, Gone: 2, New: []string{"x\n", "y\n"}}}
	if !impl.SameHunks(own, hunks{one}) {
		t.Error("the same in other memory are not the same")
	}
}
