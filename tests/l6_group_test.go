package tests

import (
	"fmt"
	"slices"
	"strings"
	"testing"

	"loop.example/g00825/impl"
)

type groups = []impl.Group

// rowsBy makes a row of each sign and letter: "=" stays, "-" goes, "+" comes; a letter behind a dot has no end.
func rowsBy(signs string) []impl.Row {
	kinds := map[byte]int{'=': impl.RwKeep, '-': impl.RwGone, '+': impl.RwNew}
	var rows []impl.Row
	for i := 0; i < len(signs); i += 2 {
		kind, end := kinds[signs[i]], "\n"
		if signs[i+1] == '.' {
			i, end = i+1, ""
		}
		rows = append(rows, impl.Row{Kind: kind, Line: signs[i+1:i+2] + end})
	}
	return rows
}

func groupBy(at, to int, signs string) impl.Group {
	return impl.Group{At: at, To: to, Rows: rowsBy(signs)}
}

func alikeGroups(a, b groups) bool {
	return slices.EqualFunc(a, b, func(j, k impl.Group) bool {
		return j.At == k.At && j.To == k.To && slices.Equal(j.Rows, k.Rows)
	})
}

// linesBut are the lines of the rows that are not of a kind.
func linesBut(kind int, g impl.Group) []string {
	var l []string
	for _, row := range g.Rows {
		if row.Kind != kind {
			l = append(l, row.Line)
		}
	}
	return l
}

func oldLines(g impl.Group) []string { return linesBut(impl.RwNew, g) }
func newLines(g impl.Group) []string { return linesBut(impl.RwGone, g) }

// isNear says whether a line that stays is at most width lines away from what is changed.
func isNear(h hunks, width, line int) bool {
	return slices.ContainsFunc(h, func(k impl.Hunk) bool {
		return k.At-width <= line && line < k.At+k.Gone+width
	})
}

// groupsBy are the groups of hunks, made line by line: one ends where a line stays that is not near.
func groupsBy(l []string, h hunks, width int) groups {
	var g groups
	within, at, to := false, 0, 0
	add := func(kind int, lines ...string) {
		for _, line := range lines {
			if !within {
				g, within = append(g, impl.Group{At: at, To: to}), true
			}
			k := &g[len(g)-1]
			k.Rows = append(k.Rows, impl.Row{Kind: kind, Line: line})
			if kind != impl.RwNew {
				at++
			}
			if kind != impl.RwGone {
				to++
			}
		}
	}
	for {
		here := slices.IndexFunc(h, func(k impl.Hunk) bool { return k.At == at })
		if here >= 0 {
			add(impl.RwGone, l[at:at+h[here].Gone]...)
			add(impl.RwNew, h[here].New...)
		}
		switch {
		case at == len(l):
			return g
		case isNear(h, width, at):
			add(impl.RwKeep, l[at])
		default:
			within, at, to = false, at+1, to+1
		}
	}
}

// runsBy are the hunks of a group, found row by row.
func runsBy(g impl.Group) hunks {
	var h hunks
	at := g.At
	for i, row := range g.Rows {
		if row.Kind == impl.RwKeep {
			at++
			continue
		}
		if i == 0 || g.Rows[i-1].Kind == impl.RwKeep {
			h = append(h, impl.Hunk{At: at})
		}
		k := &h[len(h)-1]
		if row.Kind == impl.RwGone {
			k.Gone++
			at++
		} else {
			k.New = append(k.New, row.Line)
		}
	}
	return h
}

// codeOfGroups is what GroupHunks tells of good lines and good groups.
func codeOfGroups(l []string, g groups) (hunks, int) {
	var h hunks
	far, other, more := false, false, 0
	for _, k := range g {
		old := oldLines(k)
		far = far || k.At+len(old) > len(l)
		for i, line := range old {
			other = other || k.At+i >= len(l) || l[k.At+i] != line
		}
		other = other || k.To-k.At != more
		more += len(newLines(k)) - len(old)
		h = append(h, runsBy(k)...)
	}
	switch {
	case far:
		return nil, impl.PtFar
	case other:
		return nil, impl.PtOther
	}
	return h, 0
}

// widthBy is the greatest number of rows that stay at either end of a group.
func widthBy(g groups) int {
	most := 0
	for _, k := range g {
		signs := ""
		for _, row := range k.Rows {
			signs += fmt.Sprint(row.Kind)
		}
		ahead := len(signs) - len(strings.TrimLeft(signs, "1"))
		behind := len(signs) - len(strings.TrimRight(signs, "1"))
		most = max(most, ahead, behind)
	}
	return most
}

// shifted are groups with each At and To more by those told.
func shifted(g groups, at, to int) groups {
	all := slices.Clone(g)
	for i := range all {
		all[i].At += at
		all[i].To += to
	}
	return all
}

// splitBy is what a good group is split into.
func splitBy(g impl.Group, width int) groups {
	alone := g
	alone.At = 0
	return shifted(groupsBy(oldLines(g), runsBy(alone), width), g.At, g.To)
}

// checkGroups expects these groups, that they are good, and that they have the hunks of which they were made.
func checkGroups(t *testing.T, name string, l []string, h hunks, width int, want groups) {
	t.Helper()
	if g, ok := impl.GroupsOf(l, h, width); !ok || !alikeGroups(g, want) {
		t.Errorf("%s: GroupsOf(%#v, %#v, %d) = %v, %v, not %v", name, l, h, width, g, ok, want)
	}
	if !impl.GoodGroups(want) {
		t.Errorf("%s: not good: %v", name, want)
	}
	checkGroupCode(t, name, l, want, h, 0)
	for _, k := range want {
		checkSides(t, name, k)
		checkSplit(t, name+", split as it is", k, width, groups{k})
	}
	checkWidth(t, name, want, widthBy(want))
}

func checkGroupCode(t *testing.T, name string, l []string, g groups, want hunks, code int) {
	t.Helper()
	if h, got, ok := impl.GroupHunks(l, g); !alike(h, want) || got != code || !ok {
		t.Errorf("%s: GroupHunks(%#v, %v) = %#v, %d, %v, not %#v, %d", name, l, g, h, got, ok, want, code)
	}
}

func checkSides(t *testing.T, name string, g impl.Group) {
	t.Helper()
	if old, ok := impl.OldOf(g); !slices.Equal(old, oldLines(g)) || !ok {
		t.Errorf("%s: OldOf(%v) = %q, %v", name, g, old, ok)
	}
	if lines, ok := impl.NewOf(g); !slices.Equal(lines, newLines(g)) || !ok {
		t.Errorf("%s: NewOf(%v) = %q, %v", name, g, lines, ok)
	}
}

func checkWidth(t *testing.T, name string, g groups, want int) {
	t.Helper()
	if n, ok := impl.WidthOf(g); n != want || !ok {
		t.Errorf("%s: WidthOf(%v) = %d, %v, not %d", name, g, n, ok, want)
	}
}

func checkSplit(t *testing.T, name string, g impl.Group, width int, want groups) {
	t.Helper()
	if parts, ok := impl.SplitGroup(g, width); !alikeGroups(parts, want) || !ok {
		t.Errorf("%s: SplitGroup(%v, %d) = %v, %v, not %v", name, g, width, parts, ok, want)
	}
}

// groupCase is what hunks for lines are as groups.
type groupCase struct {
	name  string
	l     []string
	h     hunks
	width int
	want  groups
}

func oneGroupCases() []groupCase {
	l, x, xy := linesBy("abcde"), linesBy("x"), linesBy("xy")
	return []groupCase{
		{"no hunks", l, nil, 1, nil},
		{"no hunks, no width", l, nil, 0, nil},
		{"no lines, no hunks", nil, nil, 3, nil},
		{"lines come to none", nil, hunks{{New: xy}}, 0, groups{groupBy(0, 0, "+x+y")}},
		{"lines come to none, with a width", nil, hunks{{New: xy}}, 20, groups{groupBy(0, 0, "+x+y")}},
		{"the first goes", l, hunks{{Gone: 1}}, 0, groups{groupBy(0, 0, "-a")}},
		{"the first goes, one around", l, hunks{{Gone: 1}}, 1, groups{groupBy(0, 0, "-a=b")}},
		{"one comes first", l, hunks{{New: x}}, 0, groups{groupBy(0, 0, "+x")}},
		{"one comes first, two around", l, hunks{{New: x}}, 2, groups{groupBy(0, 0, "+x=a=b")}},
		{"the first is changed", l, hunks{{Gone: 1, New: xy}}, 1, groups{groupBy(0, 0, "-a+x+y=b")}},
		{"one within goes", l, hunks{{At: 2, Gone: 1}}, 0, groups{groupBy(2, 2, "-c")}},
		{"one within goes, one around", l, hunks{{At: 2, Gone: 1}}, 1, groups{groupBy(1, 1, "=b-c=d")}},
		{"one comes within", l, hunks{{At: 2, New: x}}, 0, groups{groupBy(2, 2, "+x")}},
		{"one comes within, one around", l, hunks{{At: 2, New: x}}, 1, groups{groupBy(1, 1, "=b+x=c")}},
		{"two within are changed", l, hunks{{At: 1, Gone: 2, New: x}}, 1, groups{groupBy(0, 0, "=a-b-c+x=d")}},
		{"the last goes", l, hunks{{At: 4, Gone: 1}}, 0, groups{groupBy(4, 4, "-e")}},
		{"the last goes, two around", l, hunks{{At: 4, Gone: 1}}, 2, groups{groupBy(2, 2, "=c=d-e")}},
		{"two come behind the last", l, hunks{{At: 5, New: xy}}, 0, groups{groupBy(5, 5, "+x+y")}},
		{"two come behind the last, one around", l, hunks{{At: 5, New: xy}}, 1, groups{groupBy(4, 4, "=e+x+y")}},
		{"all go", l, hunks{{Gone: 5}}, 0, groups{groupBy(0, 0, "-a-b-c-d-e")}},
		{"all go, with a width", l, hunks{{Gone: 5}}, 3, groups{groupBy(0, 0, "-a-b-c-d-e")}},
		{"all are others", l, hunks{{Gone: 5, New: xy}}, 1, groups{groupBy(0, 0, "-a-b-c-d-e+x+y")}},
		{"all are the same again", l[:2], hunks{{Gone: 2, New: l[:2]}}, 1, groups{groupBy(0, 0, "-a-b+a+b")}},
		{"the width is just up to both ends", l, hunks{{At: 2, Gone: 1}}, 2, groups{groupBy(0, 0, "=a=b-c=d=e")}},
		{"the width is beyond both ends", l, hunks{{At: 2, Gone: 1}}, 3, groups{groupBy(0, 0, "=a=b-c=d=e")}},
		{"the width is beyond the beginning", l, hunks{{At: 1, New: x}}, 3, groups{groupBy(0, 0, "=a+x=b=c=d")}},
		{"the width is beyond the end", l, hunks{{At: 4, New: x}}, 3, groups{groupBy(1, 1, "=b=c=d+x=e")}},
		{"the greatest width", l, hunks{{At: 3, Gone: 1, New: x}}, impl.MaxWidth, groups{groupBy(0, 0, "=a=b=c-d+x=e")}},
	}
}

func manyGroupCases() []groupCase {
	l, x, xy := linesBy("abcdefgh"), linesBy("x"), linesBy("xy")
	return []groupCase{
		{"no width, one line between", l, hunks{{Gone: 1}, {At: 2, Gone: 1}}, 0, groups{groupBy(0, 0, "-a"), groupBy(2, 1, "-c")}},
		{"one around, one line between", l, hunks{{Gone: 1}, {At: 2, Gone: 1}}, 1, groups{groupBy(0, 0, "-a=b-c=d")}},
		{"one around, two lines between", l, hunks{{Gone: 1}, {At: 3, Gone: 1}}, 1, groups{groupBy(0, 0, "-a=b=c-d=e")}},
		{"one around, three lines between", l, hunks{{Gone: 1}, {At: 4, Gone: 1}}, 1, groups{groupBy(0, 0, "-a=b"), groupBy(3, 2, "=d-e=f")}},
		{"two around, four lines between", l, hunks{{New: x}, {At: 4, New: x}}, 2, groups{groupBy(0, 0, "+x=a=b=c=d+x=e=f")}},
		{"two around, five lines between", l, hunks{{New: x}, {At: 5, New: x}}, 2, groups{groupBy(0, 0, "+x=a=b"), groupBy(3, 4, "=d=e+x=f=g")}},
		{"two around, four between what is changed", l, hunks{{Gone: 2, New: x}, {At: 6, Gone: 1, New: xy}}, 2, groups{groupBy(0, 0, "-a-b+x=c=d=e=f-g+x+y=h")}},
		{"two around, five between what is changed", l, hunks{{Gone: 2, New: x}, {At: 7, Gone: 1, New: xy}}, 2,
			groups{groupBy(0, 0, "-a-b+x=c=d"), groupBy(5, 4, "=f=g-h+x+y")}},
		{"behind one that brings two", l, hunks{{New: xy}, {At: 4, Gone: 1}}, 1, groups{groupBy(0, 0, "+x+y=a"), groupBy(3, 5, "=d-e=f")}},
		{"behind one that takes two", l, hunks{{Gone: 2}, {At: 5, New: x}}, 1, groups{groupBy(0, 0, "-a-b=c"), groupBy(4, 2, "=e+x=f")}},
		{"behind one that changes two for two", l, hunks{{Gone: 2, New: xy}, {At: 5, New: x}}, 0, groups{groupBy(0, 0, "-a-b+x+y"), groupBy(5, 5, "+x")}},
		{"three, less and more", l, hunks{{Gone: 1}, {At: 4, New: xy}, {At: 7, Gone: 1}}, 1,
			groups{groupBy(0, 0, "-a=b"), groupBy(3, 2, "=d+x+y=e"), groupBy(6, 7, "=g-h")}},
		{"the first two of three in one", l, hunks{{Gone: 1}, {At: 2, New: xy}, {At: 6, Gone: 1}}, 1,
			groups{groupBy(0, 0, "-a=b+x+y=c"), groupBy(5, 6, "=f-g=h")}},
		{"the last two of three in one", l, hunks{{New: x}, {At: 5, Gone: 1}, {At: 7, Gone: 1, New: x}}, 1,
			groups{groupBy(0, 0, "+x=a"), groupBy(4, 5, "=e-f=g-h+x")}},
		{"each near the next, all in one", l, hunks{{New: x}, {At: 2, New: x}, {At: 4, New: x}, {At: 6, New: x}, {At: 8, New: x}}, 1,
			groups{groupBy(0, 0, "+x=a=b+x=c=d+x=e=f+x=g=h+x")}},
		{"all in one, the greatest width", l, hunks{{Gone: 1}, {At: 8, New: x}}, impl.MaxWidth, groups{groupBy(0, 0, "-a=b=c=d=e=f=g=h+x")}},
	}
}

// openGroupCases have a last line without an end.
func openGroupCases() []groupCase {
	l := linesBy("ab.c")
	return []groupCase{
		{"it stays, near", l, hunks{{At: 1, Gone: 1}}, 1, groups{groupBy(0, 0, "=a-b=.c")}},
		{"it stays, far", l, hunks{{Gone: 1}}, 1, groups{groupBy(0, 0, "-a=b")}},
		{"it goes", l, hunks{{At: 2, Gone: 1}}, 1, groups{groupBy(1, 1, "=b-.c")}},
		{"all go", l, hunks{{Gone: 3}}, 1, groups{groupBy(0, 0, "-a-b-.c")}},
		{"it comes", linesBy("ab"), hunks{{At: 2, New: linesBy(".c")}}, 1, groups{groupBy(1, 1, "=b+.c")}},
		{"it comes to none", nil, hunks{{New: l}}, 1, groups{groupBy(0, 0, "+a+b+.c")}},
		{"one goes, and one comes", l, hunks{{At: 2, Gone: 1, New: linesBy(".d")}}, 1, groups{groupBy(1, 1, "=b-.c+.d")}},
		{"its end comes", l, hunks{{At: 2, Gone: 1, New: linesBy("c")}}, 0, groups{groupBy(2, 2, "-.c+c")}},
		{"its end goes", linesBy("abc"), hunks{{At: 2, Gone: 1, New: linesBy(".c")}}, 0, groups{groupBy(2, 2, "-c+.c")}},
		{"more come behind it", l, hunks{{At: 2, Gone: 1, New: linesBy("c.d")}}, 0, groups{groupBy(2, 2, "-.c+c+.d")}},
	}
}

func TestGroupsOf(t *testing.T) {
	for _, c := range slices.Concat(oneGroupCases(), manyGroupCases(), openGroupCases()) {
		checkGroups(t, c.name, c.l, c.h, c.width, c.want)
		if g := groupsBy(c.l, c.h, c.width); !alikeGroups(g, c.want) {
			t.Errorf("%s: the model tells %v, not %v", c.name, g, c.want)
		}
	}
}

// Hunks that are groups with a width are, split, the groups with each lesser one.
func checkSplitOfAll(t *testing.T, l []string, h hunks, width int) {
	t.Helper()
	for less := range width {
		var parts groups
		for _, k := range groupsBy(l, h, width) {
			split, ok := impl.SplitGroup(k, less)
			if !ok {
				t.Errorf("SplitGroup(%v, %d) tells false", k, less)
			}
			parts = append(parts, split...)
		}
		if want := groupsBy(l, h, less); !alikeGroups(parts, want) {
			t.Errorf("from %d to %d: %v, not %v", width, less, parts, want)
		}
	}
}

// checkStanding expects the lines of groups to stand where they say, in the old text and in the new one.
func checkStanding(t *testing.T, l, made []string, g groups) {
	t.Helper()
	for _, k := range g {
		old, _ := impl.OldOf(k)
		lines, _ := impl.NewOf(k)
		if !slices.Equal(old, l[k.At:k.At+len(old)]) || !slices.Equal(lines, made[k.To:k.To+len(lines)]) {
			t.Errorf("%v does not stand in %q and %q", k, l, made)
		}
	}
}

func TestGroupsOfAllSmallHunks(t *testing.T) {
	for _, l := range smallTexts() {
		for _, h := range hunksFor(len(l), smallNews()) {
			made := plainOf(change(markedOf(l), h))
			for _, width := range []int{0, 1, 2, impl.MaxWidth} {
				if !impl.GoodLines(made) {
					checkNoGroups(t, "small", l, h, width)
					continue
				}
				g := groupsBy(l, h, width)
				checkGroups(t, "small", l, h, width, g)
				checkStanding(t, l, made, g)
			}
		}
	}
}

func TestGroupsOfAllHunksOfMoreLines(t *testing.T) {
	cases := []struct {
		l    []string
		news [][]string
	}{
		{linesBy("abcd"), [][]string{nil, {"x\n"}, {"x\n", "y\n"}}},
		{linesBy("aaaa"), [][]string{nil, {"a\n"}, {"a\n", "a\n"}}},
		{linesBy("abcdef"), [][]string{nil, {"x\n"}}},
	}
	for _, c := range cases {
		for _, h := range hunksFor(len(c.l), c.news) {
			made := plainOf(change(markedOf(c.l), h))
			for width := range 4 {
				g := groupsBy(c.l, h, width)
				checkGroups(t, "more", c.l, h, width, g)
				checkStanding(t, c.l, made, g)
				checkSplitOfAll(t, c.l, h, width)
			}
		}
	}
}

// What is between two hunks decides alone, at each width, whether they are one group.
func TestTwiceTheWidth(t *testing.T) {
	l := numbered("a", impl.MaxLines)
	for width := range impl.MaxWidth + 1 {
		for between := 1; between < impl.MaxLines; between++ {
			for first := 0; first+between < impl.MaxLines; first += 5 {
				for _, h := range []hunks{
					{{At: first, Gone: 1}, {At: first + 1 + between, Gone: impl.MaxLines - first - 1 - between}},
					{{At: first, Gone: 1, New: linesBy("x")}, {At: first + 1 + between, Gone: 0, New: linesBy("x")}},
				} {
					made := plainOf(change(markedOf(l), h))
					if !impl.GoodHunks(len(l), h) || !impl.GoodLines(made) {
						continue
					}
					g := groupsBy(l, h, width)
					if one := between <= 2*width; one != (len(g) == 1) {
						t.Fatalf("%d between, width %d: the model tells %d", between, width, len(g))
					}
					checkGroups(t, "two", l, h, width, g)
				}
			}
		}
	}
}

func TestMostGroups(t *testing.T) {
	l, x := numbered("a", impl.MaxLines), linesBy("x")
	for _, h := range []hunks{
		everySecond(impl.MaxHunks, 1, nil),
		everySecond(impl.MaxHunks, 1, x),
		{{Gone: impl.MaxLines, New: manyLines(impl.MaxLines)}},
		{{Gone: impl.MaxLines}},
		{{Gone: 1, New: x}, {At: impl.MaxLines - 1, Gone: 1, New: x}},
	} {
		for _, width := range []int{0, 1, impl.MaxWidth - 1, impl.MaxWidth} {
			checkGroups(t, "most", l, h, width, groupsBy(l, h, width))
		}
	}
	g, _ := impl.GroupsOf(l, hunks{{Gone: impl.MaxLines, New: manyLines(impl.MaxLines)}}, 3)
	if len(g) != 1 || len(g[0].Rows) != 2*impl.MaxLines {
		t.Errorf("not most rows: %v", g)
	}
	if g, _ := impl.GroupsOf(l, everySecond(impl.MaxHunks, 1, nil), 0); len(g) != impl.MaxHunks {
		t.Errorf("not most groups: %d", len(g))
	}
	none := everySecond(impl.MaxHunks, 0, x)
	checkGroups(t, "lines come at each second place", l[:20], none[:11], 0, groupsBy(l[:20], none[:11], 0))
	checkGroups(t, "most lines come", nil, hunks{{New: l}}, 1, groupsBy(nil, hunks{{New: l}}, 1))
}

func TestGroupsOfDiffs(t *testing.T) {
	for seed := range 40 {
		a, b := mixed(seed, 3, seed), mixed(impl.MaxLines-seed, 3, seed+7)
		h, ok := impl.DiffHunks(a, b)
		if !ok {
			continue
		}
		for width := range 6 {
			g := groupsBy(a, h, width)
			checkGroups(t, "of a difference", a, h, width, g)
			checkStanding(t, a, b, g)
			checkSplitOfAll(t, a, h, width)
		}
	}
}

// checkCodes expects the code, and beside 0 the hunks that the model tells.
func checkCodes(t *testing.T, name string, l []string, g groups, want int) {
	t.Helper()
	h, code := codeOfGroups(l, g)
	if code != want {
		t.Errorf("%s: the model tells %d, not %d", name, code, want)
	}
	if !impl.GoodGroups(g) {
		t.Errorf("%s: not good: %v", name, g)
	}
	checkGroupCode(t, name, l, g, h, want)
}

func TestGroupHunksTellsCodes(t *testing.T) {
	l := linesBy("abcd")
	cases := []struct {
		name string
		g    groups
		code int
	}{
		{"no groups", nil, 0},
		{"all lines", groups{groupBy(0, 0, "=a-b+x=c=d+y")}, 0},
		{"all lines go", groups{groupBy(0, 0, "-a-b-c-d")}, 0},
		{"up to the last", groups{groupBy(2, 2, "=c-d")}, 0},
		{"behind the last", groups{groupBy(4, 4, "+x")}, 0},
		{"two that fit", groups{groupBy(0, 0, "-a"), groupBy(2, 1, "=c+x=d")}, 0},
		{"two side by side", groups{groupBy(0, 0, "=a+x"), groupBy(1, 2, "=b-c")}, 0},
		{"what is behind line 5", groups{groupBy(5, 5, "+x")}, impl.PtFar},
		{"line 5 goes", groups{groupBy(4, 4, "-e")}, impl.PtFar},
		{"line 5 stays", groups{groupBy(3, 3, "-d=e")}, impl.PtFar},
		{"a line more", groups{groupBy(0, 0, "=a-b=c=d=e")}, impl.PtFar},
		{"line 1000 goes", groups{groupBy(999, 999, "-e")}, impl.PtFar},
		{"far, and To is another", groups{groupBy(5, 9, "+x")}, impl.PtFar},
		{"far, and other lines", groups{groupBy(3, 3, "-x=y")}, impl.PtFar},
		{"the second is far", groups{groupBy(0, 0, "-a"), groupBy(3, 2, "=d-e")}, impl.PtFar},
		{"the second is far, the first another", groups{groupBy(0, 0, "-x"), groupBy(3, 2, "=d-e")}, impl.PtFar},
		{"the second is far, the first To is another", groups{groupBy(0, 1, "-a"), groupBy(3, 3, "=d-e")}, impl.PtFar},
		{"the third is far, the second another", groups{groupBy(0, 0, "-a"), groupBy(1, 0, "-x"), groupBy(4, 2, "=e+x")}, impl.PtFar},
		{"another goes", groups{groupBy(1, 1, "-x")}, impl.PtOther},
		{"another stays", groups{groupBy(1, 1, "=x-c")}, impl.PtOther},
		{"another stays at the end", groups{groupBy(1, 1, "=b-c=x")}, impl.PtOther},
		{"one line further", groups{groupBy(2, 2, "=b-c")}, impl.PtOther},
		{"one line less far", groups{groupBy(0, 0, "=b-c")}, impl.PtOther},
		{"one without an end", groups{groupBy(3, 3, "-.d")}, impl.PtOther},
		{"To is more", groups{groupBy(1, 2, "-b")}, impl.PtOther},
		{"To is less", groups{groupBy(1, 0, "-b")}, impl.PtOther},
		{"To is more, lines come", groups{groupBy(4, 5, "+x")}, impl.PtOther},
		{"To is much more", groups{groupBy(1, 999, "-b")}, impl.PtOther},
		{"what went ahead is not counted", groups{groupBy(0, 0, "-a"), groupBy(2, 2, "-c")}, impl.PtOther},
		{"what came ahead is not counted", groups{groupBy(0, 0, "+x=a"), groupBy(2, 2, "-c")}, impl.PtOther},
		{"what came ahead is counted twice", groups{groupBy(0, 0, "+x=a"), groupBy(2, 4, "-c")}, impl.PtOther},
		{"what goes by itself is counted", groups{groupBy(1, 0, "-b")}, impl.PtOther},
		{"the first alone is another", groups{groupBy(0, 0, "-x"), groupBy(2, 1, "-c")}, impl.PtOther},
		{"the last alone is another", groups{groupBy(0, 0, "-a"), groupBy(2, 1, "-x")}, impl.PtOther},
		{"the last alone has another To", groups{groupBy(0, 0, "-a"), groupBy(1, 0, "-b"), groupBy(3, 2, "-d")}, impl.PtOther},
	}
	for _, c := range cases {
		checkCodes(t, c.name, l, c.g, c.code)
	}
	checkCodes(t, "no groups for no lines", nil, nil, 0)
	checkCodes(t, "one comes to no lines", nil, groups{groupBy(0, 0, "+x")}, 0)
	checkCodes(t, "one comes to no lines, one further", nil, groups{groupBy(1, 1, "+x")}, impl.PtFar)
	checkCodes(t, "one comes to no lines, to one further", nil, groups{groupBy(0, 1, "+x")}, impl.PtOther)
	checkCodes(t, "one goes of no lines", nil, groups{groupBy(0, 0, "-x")}, impl.PtFar)
	checkCodes(t, "a last line without an end", linesBy("a.b"), groups{groupBy(1, 1, "-.b+b")}, 0)
	checkCodes(t, "an end that is not there", linesBy("a.b"), groups{groupBy(1, 1, "-b")}, impl.PtOther)
}

func TestRunsOfRows(t *testing.T) {
	x, y, xy := linesBy("x"), linesBy("y"), linesBy("xy")
	cases := []struct {
		name string
		g    groups
		want hunks
	}{
		{"one goes", groups{groupBy(1, 1, "-b")}, hunks{{At: 1, Gone: 1}}},
		{"two go", groups{groupBy(1, 1, "-b-c")}, hunks{{At: 1, Gone: 2}}},
		{"one comes", groups{groupBy(1, 1, "+x")}, hunks{{At: 1, New: x}}},
		{"two come", groups{groupBy(1, 1, "+x+y")}, hunks{{At: 1, New: xy}}},
		{"both", groups{groupBy(1, 1, "-b+x+y")}, hunks{{At: 1, Gone: 1, New: xy}}},
		{"both, with lines around", groups{groupBy(0, 0, "=a-b-c+x=d")}, hunks{{At: 1, Gone: 2, New: x}}},
		{"lines around that come behind", groups{groupBy(1, 1, "=b=c+x=d=e")}, hunks{{At: 3, New: x}}},
		{"two runs", groups{groupBy(0, 0, "-a=b-c")}, hunks{{Gone: 1}, {At: 2, Gone: 1}}},
		{"two runs that come", groups{groupBy(0, 0, "+x=a+y")}, hunks{{New: x}, {At: 1, New: y}}},
		{"one goes, one comes", groups{groupBy(0, 0, "-a=b+x")}, hunks{{Gone: 1}, {At: 2, New: x}}},
		{"one comes, one goes", groups{groupBy(0, 0, "+x=a-b")}, hunks{{New: x}, {At: 1, Gone: 1}}},
		{"three runs", groups{groupBy(0, 0, "=a-b+x=c+y=d-e=f")}, hunks{{At: 1, Gone: 1, New: x}, {At: 3, New: y}, {At: 4, Gone: 1}}},
		{"runs of two groups", groups{groupBy(0, 0, "-a=b+x"), groupBy(3, 3, "=d-e+y=f")}, hunks{{Gone: 1}, {At: 2, New: x}, {At: 4, Gone: 1, New: y}}},
		{"groups that touch, what goes", groups{groupBy(0, 0, "-a"), groupBy(1, 0, "-b")}, hunks{{Gone: 1}, {At: 1, Gone: 1}}},
		{"groups that touch, what comes", groups{groupBy(1, 1, "+x"), groupBy(1, 2, "+y")}, hunks{{At: 1, New: x}, {At: 1, New: y}}},
		{"groups that touch, one goes behind one that came", groups{groupBy(0, 0, "=a+x"), groupBy(1, 2, "-b")}, hunks{{At: 1, New: x}, {At: 1, Gone: 1}}},
		{"the same line comes again", groups{groupBy(0, 0, "-a+a=b")}, hunks{{Gone: 1, New: linesBy("a")}}},
	}
	for _, c := range cases {
		checkGroupCode(t, c.name, linesBy("abcdef"), c.g, c.want, 0)
		checkCodes(t, c.name, linesBy("abcdef"), c.g, 0)
	}
}

// runsUpTo is a group with n runs, with one line that stays between two of them; the first ones take a line away, as many as told, the others bring one.
func runsUpTo(n, gone int) impl.Group {
	signs := ""
	for i := range n {
		if i > 0 {
			signs += "=k"
		}
		if i < gone {
			signs += "-g"
		} else {
			signs += "+n"
		}
	}
	return groupBy(0, 0, signs)
}

// A good group may have more runs than there may be hunks; these can not be told then.
func TestMoreRunsThanHunks(t *testing.T) {
	for n := 1; n <= impl.MaxHunks; n++ {
		g := runsUpTo(n, n/2)
		checkCodes(t, "few enough", oldLines(g), groups{g}, 0)
		checkSplit(t, "few enough", g, 0, splitBy(g, 0))
		checkSplit(t, "few enough, whole", g, 1, groups{g})
	}
	for n := impl.MaxHunks + 1; n <= 27; n++ {
		g := runsUpTo(n, n/2)
		if !impl.GoodGroups(groups{g}) {
			t.Fatalf("not good with %d", n)
		}
		l := oldLines(g)
		checkNoRuns(t, "too many", l, groups{g})
		checkNoParts(t, "too many", g, 0)
		checkNoParts(t, "too many", g, impl.MaxWidth)
		checkCodes(t, "too many, and far", l[1:], groups{g}, impl.PtFar)
		checkCodes(t, "too many, and another", l, shifted(groups{g}, 0, 1), impl.PtOther)
		checkSides(t, "too many", g)
		checkWidth(t, "too many", groups{g}, 0)
	}
	for _, n := range []int{impl.MaxHunks / 2, impl.MaxHunks/2 + 1} {
		first, second := runsUpTo(impl.MaxHunks/2, impl.MaxHunks/2), runsUpTo(n, 0)
		second.At, second.To = len(oldLines(first)), len(newLines(first))
		g, l := groups{first, second}, slices.Concat(oldLines(first), oldLines(second))
		if n+impl.MaxHunks/2 <= impl.MaxHunks {
			checkCodes(t, "few enough of two groups", l, g, 0)
		} else {
			checkNoRuns(t, "too many of two groups", l, g)
		}
	}
}

func TestOldOfAndNewOf(t *testing.T) {
	cases := []struct {
		name   string
		g      impl.Group
		old, n []string
	}{
		{"one goes", groupBy(3, 5, "-a"), linesBy("a"), nil},
		{"one comes", groupBy(3, 5, "+a"), nil, linesBy("a")},
		{"both", groupBy(3, 5, "-a+b"), linesBy("a"), linesBy("b")},
		{"all kinds", groupBy(3, 5, "=a-b+c=d+e=f-g"), linesBy("abdfg"), linesBy("acdef")},
		{"no end of both", groupBy(0, 0, "=a-.b+.c"), linesBy("a.b"), linesBy("a.c")},
		{"no end of one that stays", groupBy(0, 0, "-a+b=.c"), linesBy("a.c"), linesBy("b.c")},
		{"no end of the old", groupBy(0, 0, "-.a+b+c"), linesBy(".a"), linesBy("bc")},
		{"no end of the new", groupBy(0, 0, "-a-b+.c"), linesBy("ab"), linesBy(".c")},
		{"no end of one that goes, within", groupBy(0, 0, "=a-.b+b"), linesBy("a.b"), linesBy("ab")},
	}
	for _, c := range cases {
		old, ok := impl.OldOf(c.g)
		if !slices.Equal(old, c.old) || !ok {
			t.Errorf("%s: OldOf %q, %v", c.name, old, ok)
		}
		lines, ok := impl.NewOf(c.g)
		if !slices.Equal(lines, c.n) || !ok {
			t.Errorf("%s: NewOf %q, %v", c.name, lines, ok)
		}
	}
}

func TestWidthOf(t *testing.T) {
	long := impl.Group{Rows: append(slices.Repeat(rowsBy("=a"), impl.MaxLines-1), rowsBy("-b")...)}
	turned := impl.Group{Rows: append(rowsBy("+b"), slices.Repeat(rowsBy("=a"), impl.MaxLines-1)...)}
	cases := []struct {
		name string
		g    groups
		want int
	}{
		{"no groups", nil, 0},
		{"an empty list", groups{}, 0},
		{"nothing stays", groups{groupBy(0, 0, "-a+b")}, 0},
		{"at the beginning alone", groups{groupBy(0, 0, "=a=b-c")}, 2},
		{"at the end alone", groups{groupBy(0, 0, "-a=b=c=d")}, 3},
		{"more at the beginning", groups{groupBy(0, 0, "=a=b-c=d")}, 2},
		{"more at the end", groups{groupBy(0, 0, "=a+b=c=d")}, 2},
		{"in the middle alone", groups{groupBy(0, 0, "-a=b=c=d+e")}, 0},
		{"more in the middle", groups{groupBy(0, 0, "=z-a=b=c=d+e=f")}, 1},
		{"the first of two", groups{groupBy(0, 0, "=a=b+c"), groupBy(2, 3, "=c-d")}, 2},
		{"the last of two", groups{groupBy(0, 0, "=a+c"), groupBy(2, 3, "=c-d=e=f=g")}, 3},
		{"the one within three", groups{groupBy(0, 0, "=a+c"), groupBy(2, 3, "=c=d+e"), groupBy(9, 9, "-a=b")}, 2},
		{"as many lines as can stay", groups{long}, impl.MaxLines - 1},
		{"as many lines as can stay at the end", groups{turned}, impl.MaxLines - 1},
	}
	for _, c := range cases {
		checkWidth(t, c.name, c.g, c.want)
		if got := widthBy(c.g); got != c.want {
			t.Errorf("%s: the model tells %d", c.name, got)
		}
	}
}

func TestSplitGroup(t *testing.T) {
	whole := groupBy(10, 20, "=a=b-c=d=e+x=f=g")
	cases := []struct {
		name  string
		g     impl.Group
		width int
		want  groups
	}{
		{"as wide as it is", whole, 2, groups{whole}},
		{"wider", whole, 3, groups{whole}},
		{"widest", whole, impl.MaxWidth, groups{whole}},
		{"not as wide, but one", whole, 1, groups{groupBy(11, 21, "=b-c=d=e+x=f")}},
		{"two", whole, 0, groups{groupBy(12, 22, "-c"), groupBy(15, 24, "+x")}},
		{"one row alone", groupBy(7, 9, "+x"), 0, groups{groupBy(7, 9, "+x")}},
		{"one row alone, wide", groupBy(7, 9, "-x"), 20, groups{groupBy(7, 9, "-x")}},
		{"lines around go", groupBy(7, 9, "=a=b-c+x=d=e=f"), 0, groups{groupBy(9, 11, "-c+x")}},
		{"lines at one end go", groupBy(7, 9, "=a=b-c+x"), 1, groups{groupBy(8, 10, "=b-c+x")}},
		{"three of more and less", groupBy(100, 300, "+x+y=a=b=c-d-e=f=g=h+z=i"), 1,
			groups{groupBy(100, 300, "+x+y=a"), groupBy(102, 304, "=c-d-e=f"), groupBy(107, 307, "=h+z=i")}},
		{"just twice the width between", groupBy(0, 0, "-a=b=c-d"), 1, groups{groupBy(0, 0, "-a=b=c-d")}},
		{"one more between", groupBy(0, 0, "-a=b=c=d-e"), 1, groups{groupBy(0, 0, "-a=b"), groupBy(3, 2, "=d-e")}},
		{"a last line without an end", groupBy(5, 5, "-a=b=.c"), 1, groups{groupBy(5, 5, "-a=b")}},
		{"a last line without an end of two parts", groupBy(5, 5, "-a=b=c=d-.e+.f"), 1, groups{groupBy(5, 5, "-a=b"), groupBy(8, 7, "=d-.e+.f")}},
		{"up to line 1000", groupBy(996, 996, "=a-b=c+x"), 0, groups{groupBy(997, 997, "-b"), groupBy(999, 998, "+x")}},
	}
	for _, c := range cases {
		checkSplit(t, c.name, c.g, c.width, c.want)
		if got := splitBy(c.g, c.width); !alikeGroups(got, c.want) {
			t.Errorf("%s: the model tells %v", c.name, got)
		}
	}
}

// A part may begin behind line 1000, which is no place of a group.
func TestSplitGroupUpToTheLastPlace(t *testing.T) {
	cases := []struct {
		name string
		g    impl.Group
		part impl.Group
	}{
		{"one comes at place 999", groupBy(998, 998, "=a+x"), groupBy(999, 999, "+x")},
		{"one goes at place 999", groupBy(998, 998, "=a-b"), groupBy(999, 999, "-b")},
		{"both at place 999", groupBy(998, 998, "=a-b+x"), groupBy(999, 999, "-b+x")},
	}
	for _, c := range cases {
		checkSplit(t, c.name, c.g, 0, groups{c.part})
		checkSplit(t, c.name, c.g, 1, groups{c.g})
	}
	beyond := map[string]impl.Group{
		"one comes behind line 1000":          groupBy(999, 998, "=a+x"),
		"one goes to behind line 1000":        groupBy(998, 999, "=a-b"),
		"the last part comes there":           groupBy(998, 997, "-a=b+x+y"),
		"the last part goes to there":         groupBy(996, 998, "+x=b-c"),
		"the last of three":                   groupBy(996, 993, "-a=b-c=d+x"),
		"one without an end comes there":      groupBy(999, 998, "=a+.x"),
		"one without an end goes to there":    groupBy(998, 999, "=a-.b"),
		"behind lines that come, one goes":    groupBy(900, 997, "+x+y=k-g"),
		"as many lines ahead as there may be": {At: 961, To: 960, Rows: append(slices.Repeat(rowsBy("=k"), 39), rowsBy("+x")...)},
	}
	for name, g := range beyond {
		parts := splitBy(g, 0)
		last := parts[len(parts)-1]
		if !impl.GoodGroups(groups{g}) || max(last.At, last.To) != 1000 {
			t.Errorf("%s: %v is split into %v", name, g, parts)
		}
		checkNoParts(t, name, g, 0)
		checkSplit(t, name, g, 1, splitBy(g, 1))
		checkSplit(t, name, g, impl.MaxWidth, splitBy(g, impl.MaxWidth))
	}
}

// isGood says it of one group.
func isGood(g impl.Group) bool {
	kinds := ""
	for _, row := range g.Rows {
		kinds += string(rune('a' + row.Kind))
	}
	if strings.Trim(kinds, "bcd") != "" || strings.Trim(kinds, "b") == "" || strings.Contains(kinds, "dc") {
		return false
	}
	old, lines := oldLines(g), newLines(g)
	return impl.GoodLines(old) && impl.GoodLines(lines) &&
		g.At >= 0 && g.At <= 999 && g.At+len(old) <= 1000 && g.To >= 0 && g.To <= 999 && g.To+len(lines) <= 1000
}

// rowsUpTo lists all rows, good or not, of these signs, up to most of them.
func rowsUpTo(signs []string, most int) [][]impl.Row {
	var all [][]impl.Row
	for _, word := range wordsUpTo(signs, most) {
		all = append(all, rowsBy(strings.Join(word, "")))
	}
	return all
}

// checkAnyGroup expects of a group alone what the model tells of it, whether it is good or not.
func checkAnyGroup(t *testing.T, g impl.Group) bool {
	t.Helper()
	if !isGood(g) {
		checkNoGroup(t, "any", g)
		return false
	}
	if !impl.GoodGroups(groups{g}) {
		t.Errorf("not good: %v", g)
	}
	checkSides(t, "any", g)
	checkWidth(t, "any", groups{g}, widthBy(groups{g}))
	for _, width := range []int{0, 1, 2, impl.MaxWidth} {
		parts := splitBy(g, width)
		if last := parts[len(parts)-1]; max(last.At, last.To) > 999 {
			checkNoParts(t, "any", g, width)
		} else {
			checkSplit(t, "any", g, width, parts)
		}
	}
	return true
}

func TestAllSmallGroups(t *testing.T) {
	signs := []string{"=a", "=.a", "-a", "-.a", "+a", "+.a"}
	good := 0
	for _, rows := range rowsUpTo(signs, 5) {
		if checkAnyGroup(t, impl.Group{At: 3, To: 4, Rows: rows}) {
			good++
		}
	}
	if good < 100 {
		t.Errorf("%d are good", good)
	}
	for _, rows := range rowsUpTo([]string{"=a", "-b", "+c"}, 7) {
		checkAnyGroup(t, impl.Group{At: 30, To: 4, Rows: rows})
	}
}

func TestGroupsAtTheLastPlaces(t *testing.T) {
	for _, rows := range rowsUpTo([]string{"=a", "-b", "+c"}, 3) {
		for at := 995; at <= 1002; at++ {
			for to := 995; to <= 1002; to++ {
				checkAnyGroup(t, impl.Group{At: at, To: to, Rows: rows})
			}
		}
	}
	for _, rows := range rowsUpTo([]string{"=a", "-b", "+c"}, 2) {
		for at := -2; at <= 1; at++ {
			for to := -2; to <= 1; to++ {
				checkAnyGroup(t, impl.Group{At: at, To: to, Rows: rows})
			}
		}
	}
}

// smallGroups are good groups by themselves, at places up to most.
func smallGroups(signs []string, rows, most int) groups {
	var all groups
	for _, r := range rowsUpTo(signs, rows) {
		for at := range most + 1 {
			for to := range most + 1 {
				if g := (impl.Group{At: at, To: to, Rows: r}); isGood(g) {
					all = append(all, g)
				}
			}
		}
	}
	return all
}

// follows says whether a group may stand behind another one.
func follows(g, ahead impl.Group) bool {
	return g.At >= ahead.At+len(oldLines(ahead)) && g.To >= ahead.To+len(newLines(ahead))
}

func TestCodesOfAllSmallGroups(t *testing.T) {
	all := smallGroups([]string{"=x", "-x", "-.x", "-y", "+x", "+.x"}, 2, 3)
	seen := map[int]int{}
	for _, l := range smallTexts() {
		for _, g := range all {
			_, code := codeOfGroups(l, groups{g})
			checkCodes(t, "one", l, groups{g}, code)
		}
	}
	for _, g := range all {
		for _, next := range all {
			two := groups{g, next}
			if !follows(next, g) {
				checkNotGood(t, "two", two)
				continue
			}
			checkWidth(t, "two", two, widthBy(two))
			for _, l := range smallTexts()[3:] {
				_, code := codeOfGroups(l, two)
				checkCodes(t, "two", l, two, code)
				seen[code]++
			}
		}
	}
	if len(seen) != 3 || seen[0] < 100 {
		t.Errorf("codes of two groups: %v", seen)
	}
}
