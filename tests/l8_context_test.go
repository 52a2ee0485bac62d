package tests

import (
	"regexp"
	"slices"
	"strconv"
	"strings"
	"testing"

	"loop.example/g00825/impl"
)

// stars is the row above each group.
var stars = strings.Repeat("*", 15) + "\n"

// sideSign is what stands ahead of a row's line in a half, found by the signs up to the next rows that stay.
func sideSign(signs string, i int) string {
	run, _, _ := strings.Cut(signs[strings.LastIndex(signs[:i], " ")+1:], " ")
	if signs[i] != ' ' && strings.Contains(run, "-") && strings.Contains(run, "+") {
		return "! "
	}
	return signs[i:i+1] + " "
}

// halfBy is a half with its lines that stay, whether it has others or not.
func halfBy(g impl.Group, old bool) string {
	not := impl.RwGone
	if old {
		not = impl.RwNew
	}
	var signs, text strings.Builder
	for _, row := range g.Rows {
		signs.WriteString(signOf(row.Kind))
	}
	for i, row := range g.Rows {
		if row.Kind != not {
			text.WriteString(shownAs(sideSign(signs.String(), i), []string{row.Line}))
		}
	}
	return text.String()
}

// toldHalf is a half as it stands in a text: nothing where all of its lines stay.
func toldHalf(g impl.Group, old bool) string {
	half := halfBy(g, old)
	for line := range strings.SplitAfterSeq(half, "\n") {
		if line != "" && line[0] != ' ' && line[0] != '\\' {
			return half
		}
	}
	return ""
}

// textOfSides is what is written of groups, good or not.
func textOfSides(g groups) string {
	var text strings.Builder
	for _, k := range g {
		old, _ := textsOf(k.At, len(oldLines(k)))
		come, _ := textsOf(k.To, len(newLines(k)))
		text.WriteString(stars + "*** " + old + " ****\n" + toldHalf(k, true) + "--- " + come + " ----\n" + toldHalf(k, false))
	}
	return text.String()
}

// sidesForm matches the text of the first group, with any numbers, and signs that the half may have.
var sidesForm = regexp.MustCompile(`\A\*{15}\n\*{3} ([0-9,]+) \*{4}\n((?:[-! ] .*\n|\\ none\n)*)-{3} ([0-9,]+) -{4}\n((?:[+! ] .*\n|\\ none\n)*)`)

// signed is a line of a half, and what stands ahead of it.
type signed struct{ sign, line string }

func signedIn(half string) ([]signed, bool) {
	var all []signed
	for line := range strings.SplitAfterSeq(half, "\n") {
		last := len(all) - 1
		switch {
		case line == "":
		case line != "\\ none\n":
			all = append(all, signed{line[:2], line[2:]})
		case last < 0 || !strings.HasSuffix(all[last].line, "\n"):
			return nil, false
		default:
			all[last].line = strings.TrimSuffix(all[last].line, "\n")
		}
	}
	return all, true
}

// parted is a half as the lines that stay, and what is ahead of each of them and behind the last one.
type parted struct {
	stay []string
	runs [][]signed
}

func partedBy(half []signed) parted {
	p := parted{runs: make([][]signed, 1)}
	for _, s := range half {
		if s.sign == "  " {
			p.stay, p.runs = append(p.stay, s.line), append(p.runs, nil)
		} else {
			p.runs[len(p.runs)-1] = append(p.runs[len(p.runs)-1], s)
		}
	}
	return p
}

// rowsOfRun are the rows of one half's run, where its signs are as what stands in the other half wants them.
func rowsOfRun(run, other []signed, kind int) ([]impl.Row, bool) {
	want := signOf(kind) + " "
	if len(other) > 0 {
		want = "! "
	}
	var rows []impl.Row
	for _, s := range run {
		if s.sign != want {
			return nil, false
		}
		rows = append(rows, impl.Row{Kind: kind, Line: s.line})
	}
	return rows, true
}

// rowsOfHalves are the rows of both halves, where these are halves of one group.
func rowsOfHalves(old, come []signed) ([]impl.Row, bool) {
	first, second := partedBy(old), partedBy(come)
	told := func(half []signed, p parted) bool { return len(half) > len(p.stay) }
	switch {
	case len(old) > 0 && !told(old, first) || len(come) > 0 && !told(come, second):
		return nil, false
	case len(old) == 0:
		first = parted{second.stay, make([][]signed, len(second.runs))}
	case len(come) == 0:
		second = parted{first.stay, make([][]signed, len(first.runs))}
	}
	if !slices.Equal(first.stay, second.stay) {
		return nil, false
	}
	var rows []impl.Row
	for i := range first.runs {
		gone, okOld := rowsOfRun(first.runs[i], second.runs[i], impl.RwGone)
		add, okNew := rowsOfRun(second.runs[i], first.runs[i], impl.RwNew)
		if !okOld || !okNew {
			return nil, false
		}
		rows = slices.Concat(rows, gone, add)
		if i < len(first.stay) {
			rows = append(rows, impl.Row{Kind: impl.RwKeep, Line: first.stay[i]})
		}
	}
	return rows, true
}

// placeBy is the place of so many lines of which a text is the range.
func placeBy(text string, many int) (int, bool) {
	first, _, _ := strings.Cut(text, ",")
	n, err := strconv.Atoi(first)
	if many > 0 {
		n--
	}
	pair, _ := textsOf(n, many)
	return n, err == nil && pair == text
}

// readSides is what a text is read as: half by half, each sign and number held against what it has to be.
func readSides(text string) (groups, bool) {
	if len(text) > impl.MaxPatch {
		return nil, false
	}
	var g groups
	for text != "" && len(g) <= impl.MaxHunks {
		m := sidesForm.FindStringSubmatch(text)
		if m == nil {
			return nil, false
		}
		old, okOld := signedIn(m[2])
		come, okNew := signedIn(m[4])
		rows, fit := rowsOfHalves(old, come)
		k := impl.Group{Rows: rows}
		var at, to bool
		k.At, at = placeBy(m[1], len(oldLines(k)))
		k.To, to = placeBy(m[3], len(newLines(k)))
		if !okOld || !okNew || !fit || !at || !to || !isGood(k) || len(g) > 0 && !follows(k, g[len(g)-1]) {
			return nil, false
		}
		g, text = append(g, k), text[len(m[0]):]
	}
	return g, len(g) <= impl.MaxHunks
}

var beside = reading[impl.Group]{impl.ReadContext, readSides, alikeGroups}

// checkNoSides expects a text to be none of any good groups.
func checkNoSides(t *testing.T, name, text string) {
	t.Helper()
	beside.checkNone(t, name, text)
}

// checkSidesTo expects a text to be read as these groups.
func checkSidesTo(t *testing.T, name, text string, want groups) {
	t.Helper()
	beside.checkTo(t, name, text, want)
}

// checkAnySides expects of any text what the model tells of it, and says whether it is read.
func checkAnySides(t *testing.T, text string) bool {
	t.Helper()
	return beside.checkAny(t, text)
}

func checkHalf(t *testing.T, name string, g impl.Group, old bool, want string) {
	t.Helper()
	if s, ok := impl.HalfText(g, old); s != want || !ok {
		t.Errorf("%s: HalfText(%v, %v) = %q, %v, not %q", name, g, old, s, ok, want)
	}
}

func checkSameSides(t *testing.T, name, a, b string, is, ok bool) {
	t.Helper()
	if gotIs, gotOk := impl.SameSides(a, b); gotIs != is || gotOk != ok {
		t.Errorf("%s: SameSides(%.150q, %.150q) = %v, %v, not %v, %v", name, a, b, gotIs, gotOk, is, ok)
	}
}

// checkBeside expects good groups to be written as that text, to be read from it, and to be the same all in one.
func checkBeside(t *testing.T, name string, g groups, text string) {
	t.Helper()
	if s, ok := impl.SidesText(g); s != text || !ok {
		t.Errorf("%s: SidesText(%v) = %q, %v, not %q", name, g, s, ok, text)
	}
	checkSidesTo(t, name, text, g)
	checkSameSides(t, name, text, textOfGroups(g), true, true)
	for _, k := range g {
		checkHalf(t, name, k, true, halfBy(k, true))
		checkHalf(t, name, k, false, halfBy(k, false))
	}
}

// checkNotBeside expects no text of groups.
func checkNotBeside(t *testing.T, name string, g groups) {
	t.Helper()
	if s, ok := impl.SidesText(g); s != "" || ok {
		t.Errorf("%s: SidesText(%v) = %.150q, %v", name, g, s, ok)
	}
}

// checkContext expects hunks that can be done to be written as the text, and that to do what they do.
func checkContext(t *testing.T, name string, l []string, h hunks, width int, text string) {
	t.Helper()
	if s, ok := impl.ContextText(l, h, width); s != text || !ok {
		t.Errorf("%s: ContextText(%#v, %#v, %d) = %q, %v, not %q", name, l, h, width, s, ok, text)
	}
	checkBeside(t, name, groupsBy(l, h, width), text)
	read, _, _ := impl.ReadContext(text)
	checkDone(t, name+", read", l, read, plainOf(change(markedOf(l), h)), 0)
	unified, _ := impl.UnifiedText(l, h, width)
	checkSameSides(t, name+", all in one", text, unified, true, true)
}

// likeLines are like what is written around lines.
func likeLines() []string {
	return []string{stars, "*** 1 ****\n", "--- 1 ----\n", "\\ none\n", "! a\n", "- \n", "+ a\n", "  \n", " \n", "!\n", "\n", "\xff\x00\r\n"}
}

// shownEach are lines, each shown with a sign ahead.
func shownEach(sign string, l []string) string {
	return sign + strings.Join(l, sign)
}

// halvesCase is what both halves of a group are written as.
type halvesCase struct {
	name      string
	g         impl.Group
	old, come string
}

func runCases() []halvesCase {
	like := likeLines()
	return []halvesCase{
		{"one goes", groupBy(0, 0, "-a"), "- a\n", ""},
		{"one comes", groupBy(0, 0, "+x"), "", "+ x\n"},
		{"one goes and one comes", groupBy(0, 0, "-a+x"), "! a\n", "! x\n"},
		{"three go", groupBy(0, 0, "-a-b-c"), "- a\n- b\n- c\n", ""},
		{"three come", groupBy(0, 0, "+x+y+z"), "", "+ x\n+ y\n+ z\n"},
		{"three go and two come", groupBy(0, 0, "-a-b-c+x+y"), "! a\n! b\n! c\n", "! x\n! y\n"},
		{"one goes and three come", groupBy(0, 0, "-a+x+y+z"), "! a\n", "! x\n! y\n! z\n"},
		{"three go and one comes", groupBy(0, 0, "-a-b-c+x"), "! a\n! b\n! c\n", "! x\n"},
		{"the same line", groupBy(0, 0, "-a+a"), "! a\n", "! a\n"},
		{"one goes, lines around", groupBy(0, 0, "=a-b=c=d"), "  a\n- b\n  c\n  d\n", "  a\n  c\n  d\n"},
		{"one comes, lines around", groupBy(0, 0, "=a=b+x=c"), "  a\n  b\n  c\n", "  a\n  b\n+ x\n  c\n"},
		{"both, lines around", groupBy(0, 0, "=a-b+x=c"), "  a\n! b\n  c\n", "  a\n! x\n  c\n"},
		{"both, lines ahead", groupBy(0, 0, "=a=b-c+x"), "  a\n  b\n! c\n", "  a\n  b\n! x\n"},
		{"both, lines behind", groupBy(0, 0, "-a-b+x=c"), "! a\n! b\n  c\n", "! x\n  c\n"},
		{"go, come, both", groupBy(7, 9, "-a=b+x=c-d+y"), "- a\n  b\n  c\n! d\n", "  b\n+ x\n  c\n! y\n"},
		{"go, both, come", groupBy(7, 9, "-a=b-c+x=d+y"), "- a\n  b\n! c\n  d\n", "  b\n! x\n  d\n+ y\n"},
		{"come, go, both", groupBy(7, 9, "+x=a-b=c-d+y"), "  a\n- b\n  c\n! d\n", "+ x\n  a\n  c\n! y\n"},
		{"come, both, go", groupBy(7, 9, "+x=a-b+y=c-d"), "  a\n! b\n  c\n- d\n", "+ x\n  a\n! y\n  c\n"},
		{"both, go, come", groupBy(7, 9, "-a+x=b-c=d+y"), "! a\n  b\n- c\n  d\n", "! x\n  b\n  d\n+ y\n"},
		{"both, come, go", groupBy(7, 9, "-a+x=b+y=c-d"), "! a\n  b\n  c\n- d\n", "! x\n  b\n+ y\n  c\n"},
		{"go twice, two lines between", groupBy(7, 9, "-a-b=c=d-e"), "- a\n- b\n  c\n  d\n- e\n", "  c\n  d\n"},
		{"come twice, two lines between", groupBy(7, 9, "+x+y=c=d+z"), "  c\n  d\n", "+ x\n+ y\n  c\n  d\n+ z\n"},
		{"both twice", groupBy(7, 9, "-a-b+x=c-d+y+z"), "! a\n! b\n  c\n! d\n", "! x\n  c\n! y\n! z\n"},
		{"lines like what is around them go", impl.Group{Rows: rowsAs(impl.RwGone, like)}, shownEach("- ", like), ""},
		{"such lines come", impl.Group{Rows: rowsAs(impl.RwNew, like)}, "", shownEach("+ ", like)},
		{"such lines go and come", impl.Group{Rows: slices.Concat(rowsAs(impl.RwGone, like), rowsAs(impl.RwNew, like))}, shownEach("! ", like), shownEach("! ", like)},
		{"such lines stay, one goes", impl.Group{Rows: append(rowsAs(impl.RwKeep, like), rowsBy("-a")...)}, shownEach("  ", like) + "- a\n", shownEach("  ", like)},
	}
}

// endCases have a last line without an end.
func endCases() []halvesCase {
	const none = "\\ none\n"
	return []halvesCase{
		{"it goes", groupBy(0, 0, "=a-.b"), "  a\n- b\n" + none, "  a\n"},
		{"it goes alone", groupBy(4, 4, "-.b"), "- b\n" + none, ""},
		{"it comes", groupBy(0, 0, "=a+.x"), "  a\n", "  a\n+ x\n" + none},
		{"it comes alone", groupBy(4, 4, "+.x"), "", "+ x\n" + none},
		{"one goes, and one comes", groupBy(0, 0, "=a-.b+.x"), "  a\n! b\n" + none, "  a\n! x\n" + none},
		{"its end comes", groupBy(0, 0, "-.b+b"), "! b\n" + none, "! b\n"},
		{"its end goes", groupBy(0, 0, "-b+.b"), "! b\n", "! b\n" + none},
		{"more come behind it", groupBy(0, 0, "-.b+b+x"), "! b\n" + none, "! b\n! x\n"},
		{"more come, the last without one, too", groupBy(0, 0, "-.b+b+.x"), "! b\n" + none, "! b\n! x\n" + none},
		{"more go ahead of it", groupBy(0, 0, "-a-b-.c+x"), "! a\n! b\n! c\n" + none, "! x\n"},
		{"it stays behind one that goes", groupBy(0, 0, "-a=.b"), "- a\n  b\n" + none, "  b\n" + none},
		{"it stays behind one that comes", groupBy(0, 0, "+x=.b"), "  b\n" + none, "+ x\n  b\n" + none},
		{"it stays behind both", groupBy(0, 0, "-a+x=.b"), "! a\n  b\n" + none, "! x\n  b\n" + none},
		{"it stays behind runs of each kind", groupBy(0, 0, "-a=b+x=c-d+y=.e"), "- a\n  b\n  c\n! d\n  e\n" + none, "  b\n+ x\n  c\n! y\n  e\n" + none},
		{"it is the word", impl.Group{Rows: rowsAs(impl.RwNew, []string{"\\ none"})}, "", "+ \\ none\n" + none},
		{"it is a sign", impl.Group{Rows: rowsAs(impl.RwGone, []string{"- "})}, "- - \n" + none, ""},
		{"it is a row of stars", impl.Group{Rows: rowsAs(impl.RwNew, []string{stars[:15]})}, "", "+ " + stars + none},
	}
}

func TestHalfText(t *testing.T) {
	for _, c := range append(runCases(), endCases()...) {
		if !isGood(c.g) {
			t.Errorf("%s: not good: %v", c.name, c.g)
		}
		for _, place := range []int{0, 1, 500, 900} {
			c.g.At, c.g.To = place, 900-place
			checkHalf(t, c.name, c.g, true, c.old)
			checkHalf(t, c.name, c.g, false, c.come)
			checkBeside(t, c.name, groups{c.g}, textOfSides(groups{c.g}))
		}
		if old, come := halfBy(c.g, true), halfBy(c.g, false); old != c.old || come != c.come {
			t.Errorf("%s: the model tells %q and %q", c.name, old, come)
		}
	}
}

// The greatest groups are told whole: the limit of bytes is one of texts of groups alone.
func TestHalfTextOfMost(t *testing.T) {
	lines := slices.Repeat([]string{full(impl.MaxLine)}, impl.MaxLines)
	gone, add := rowsAs(impl.RwGone, lines), rowsAs(impl.RwNew, lines)
	both := impl.Group{At: 960, To: 960, Rows: slices.Concat(gone, add)}
	for _, old := range []bool{true, false} {
		checkHalf(t, "all are others", both, old, shownEach("! ", lines))
	}
	checkHalf(t, "all go", impl.Group{Rows: gone}, true, shownEach("- ", lines))
	checkHalf(t, "all go", impl.Group{Rows: gone}, false, "")
	checkHalf(t, "all come", impl.Group{Rows: add}, true, "")
	checkHalf(t, "all come", impl.Group{Rows: add}, false, shownEach("+ ", lines))
	for n := 1; n <= 27; n++ {
		k := runsUpTo(n, n/2)
		checkBeside(t, "so many runs", groups{k}, textOfSides(groups{k}))
	}
}

func sidesCases() []shownCase {
	return []shownCase{
		{"no groups", nil, ""},
		{"an empty list", groups{}, ""},
		{"none and one", groups{groupBy(0, 0, "+x")}, stars + "*** 0 ****\n--- 1 ----\n+ x\n"},
		{"one and none", groups{groupBy(0, 0, "-a")}, stars + "*** 1 ****\n- a\n--- 0 ----\n"},
		{"none and two", groups{groupBy(0, 0, "+x+y")}, stars + "*** 0 ****\n--- 1,2 ----\n+ x\n+ y\n"},
		{"two and none", groups{groupBy(0, 0, "-a-b")}, stars + "*** 1,2 ****\n- a\n- b\n--- 0 ----\n"},
		{"one and one", groups{groupBy(0, 0, "-a+x")}, stars + "*** 1 ****\n! a\n--- 1 ----\n! x\n"},
		{"one and two", groups{groupBy(0, 0, "=a+x")}, stars + "*** 1 ****\n--- 1,2 ----\n  a\n+ x\n"},
		{"two and one", groups{groupBy(0, 0, "=a-b")}, stars + "*** 1,2 ****\n  a\n- b\n--- 1 ----\n"},
		{"two and two", groups{groupBy(0, 0, "=a-b+x")}, stars + "*** 1,2 ****\n  a\n! b\n--- 1,2 ----\n  a\n! x\n"},
		{"none and one, further", groups{groupBy(7, 9, "+x")}, stars + "*** 7 ****\n--- 10 ----\n+ x\n"},
		{"one and none, further", groups{groupBy(7, 9, "-a")}, stars + "*** 8 ****\n- a\n--- 9 ----\n"},
		{"one and three, further", groups{groupBy(7, 9, "-a+x+y+z")}, stars + "*** 8 ****\n! a\n--- 10,12 ----\n! x\n! y\n! z\n"},
		{"none go, lines around", groups{groupBy(99, 9, "=a=b+x=c")}, stars + "*** 100,102 ****\n--- 10,13 ----\n  a\n  b\n+ x\n  c\n"},
		{"none come, lines around", groups{groupBy(99, 9, "=a=b-c=d")}, stars + "*** 100,103 ****\n  a\n  b\n- c\n  d\n--- 10,12 ----\n"},
		{"both, lines around", groups{groupBy(99, 9, "=a-b-c+x=d")}, stars + "*** 100,103 ****\n  a\n! b\n! c\n  d\n--- 10,12 ----\n  a\n! x\n  d\n"},
		{"one goes, another one comes", groups{groupBy(3, 5, "-a=b=c+y")}, stars + "*** 4,6 ****\n- a\n  b\n  c\n--- 6,8 ----\n  b\n  c\n+ y\n"},
		{"both, and one comes", groups{groupBy(3, 5, "-a+x=b+y")}, stars + "*** 4,5 ****\n! a\n  b\n--- 6,8 ----\n! x\n  b\n+ y\n"},
		{"two groups", groups{groupBy(0, 0, "-a=b"), groupBy(5, 4, "=f+x")}, stars + "*** 1,2 ****\n- a\n  b\n--- 1 ----\n" + stars + "*** 6 ****\n--- 5,6 ----\n  f\n+ x\n"},
		{"two side by side", groups{groupBy(1, 1, "+x"), groupBy(1, 2, "-b")}, stars + "*** 1 ****\n--- 2 ----\n+ x\n" + stars + "*** 2 ****\n- b\n--- 2 ----\n"},
		{"three that need not fit", groups{groupBy(0, 9, "+x"), groupBy(40, 10, "-a"), groupBy(500, 900, "=a-b=c")},
			stars + "*** 0 ****\n--- 10 ----\n+ x\n" + stars + "*** 41 ****\n- a\n--- 10 ----\n" + stars + "*** 501,503 ****\n  a\n- b\n  c\n--- 901,902 ----\n"},
		{"the last places", groups{groupBy(999, 999, "-a+x")}, stars + "*** 1000 ****\n! a\n--- 1000 ----\n! x\n"},
		{"the last places of none", groups{groupBy(999, 998, "+x+y")}, stars + "*** 999 ****\n--- 999,1000 ----\n+ x\n+ y\n"},
		{"the last places of two", groups{groupBy(998, 999, "-a-b")}, stars + "*** 999,1000 ****\n- a\n- b\n--- 999 ----\n"},
		{"no end of one that goes", groups{groupBy(4, 4, "=a-.b")}, stars + "*** 5,6 ****\n  a\n- b\n\\ none\n--- 5 ----\n"},
		{"no end of one that comes", groups{groupBy(4, 4, "=a+.b")}, stars + "*** 5 ****\n--- 5,6 ----\n  a\n+ b\n\\ none\n"},
		{"no end of both", groups{groupBy(4, 4, "-.a+.b")}, stars + "*** 5 ****\n! a\n\\ none\n--- 5 ----\n! b\n\\ none\n"},
		{"no end of one that stays", groups{groupBy(4, 4, "-a+x=.b")}, stars + "*** 5,6 ****\n! a\n  b\n\\ none\n--- 5,6 ----\n! x\n  b\n\\ none\n"},
		{"no end of one that stays, one half", groups{groupBy(4, 4, "+x=.b")}, stars + "*** 5 ****\n--- 5,6 ----\n+ x\n  b\n\\ none\n"},
		{"a group behind no end", groups{groupBy(0, 0, "-.b"), groupBy(1, 0, "+.c")}, stars + "*** 1 ****\n- b\n\\ none\n--- 0 ----\n" + stars + "*** 1 ****\n--- 1 ----\n+ c\n\\ none\n"},
		{"lines like what is around them", groups{{At: 2, To: 2, Rows: append(rowsAs(impl.RwKeep, likeLines()), rowsBy("-a+x")...)}},
			stars + "*** 3,15 ****\n" + shownEach("  ", likeLines()) + "! a\n--- 3,15 ----\n" + shownEach("  ", likeLines()) + "! x\n"},
	}
}

func TestSidesText(t *testing.T) {
	for _, c := range sidesCases() {
		if !impl.GoodGroups(c.g) {
			t.Errorf("%s: not good: %v", c.name, c.g)
		}
		checkBeside(t, c.name, c.g, c.text)
		if got := textOfSides(c.g); got != c.text {
			t.Errorf("%s: the model tells %q, not %q", c.name, got, c.text)
		}
	}
	for _, c := range append(headCases(), lineCases()...) {
		checkBeside(t, c.name, c.g, textOfSides(c.g))
	}
}

// The words of both heads are those of EndText, at each number of lines on either side.
func TestRangesOfEachSize(t *testing.T) {
	for old := range impl.MaxLines + 1 {
		for come := range impl.MaxLines + 1 {
			if old+come == 0 {
				continue
			}
			signs := []string{"- ", "+ "}
			if old > 0 && come > 0 {
				signs = []string{"! ", "! "}
			}
			for _, place := range []int{0, 9, 959} {
				g := impl.Group{At: place, To: 960 - place, Rows: append(rowsAs(impl.RwGone, manyLines(old)), rowsAs(impl.RwNew, manyLines(come))...)}
				first, _ := impl.EndText(g.At, old)
				second, _ := impl.EndText(g.To, come)
				checkBeside(t, "so many", groups{g}, stars+"*** "+first+" ****\n"+strings.Repeat(signs[0]+"l\n", old)+"--- "+second+" ----\n"+strings.Repeat(signs[1]+"l\n", come))
			}
		}
	}
	// What stays counts, too, where its half is left out.
	for stay := range impl.MaxLines {
		for _, row := range rowsBy("-a+x") {
			g := groups{{At: 9, To: 99, Rows: append(rowsAs(impl.RwKeep, manyLines(stay)), row)}}
			checkBeside(t, "so many stay", g, textOfSides(g))
		}
	}
}

func TestSidesTextOfMostBytes(t *testing.T) {
	for bytes := impl.MaxPatch - 40; bytes <= impl.MaxPatch; bytes++ {
		g := sized(t, bytes, textOfSides)
		if n := len(textOfSides(g)); n != bytes {
			t.Fatalf("%d bytes, not %d", n, bytes)
		}
		checkBeside(t, "few enough bytes", g, textOfSides(g))
	}
	for bytes := impl.MaxPatch + 1; bytes <= impl.MaxPatch+40; bytes++ {
		g := sized(t, bytes, textOfSides)
		if !impl.GoodGroups(g) || len(textOfSides(g)) != bytes {
			t.Fatalf("%d bytes: %v", bytes, g)
		}
		checkNotBeside(t, "too many bytes", g)
		checkNoSides(t, "too many bytes", textOfSides(g))
		checkSameSides(t, "too many bytes", textOfSides(g), textOfGroups(g), false, false)
		for _, k := range g {
			checkHalf(t, "too many bytes", k, true, halfBy(k, true))
			checkHalf(t, "too many bytes", k, false, halfBy(k, false))
		}
	}
	for n := range impl.MaxHunks + 1 {
		checkBeside(t, "many groups", growing(n), textOfSides(growing(n)))
	}
	wide := slices.Repeat([]string{full(impl.MaxLine)}, impl.MaxLines)
	var much groups
	for i := range impl.MaxHunks {
		much = append(much, impl.Group{At: i * impl.MaxLines, To: i * impl.MaxLines, Rows: append(rowsAs(impl.RwGone, wide), rowsAs(impl.RwNew, wide)...)})
	}
	if !impl.GoodGroups(much) {
		t.Fatal("not good")
	}
	checkNotBeside(t, "much too many bytes", much)
	checkNoSides(t, "much too many bytes", textOfSides(much))
	// Of lines that stay one half has as many bytes as the other one: all in one they are but once.
	stay := impl.Group{Rows: append(rowsAs(impl.RwKeep, wide[1:]), rowsBy("-a+x")...)}
	twice := groups{stay, shifted(groups{stay}, impl.MaxLines, impl.MaxLines)[0]}
	if _, ok := impl.GroupsText(twice); !ok {
		t.Error("too many bytes all in one, too")
	}
	checkNotBeside(t, "too many bytes beside", twice)
	checkSameSides(t, "too many bytes beside", textOfSides(twice), textOfGroups(twice), false, false)
}

func TestContextText(t *testing.T) {
	l := linesBy("abcdefgh")
	h := hunks{{At: 1, Gone: 1}, {At: 4, Gone: 1, New: linesBy("xy")}, {At: 8, New: linesBy(".z")}}
	checkContext(t, "width 0", l, h, 0, stars+"*** 2 ****\n- b\n--- 1 ----\n"+stars+"*** 5 ****\n! e\n--- 4,5 ----\n! x\n! y\n"+stars+"*** 8 ****\n--- 9 ----\n+ z\n\\ none\n")
	checkContext(t, "width 1", l, h, 1, stars+"*** 1,6 ****\n  a\n- b\n  c\n  d\n! e\n  f\n--- 1,6 ----\n  a\n  c\n  d\n! x\n! y\n  f\n"+stars+"*** 8 ****\n--- 8,9 ----\n  h\n+ z\n\\ none\n")
	wide := stars + "*** 1,8 ****\n  a\n- b\n  c\n  d\n! e\n  f\n  g\n  h\n--- 1,9 ----\n  a\n  c\n  d\n! x\n! y\n  f\n  g\n  h\n+ z\n\\ none\n"
	for width := 2; width <= impl.MaxWidth; width++ {
		checkContext(t, "wider", l, h, width, wide)
		checkContext(t, "no hunks", l, nil, width, "")
	}
	for _, c := range slices.Concat(oneGroupCases(), manyGroupCases(), openGroupCases()) {
		checkContext(t, c.name, c.l, c.h, c.width, textOfSides(c.want))
	}
}

func TestContextTextOfAllSmallHunks(t *testing.T) {
	for _, l := range smallTexts() {
		for _, h := range hunksFor(len(l), smallNews()) {
			made := plainOf(change(markedOf(l), h))
			for _, width := range []int{0, 1, impl.MaxWidth} {
				if !impl.GoodLines(made) {
					checkNoContext(t, "small", l, h, width)
					continue
				}
				checkContext(t, "small", l, h, width, textOfSides(groupsBy(l, h, width)))
			}
		}
	}
	more := linesBy("abcdef")
	for _, h := range hunksFor(len(more), [][]string{nil, linesBy("x")}) {
		checkContext(t, "more", more, h, 1, textOfSides(groupsBy(more, h, 1)))
	}
}

// No hunks that can be done have more than MaxPatch bytes.
func TestContextTextOfMost(t *testing.T) {
	wide := slices.Repeat([]string{full(impl.MaxLine)}, impl.MaxLines)
	last := slices.Concat(wide[1:], []string{strings.Repeat("h", impl.MaxLine)})
	cases := map[string]hunks{
		"all lines are others": {{Gone: impl.MaxLines, New: last}},
		"all lines go":         {{Gone: impl.MaxLines}},
		"one line is another":  {{Gone: 1, New: wide[:1]}},
		"most hunks":           everySecond(impl.MaxHunks, 1, wide[:1]),
		"most hunks, all go":   everySecond(impl.MaxHunks, 1, nil),
		"no hunks":             nil,
	}
	for name, h := range cases {
		for _, l := range [][]string{wide, last} {
			for width := range impl.MaxWidth + 1 {
				checkContext(t, name, l, h, width, textOfSides(groupsBy(l, h, width)))
			}
		}
	}
	checkContext(t, "most lines come", nil, hunks{{New: last}}, 1, textOfSides(groupsBy(nil, hunks{{New: last}}, 1)))
}

// What is different between two texts is written, read, and done.
func TestContextTextOfDiffs(t *testing.T) {
	for seed := range 40 {
		a, b := mixed(seed, 3, seed), mixed(impl.MaxLines-seed, 3, seed+7)
		h, ok := impl.DiffHunks(a, b)
		if !ok {
			continue
		}
		for width := range 5 {
			checkContext(t, "of a difference", a, h, width, textOfSides(groupsBy(a, h, width)))
		}
	}
}

// All small groups are written and read back, alone and behind one another.
func TestBesideOfAllSmallGroups(t *testing.T) {
	for _, rows := range rowsUpTo([]string{"=a", "=.a", "-a", "-.b", "+a", "+.c"}, 5) {
		g := groups{{At: 3, To: 4, Rows: rows}}
		if isGood(g[0]) {
			checkBeside(t, "one", g, textOfSides(g))
		} else {
			checkNotBeside(t, "one", g)
		}
	}
	for _, rows := range rowsUpTo([]string{"=a", "-a", "+a"}, 7) {
		if g := (impl.Group{Rows: rows}); isGood(g) {
			checkBeside(t, "more rows", groups{g}, textOfSides(groups{g}))
		}
	}
	all := smallGroups([]string{"=x", "-x", "-.x", "+x", "+.x"}, 2, 2)
	for _, g := range all {
		for _, next := range all {
			two := groups{g, next}
			if follows(next, g) {
				checkBeside(t, "two", two, textOfSides(two))
			} else {
				checkNotBeside(t, "two", two)
				checkNoSides(t, "two", textOfSides(two))
			}
		}
	}
}

// goodSides is a text of one group with a run of each kind, of which the texts that are none are made.
const goodSides = "***************\n*** 4,7 ****\n- a\n  b\n! c\n  d\n--- 6,9 ----\n  b\n! x\n  d\n+ y\n"

// behindAll is a group behind all of those.
const behindAll = "***************\n*** 100 ****\n! a\n--- 100 ----\n! x\n"

func goodBeside() groups { return groups{groupBy(3, 5, "-a=b-c+x=d+y")} }

// checkEachNone expects none of the texts that come of a good one where a part of it is put in the place of another.
func checkEachNone(t *testing.T, name, good, part string, others ...string) {
	t.Helper()
	if !checkAnySides(t, good) || !strings.Contains(good, part) {
		t.Errorf("%s: %q, %q", name, good, part)
	}
	for _, other := range others {
		text := strings.Replace(good, part, other, 1)
		checkNoSides(t, name, text)
		checkNoSides(t, name+", ahead of another group", text+behindAll)
		checkNoSides(t, name+", behind another group", stars+"*** 1 ****\n! a\n--- 1 ----\n! x\n"+text)
	}
}

func TestGoodSides(t *testing.T) {
	checkSidesTo(t, "the good one", goodSides, goodBeside())
	checkSidesTo(t, "ahead of another group", goodSides+behindAll, append(goodBeside(), groupBy(99, 99, "-a+x")))
	checkSidesTo(t, "behind another group", stars+"*** 1 ****\n! a\n--- 1 ----\n! x\n"+goodSides, append(groups{groupBy(0, 0, "-a+x")}, goodBeside()...))
}

func TestRowsOfStarsThatAreNone(t *testing.T) {
	checkEachNone(t, "another row of stars", goodSides, stars, "", "\n", "*\n", strings.Repeat("*", 14)+"\n", strings.Repeat("*", 16)+"\n", strings.Repeat("*", 30)+"\n", stars+stars, stars+"\n", "\n"+stars,
		strings.Repeat("-", 15)+"\n", strings.Repeat("=", 15)+"\n", " "+stars, strings.Repeat("*", 15), strings.Repeat("*", 15)+" \n", strings.Repeat("*", 15)+"\r\n", strings.Repeat("*", 15)+" f\n", strings.Repeat("*", 7)+" "+strings.Repeat("*", 7)+"\n",
		strings.Repeat("*", 14)+"+\n", "*** a\n--- b\n"+stars, "@@ -4,4 +6,4 @@\n")
}

func TestHeadsOfHalvesThatAreNone(t *testing.T) {
	checkEachNone(t, "another sign of the old head", goodSides, "*** 4,7 ****", "--- 4,7 ----", "*** 4,7 ----", "--- 4,7 ****", "+++ 4,7 ++++", "** 4,7 ****", "**** 4,7 ****", "*** 4,7 ***", "*** 4,7 *****", "* 4,7 *", "*** 4,7", "4,7 ****", "4,7", "", "@@ -4,4 +6,4 @@", "*** -4,7 ****", "*** ****", "*******", "***  ****")
	checkEachNone(t, "another sign of the new head", goodSides, "--- 6,9 ----", "*** 6,9 ****", "--- 6,9 ****", "*** 6,9 ----", "+++ 6,9 ++++", "-- 6,9 ----", "---- 6,9 ----", "--- 6,9 ---", "--- 6,9 -----", "- 6,9 -", "--- 6,9", "6,9 ----", "6,9", "", "---", "--- +6,9 ----", "--- ----", "-------", "---  ----")
	for head, next := range map[string]string{"*** 4,7 ****": "4,7", "--- 6,9 ----": "6,9"} {
		sign, end, _ := strings.Cut(head, " "+next+" ")
		checkEachNone(t, "another blank", goodSides, head, sign+next+" "+end, sign+" "+next+end, sign+next+end, sign+"  "+next+" "+end, sign+" "+next+"  "+end, sign+"\t"+next+" "+end, sign+" "+next+"\t"+end, " "+head, head+" ", head+"\r", head+" f",
			sign+" "+next[:1]+" ,"+next[2:]+" "+end, sign+" "+next[:2]+" "+next[2:]+" "+end, sign+" "+next+"\n"+end, head+head, head+"\n"+head)
	}
	checkEachNone(t, "no end of the old head", goodSides, "****\n-", "****-", "****", "****\r-", "****\x00-")
	checkEachNone(t, "no end of the new head", goodSides, "----\n ", "---- ", "----", "----\r ", "----\x00 ")
	checkEachNone(t, "no old head", goodSides, "*** 4,7 ****\n", "", "\n", "- a\n")
	checkEachNone(t, "no new head", goodSides, "--- 6,9 ----\n", "", "\n", "+ a\n")
	checkEachNone(t, "heads turned", goodSides, goodSides[16:], "--- 6,9 ----\n  b\n! x\n  d\n+ y\n*** 4,7 ****\n- a\n  b\n! c\n  d\n", "*** 6,9 ****\n  b\n! x\n  d\n+ y\n--- 4,7 ----\n- a\n  b\n! c\n  d\n")
}

func TestRangesOfHalvesThatAreNone(t *testing.T) {
	numbers := []string{"", ",", "0", "x", "4,", ",7", "04,7", "4,07", "004,007", "4;7", "4-7", "4:7", "4.7", "4,7,7", "4,,7", "+4,7", "4,+7", "-4,7", "4,-7", "4,7 ", " 4,7", "0x4,7", "4e0,7", "\uff14,7", "4,\u0667", "4_0,7", "4a,7", "4,7a"}
	others := []string{"4", "7", "4,4", "4,5", "4,6", "4,8", "4,3", "4,2", "4,0", "7,4", "0,4", "0,7", "0,0", "4,999", "4,1000", "4,1001", "4,9999", "4,10000", "9999,10002", "10000,10003", "998,1001", "999,1000", "1000,1003", "1001,1004",
		"4,65543", "65540,65543", "4294967300,4294967303", "4,4294967303", "4,18446744073709551623", "18446744073709551620,18446744073709551623", "9223372036854775807,9223372036854775810"}
	for _, n := range append(numbers, others...) {
		checkEachNone(t, "another range of the old half", goodSides, "4,7", n)
		checkEachNone(t, "another range of the new half", goodSides, "6,9", n)
	}
	one := stars + "*** 8 ****\n! a\n--- 9 ----\n! x\n"
	checkSidesTo(t, "one and one", one, groups{groupBy(7, 8, "-a+x")})
	checkEachNone(t, "one, told longer", one, "8", "8,8", "8,1", "8,", "8,9", "8,7", "8,0", "7,8", "08", "8 8")
	checkEachNone(t, "one, the new half told longer", one, "9", "9,9", "9,1", "9,", "9,10", "9,8", "9,0", "8,9", "09", "9 9")
	checkEachNone(t, "one at no place", one, "8", "0", "1001", "9999", "-1", "1000,1000", "0,0", "0,1")
	checkEachNone(t, "one at no place, the new half", one, "9", "0", "1001", "9999", "-1", "1000,1000", "0,0", "0,1")
	none := stars + "*** 8 ****\n--- 9 ----\n+ x\n"
	checkSidesTo(t, "none and one", none, groups{groupBy(8, 8, "+x")})
	checkEachNone(t, "none, told longer", none, "8", "8,8", "8,0", "8,7", "9,8", "8,", "8,9", "1000", "1001", "999,999", "999,998", "0,0")
	left := stars + "*** 8 ****\n- a\n--- 9 ----\n"
	checkSidesTo(t, "one and none", left, groups{groupBy(7, 9, "-a")})
	checkEachNone(t, "none come, told longer", left, "9", "9,9", "9,0", "9,8", "10,9", "9,", "9,10", "1000", "1001", "999,999", "999,998", "0,0")
	stay := stars + "*** 8 ****\n--- 9,10 ----\n  a\n+ x\n"
	checkSidesTo(t, "one stays", stay, groups{groupBy(7, 8, "=a+x")})
	checkEachNone(t, "one that stays, told longer", stay, "8", "8,8", "7,8", "8,9", "8,7", "0", "1001")
	two := stars + "*** 8,9 ****\n--- 9,11 ----\n  a\n  b\n+ x\n"
	checkSidesTo(t, "two stay", two, groups{groupBy(7, 8, "=a=b+x")})
	checkEachNone(t, "two that stay", two, "8,9", "8", "9", "7", "8,8", "8,10", "0,1", "1000,1001", "9,10,11", "8,7")
}

// At each number there is one text of a range, and with another many none.
func TestEachPlaceOfHalves(t *testing.T) {
	for place := range 1000 {
		n, last := strconv.Itoa(place+1), strconv.Itoa(1000-place)
		checkSidesTo(t, "one and one", stars+"*** "+n+" ****\n! a\n--- "+last+" ----\n! x\n", groups{groupBy(place, 999-place, "-a+x")})
		checkSidesTo(t, "one and none", stars+"*** "+n+" ****\n- a\n--- "+strconv.Itoa(place)+" ----\n", groups{groupBy(place, place, "-a")})
		checkSidesTo(t, "none and one", stars+"*** "+strconv.Itoa(place)+" ****\n--- "+n+" ----\n+ x\n", groups{groupBy(place, place, "+x")})
		checkNoSides(t, "told longer", stars+"*** "+n+","+n+" ****\n! a\n--- "+last+" ----\n! x\n")
		checkNoSides(t, "told longer, the new half", stars+"*** "+n+" ****\n! a\n--- "+last+","+last+" ----\n! x\n")
	}
}

func TestLinesOfHalvesThatAreNone(t *testing.T) {
	checkEachNone(t, "too few lines of the old half", goodSides, "- a\n  b\n! c\n  d\n", "", "- a\n", "- a\n  b\n", "- a\n  b\n! c\n", "  b\n! c\n  d\n", "- a\n! c\n  d\n", "- a\n  b\n  d\n")
	checkEachNone(t, "too many lines of the old half", goodSides, "- a\n  b\n! c\n  d\n", "- a\n- a\n  b\n! c\n  d\n", "- a\n  b\n! c\n! c\n  d\n", "- a\n  b\n! c\n  d\n  e\n", "- a\n  b\n! c\n  d\n- e\n", "- a\n  b\n! c\n  d\n! e\n", "  a\n- a\n  b\n! c\n  d\n")
	checkEachNone(t, "too few lines of the new half", goodSides, "  b\n! x\n  d\n+ y\n", "", "  b\n", "  b\n! x\n", "  b\n! x\n  d\n", "! x\n  d\n+ y\n", "  b\n  d\n+ y\n", "  b\n! x\n+ y\n")
	checkEachNone(t, "too many lines of the new half", goodSides, "  b\n! x\n  d\n+ y\n", "  b\n! x\n  d\n+ y\n+ z\n", "  b\n! x\n! x\n  d\n+ y\n", "+ z\n  b\n! x\n  d\n+ y\n", "  b\n! x\n  d\n+ y\n  e\n", "! z\n  b\n! x\n  d\n+ y\n", "  b\n! x\n  d\n  d\n+ y\n")
	lines := strings.SplitAfter(goodSides, "\n")
	for i, line := range lines {
		if line == "" || strings.HasPrefix(line, "***") || strings.HasPrefix(line, "---") {
			continue
		}
		others := []string{line[:1] + line[2:], line[:1] + "\t" + line[2:], line[:1] + "-" + line[2:], " " + line, line[:1] + "\n" + line[2:], line[:2] + "\n" + line[2:], "\n", strings.TrimSuffix(line, "\n")}
		for _, sign := range []string{"", "*", "=", "<", ">", "@", "#", "\t", "\\", "\x00", "\xff", "0", "a", "\u2212", "\n", "--", "++", "!!", "-!", "\r"} {
			others = append(others, sign+line[1:])
		}
		for _, other := range others {
			all := slices.Clone(lines)
			all[i] = other
			checkNoSides(t, "an unknown sign, or no line", strings.Join(all, ""))
		}
	}
}

func TestSignsThatAreOthers(t *testing.T) {
	checkEachNone(t, "nothing comes in its place", goodSides, "- a", "! a", "+ a", "  a")
	checkEachNone(t, "others come in its place", goodSides, "! c", "- c", "+ c", "  c")
	checkEachNone(t, "it comes in the place of others", goodSides, "! x", "+ x", "- x", "  x")
	checkEachNone(t, "nothing went in its place", goodSides, "+ y", "! y", "- y", "  y")
	texts := map[string]string{
		"one goes, as if others came":                  "*** 1 ****\n! a\n--- 0 ----\n",
		"one comes, as if others went":                 "*** 0 ****\n--- 1 ----\n! x\n",
		"one goes and one comes, as if each alone":     "*** 1 ****\n- a\n--- 1 ----\n+ x\n",
		"one goes as if alone":                         "*** 1 ****\n- a\n--- 1 ----\n! x\n",
		"one comes as if alone":                        "*** 1 ****\n! a\n--- 1 ----\n+ x\n",
		"in another run":                               "*** 1,2 ****\n! a\n  b\n--- 1,2 ----\n  b\n! x\n",
		"in another run ahead":                         "*** 1,2 ****\n  b\n! a\n--- 1,2 ----\n! x\n  b\n",
		"two go, one as if alone":                      "*** 1,2 ****\n- a\n! b\n--- 1 ----\n! x\n",
		"two go, the last one as if alone":             "*** 1,2 ****\n! a\n- b\n--- 1 ----\n! x\n",
		"two come, one as if alone":                    "*** 1 ****\n! a\n--- 1,2 ----\n! x\n+ y\n",
		"two come, the first one as if alone":          "*** 1 ****\n! a\n--- 1,2 ----\n+ x\n! y\n",
		"two runs, the second as if alone":             "*** 1,3 ****\n! a\n  b\n- c\n--- 1,3 ----\n! x\n  b\n! y\n",
		"two runs, the first with nothing":             "*** 1,3 ****\n! a\n  b\n! c\n--- 1,2 ----\n  b\n! y\n",
		"what comes in the old half":                   "*** 1 ****\n+ a\n--- 0 ----\n",
		"what goes in the new half":                    "*** 0 ****\n--- 1 ----\n- x\n",
		"what comes in the old half, behind":           "*** 1,2 ****\n! a\n+ b\n--- 1 ----\n! x\n",
		"what goes in the new half, behind":            "*** 1 ****\n! a\n--- 1,2 ----\n! x\n- y\n",
		"no signs in either half, though changed":      "*** 1 ****\n  a\n--- 1 ----\n  x\n",
		"others come, but the new half is left out":    "*** 1,2 ****\n  a\n! b\n--- 1 ----\n",
		"others went, but the old half is left out":    "*** 1 ****\n--- 1,2 ----\n  a\n! x\n",
		"others come, left out, and so many are meant": "*** 1,2 ****\n  a\n! b\n--- 1,2 ----\n",
	}
	for name, text := range texts {
		checkNoSides(t, name, stars+text)
		checkNoSides(t, name+", ahead of another group", stars+text+behindAll)
	}
}

func TestHalvesThatAreNotOfOneGroup(t *testing.T) {
	checkEachNone(t, "another line stays", goodSides, "  b\n! c", "  e\n! c", "  B\n! c", "  b \n! c", "   b\n! c", "  \n! c", "  d\n! c")
	checkEachNone(t, "another line stays in the new half", goodSides, "  b\n! x", "  e\n! x", "  B\n! x", "  b \n! x", "   b\n! x", "  \n! x", "  d\n! x")
	checkEachNone(t, "another line stays at the end", goodSides, "  d\n-", "  e\n-", "  \n-", "  b\n-", "  d\n\\ none\n-")
	checkEachNone(t, "lines that stay are turned", goodSides, "  b\n! c\n  d\n", "  d\n! c\n  b\n")
	texts := map[string]string{
		"nothing at all":                               "*** 0 ****\n--- 0 ----\n",
		"nothing at all, one line":                     "*** 1 ****\n--- 1 ----\n",
		"nothing at all, two lines":                    "*** 1,2 ****\n--- 1,2 ----\n",
		"all lines stay":                               "*** 1 ****\n  a\n--- 1 ----\n  a\n",
		"all lines stay, the new half left out":        "*** 1 ****\n  a\n--- 1 ----\n",
		"all lines stay, the old half left out":        "*** 1 ****\n--- 1 ----\n  a\n",
		"two lines stay":                               "*** 1,2 ****\n  a\n  b\n--- 1,2 ----\n  a\n  b\n",
		"the old half is told without signs":           "*** 1 ****\n  a\n--- 1,2 ----\n  a\n+ x\n",
		"the old half is told without signs, behind":   "*** 1,2 ****\n  a\n  b\n--- 1,3 ----\n  a\n+ x\n  b\n",
		"the new half is told without signs":           "*** 1,2 ****\n  a\n- b\n--- 1 ----\n  a\n",
		"the new half is told without signs, behind":   "*** 1,3 ****\n  a\n- b\n  c\n--- 1,2 ----\n  a\n  c\n",
		"a half without signs, and no end":             "*** 1,2 ****\n- a\n  b\n\\ none\n--- 1 ----\n  b\n\\ none\n",
		"the old half is left out though one goes":     "*** 1,2 ****\n--- 1,2 ----\n  a\n+ x\n",
		"the new half is left out though one comes":    "*** 1,2 ****\n  a\n- b\n--- 1,2 ----\n",
		"the old half has a line more that stays":      "*** 1,3 ****\n- a\n  b\n  c\n--- 1,2 ----\n  b\n+ x\n",
		"the new half has a line more that stays":      "*** 1,2 ****\n- a\n  b\n--- 1,3 ----\n  b\n+ x\n  c\n",
		"the old half has a line more, others are not": "*** 1,3 ****\n  a\n- b\n  c\n--- 1,2 ----\n  c\n+ x\n",
		"only part of what stays is told":              "*** 1,3 ****\n  a\n- b\n  c\n--- 1,3 ----\n  a\n+ x\n",
		"the old half twice":                           "*** 1 ****\n- a\n*** 1 ****\n- a\n--- 0 ----\n",
		"the new half twice":                           "*** 0 ****\n--- 1 ----\n+ x\n--- 1 ----\n+ x\n",
		"the old half alone":                           "*** 1 ****\n- a\n",
		"the new half alone":                           "--- 1 ----\n+ x\n",
	}
	for name, text := range texts {
		checkNoSides(t, name, stars+text)
		checkNoSides(t, name+", ahead of another group", stars+text+behindAll)
	}
	wide := strings.Repeat("  l\n", impl.MaxLines)
	for name, text := range map[string]string{
		"one line more goes":             "*** 1,41 ****\n" + strings.Repeat("- a\n", 41) + "--- 0 ----\n",
		"one line more comes":            "*** 0 ****\n--- 1,41 ----\n" + strings.Repeat("+ a\n", 41),
		"one line more, forty stay":      "*** 1,41 ****\n" + wide + "- a\n--- 1,40 ----\n",
		"one line more, and it comes":    "*** 1,40 ****\n--- 1,41 ----\n" + wide + "+ a\n",
		"too long a line goes":           "*** 1 ****\n- " + full(impl.MaxLine+1) + "--- 0 ----\n",
		"too long a line comes":          "*** 0 ****\n--- 1 ----\n+ " + full(impl.MaxLine+1),
		"too long a line stays":          "*** 1,2 ****\n  " + full(impl.MaxLine+1) + "- a\n--- 1 ----\n",
		"too long a line without an end": "*** 1 ****\n- " + strings.Repeat("f", impl.MaxLine+1) + "\n\\ none\n--- 0 ----\n",
	} {
		checkNoSides(t, name, stars+text)
	}
}

func TestWordsForNoEndInHalvesThatAreNone(t *testing.T) {
	const none = "\\ none\n"
	for _, line := range []string{"- a\n", "  b\n! c\n", "! c\n", "  b\n! x\n", "! x\n", "  d\n+ y\n"} {
		first, _, _ := strings.Cut(line, "\n")
		checkEachNone(t, "behind a line ahead of others", goodSides, line, first+"\n"+none+line[len(first)+1:])
	}
	last := stars + "*** 5,6 ****\n! a\n  b\n" + none + "--- 5,6 ----\n! x\n  b\n" + none
	checkSidesTo(t, "the good one", last, groups{groupBy(4, 4, "-a+x=.b")})
	checkEachNone(t, "missing in the old half", last, none+"-", "-", "\n-")
	checkEachNone(t, "missing in the new half", last, "! x\n  b\n"+none, "! x\n  b\n", "! x\n  b\n\n", "! x\n  b")
	checkEachNone(t, "twice in the old half", last, none+"-", none+none+"-")
	checkEachNone(t, "twice in the new half", last, "! x\n  b\n"+none, "! x\n  b\n"+none+none)
	checkEachNone(t, "behind no line", last, "! a\n", none+"! a\n", none)
	checkEachNone(t, "behind no line of the new half", last, "! x\n", none+"! x\n", none)
	checkEachNone(t, "behind a head", last, "----\n", "----\n"+none)
	checkEachNone(t, "behind the row of stars", last, stars, stars+none)
	checkNoSides(t, "ahead of all", none+last)
	checkEachNone(t, "behind an empty line", last, "  b\n"+none+"-", "  \n"+none+"-", "\n"+none+"-")
	checkEachNone(t, "behind an end of its own", last, "  b\n"+none+"-", "  b\n\n"+none+"-")
	for _, word := range []string{"\\ None\n", "\\none\n", "\\  none\n", "\\ none \n", "/ none\n", "\\\n", "\\ No newline at end of file\n", "\\ none\r\n", "none\n", " \\ none\n", "\\ none", "\\ non", "\\"} {
		checkEachNone(t, "another word", last, none+"-", word+"-")
		checkEachNone(t, "another word in the new half", last, "! x\n  b\n"+none, "! x\n  b\n"+word)
	}
	open := stars + "*** 5 ****\n! a\n" + none + "--- 5 ----\n! x\n" + none
	checkSidesTo(t, "no end of both", open, groups{groupBy(4, 4, "-.a+.x")})
	checkSidesTo(t, "no end of one that goes", strings.Replace(open, "! x\n"+none, "! x\n", 1), groups{groupBy(4, 4, "-.a+x")})
	checkSidesTo(t, "no end of one that comes", strings.Replace(open, "! a\n"+none, "! a\n", 1), groups{groupBy(4, 4, "-a+.x")})
	left := stars + "*** 5 ****\n--- 5,6 ----\n+ x\n  b\n" + none
	checkSidesTo(t, "one half", left, groups{groupBy(4, 4, "+x=.b")})
	checkEachNone(t, "behind the half that is left out", left, "****\n", "****\n"+none)
}

func TestBesideThatDoNotFollow(t *testing.T) {
	first := stars + "*** 3,4 ****\n  a\n! b\n--- 3,5 ----\n  a\n! x\n! y\n"
	good := groupBy(2, 2, "=a-b+x+y")
	checkSidesTo(t, "one", first, groups{good})
	behind := groups{groupBy(4, 5, "-a+x"), groupBy(4, 5, "+x"), groupBy(4, 5, "-a"), groupBy(999, 999, "-a+x")}
	for _, k := range behind {
		checkSidesTo(t, "right behind", first+textOfSides(groups{k}), groups{good, k})
	}
	over := groups{groupBy(3, 5, "-a+x"), groupBy(4, 4, "-a+x"), groupBy(3, 4, "-a+x"), groupBy(3, 5, "+x"), groupBy(4, 4, "-a"), good,
		groupBy(0, 5, "-a+x"), groupBy(4, 0, "-a+x"), groupBy(0, 0, "-a+x"), groupBy(0, 5, "+x"), groupBy(4, 0, "-a"), groupBy(2, 2, "+x"), groupBy(2, 5, "-a"), groupBy(4, 2, "+x")}
	for _, k := range over {
		checkNoSides(t, "over one another, or falling", first+textOfSides(groups{k}))
		checkNoSides(t, "over one another, or falling, the third", stars+"*** 0 ****\n--- 1 ----\n+ x\n"+first+textOfSides(groups{k}))
	}
	for _, s := range []string{"\n", " ", "x", "x\n", "*", "***\n", stars, "*** 9 ****\n", stars + "*** 9 ****\n", "--- 9 ----\n", "\\", "-\n", "+\n", "!\n", "- \n", "- a\n", "+ x\n", "! x\n", "  a\n", "@@ -9 +9 @@\n-a\n+x\n", "9c9\n", "\x00", "\xff\n", "0\n", "\r\n", "\n\n", "\\ none\n\\ none\n"} {
		checkNoSides(t, "something behind it", first+s)
		checkNoSides(t, "something behind nothing", s)
	}
	for _, s := range []string{"\n", " ", "x", "x\n", "\xef\xbb\xbf", "*** a\n--- b\n", "diff\n", "  a\n", "! a\n", "\x00", "*", stars} {
		checkNoSides(t, "something ahead", s+first)
	}
	checkNoSides(t, "one group more", textOfSides(growing(impl.MaxHunks+1)))
	checkNoSides(t, "all in one", textOfGroups(groups{good}))
}

func TestAllShortSides(t *testing.T) {
	read := 0
	try := func(text string) {
		if checkAnySides(t, text) {
			read++
		}
	}
	parts := []string{stars, "*** 1 ****\n", "*** 0 ****\n", "--- 1 ----\n", "--- 0 ----\n", "- a\n", "+ b\n", "! a\n"}
	for _, w := range wordsUpTo(parts, 5) {
		try(strings.Join(w, ""))
	}
	olds, news := wordsUpTo([]string{"  a\n", "- a\n", "! a\n", "\\ none\n"}, 3), wordsUpTo([]string{"  a\n", "+ a\n", "! a\n", "\\ none\n"}, 3)
	ranges := func(half []string) []string {
		told := len(half) - strings.Count(strings.Join(half, ""), "\\")
		pair, _ := textsOf(4, told)
		return []string{pair, "4", "5"}
	}
	for _, old := range olds {
		for _, come := range news {
			if len(old)+len(come) > 5 {
				continue
			}
			for _, first := range ranges(old) {
				for _, second := range ranges(come) {
					try(stars + "*** " + first + " ****\n" + strings.Join(old, "") + "--- " + second + " ----\n" + strings.Join(come, ""))
				}
			}
		}
	}
	if read < 150 {
		t.Errorf("only %d texts are read", read)
	}
}

// Each text that is nearly one of groups is read only where it is another one.
func TestSidesThatAreNearlyRead(t *testing.T) {
	bytes := []string{"", "0", "1", "2", ",", "*", "+", "-", "!", "\\", " ", "\n", "x", "\x00"}
	for _, c := range sidesCases() {
		tryNearly(c.text, bytes, func(s string) { checkAnySides(t, s) })
	}
}

func TestSameSides(t *testing.T) {
	x, y := goodBeside(), groups{groupBy(0, 0, "-a+x"), groupBy(4, 4, "=b+y")}
	others := map[string]groups{
		"no groups":             nil,
		"two groups":            y,
		"the first of two":      y[:1],
		"the second of two":     y[1:],
		"another At":            {groupBy(2, 5, "-a=b-c+x=d+y")},
		"another To":            {groupBy(3, 6, "-a=b-c+x=d+y")},
		"both are others":       {groupBy(4, 6, "-a=b-c+x=d+y")},
		"another line goes":     {groupBy(3, 5, "-e=b-c+x=d+y")},
		"another line stays":    {groupBy(3, 5, "-a=e-c+x=d+y")},
		"another line comes":    {groupBy(3, 5, "-a=b-c+e=d+y")},
		"no end":                {groupBy(3, 5, "-a=b-c+x=d+.y")},
		"one row more":          {groupBy(3, 5, "-a=b-c+x=d+y+y")},
		"one row less":          {groupBy(3, 5, "-a=b-c+x=d")},
		"one stays that goes":   {groupBy(3, 5, "=a=b-c+x=d+y")},
		"one goes that stays":   {groupBy(3, 5, "-a-b-c+b+x=d+y")},
		"one goes and comes":    {groupBy(3, 5, "-a=b-c-d+x+d+y")},
		"another group behind":  append(goodBeside(), groupBy(99, 99, "-z")),
		"another group ahead":   append(groups{groupBy(0, 0, "-z")}, goodBeside()...),
		"the same, split":       {groupBy(3, 5, "-a"), groupBy(5, 6, "-c+x"), groupBy(7, 8, "+y")},
		"the same, with less":   {groupBy(3, 5, "-a=b-c+x"), groupBy(7, 8, "+y")},
		"turned to the old one": {groupBy(5, 3, "+a=b-x+c=d-y")},
	}
	for name, g := range others {
		if !impl.GoodGroups(g) {
			t.Errorf("%s: not good: %v", name, g)
		}
		checkSameSides(t, name, textOfSides(x), textOfGroups(g), false, true)
		checkSameSides(t, name, textOfSides(g), textOfGroups(x), false, true)
		checkSameSides(t, name+", itself", textOfSides(g), textOfGroups(g), true, true)
	}
	for _, g := range []groups{nil, x, y} {
		text, all := textOfSides(g), textOfGroups(g)
		for _, bad := range []string{"x", "\n", goodSides + "x", goodSides[1:], textOfGroups(x) + " ", textOfGroups(x)[1:], strings.Repeat(" ", impl.MaxPatch+1)} {
			checkSameSides(t, "the first is none", bad, all, false, false)
			checkSameSides(t, "the second is none", text, bad, false, false)
			checkSameSides(t, "each is none", bad, bad, false, false)
		}
		if len(g) > 0 {
			checkSameSides(t, "the first is all in one", all, all, false, false)
			checkSameSides(t, "the second is beside", text, text, false, false)
			checkSameSides(t, "both in the other's place", all, text, false, false)
		}
	}
	// A range may be told with one all in one, but not beside.
	checkSameSides(t, "told with one", stars+"*** 1 ****\n! a\n--- 1 ----\n! x\n", "@@ -1,1 +1,1 @@\n-a\n+x\n", true, true)
	checkSameSides(t, "told with one beside", stars+"*** 1,1 ****\n! a\n--- 1 ----\n! x\n", "@@ -1 +1 @@\n-a\n+x\n", false, false)
}
