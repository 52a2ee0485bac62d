package tests

import (
	"regexp"
	"slices"
	"strconv"
	"strings"
	"testing"

	"loop.example/g00825/impl"
)

// signOf is what stands ahead of a row's line.
func signOf(kind int) string {
	return map[int]string{impl.RwKeep: " ", impl.RwGone: "-", impl.RwNew: "+"}[kind]
}

func headBy(g impl.Group) string {
	_, old := textsOf(g.At, len(oldLines(g)))
	_, come := textsOf(g.To, len(newLines(g)))
	return "@@ -" + old + " +" + come + " @@\n"
}

// textOfGroups is what is written of groups, good or not.
func textOfGroups(g groups) string {
	var text strings.Builder
	for _, k := range g {
		text.WriteString(headBy(k))
		for _, row := range k.Rows {
			text.WriteString(shownAs(signOf(row.Kind), []string{row.Line}))
		}
	}
	return text.String()
}

// headForm matches a head; whether its four numbers are such is told by oneForm.
var headForm = regexp.MustCompile(`\A@@ -([0-9]+)(,[0-9]+)? \+([0-9]+)(,[0-9]+)? @@\z`)

// rangeBy is the range of a first number, and of how many with a comma ahead, or of one.
func rangeBy(first, many string) two {
	many = strings.TrimPrefix(many, ",")
	if many == "" {
		many = "1"
	}
	if !oneForm.MatchString(first) || !oneForm.MatchString(many) {
		return two{}
	}
	n, _ := strconv.Atoi(first)
	m, _ := strconv.Atoi(many)
	return countOf(n, m)
}

// headed are rows below a head with two ranges.
type headed struct {
	old, come two
	rows      []impl.Row
}

// addLine takes a line that is no head, and says whether it can stand there.
func (k *headed) addLine(line string) bool {
	if line == "\\ none\n" {
		last := len(k.rows) - 1
		if last < 0 || !strings.HasSuffix(k.rows[last].Line, "\n") {
			return false
		}
		k.rows[last].Line = strings.TrimSuffix(k.rows[last].Line, "\n")
		return true
	}
	kind := strings.IndexByte(" -+", line[0]) + 1
	k.rows = append(k.rows, impl.Row{Kind: kind, Line: line[1:]})
	return kind > 0
}

// headedOf cuts a text at its heads, whatever these say of the rows below them.
func headedOf(text string) ([]headed, bool) {
	var all []headed
	for line := range strings.SplitAfterSeq(text, "\n") {
		if line == "" {
			continue
		}
		m := headForm.FindStringSubmatch(strings.TrimSuffix(line, "\n"))
		switch {
		case !strings.HasSuffix(line, "\n"):
			return nil, false
		case m != nil:
			all = append(all, headed{old: rangeBy(m[1], m[2]), come: rangeBy(m[3], m[4])})
		case len(all) == 0 || !all[len(all)-1].addLine(line):
			return nil, false
		}
	}
	return all, true
}

// readBySplit is what a text is read as: cut at its heads first, and held against what these say then.
func readBySplit(text string) (groups, bool) {
	all, ok := headedOf(text)
	if !ok || len(text) > impl.MaxPatch || len(all) > impl.MaxHunks {
		return nil, false
	}
	var g groups
	for i, k := range all {
		next := impl.Group{At: k.old.n, To: k.come.n, Rows: k.rows}
		fits := k.old.ok && k.come.ok && len(oldLines(next)) == k.old.m && len(newLines(next)) == k.come.m
		if !fits || !isGood(next) || i > 0 && !follows(next, g[i-1]) {
			return nil, false
		}
		g = append(g, next)
	}
	return g, true
}

// reading is how a text is read, what a model reads, and whether both are alike.
type reading[T any] struct {
	read  func(text string) ([]T, int, bool)
	model func(text string) ([]T, bool)
	alike func(a, b []T) bool
}

var allInOne = reading[impl.Group]{impl.ReadUnified, readBySplit, alikeGroups}

func (r reading[T]) checkNone(t *testing.T, name, text string) {
	t.Helper()
	if g, code, ok := r.read(text); len(g) != 0 || code != impl.PtBad || ok {
		t.Errorf("%s: %.150q is read as %v, %d, %v", name, text, g, code, ok)
	}
	if g, ok := r.model(text); ok {
		t.Errorf("%s: the model reads %.150q as %v", name, text, g)
	}
}

func (r reading[T]) checkTo(t *testing.T, name, text string, want []T) {
	t.Helper()
	if g, code, ok := r.read(text); !r.alike(g, want) || code != 0 || !ok {
		t.Errorf("%s: %q is read as %v, %d, %v, not %v", name, text, g, code, ok, want)
	}
	if g, ok := r.model(text); !r.alike(g, want) || !ok {
		t.Errorf("%s: the model reads %q as %v, %v", name, text, g, ok)
	}
}

func (r reading[T]) checkAny(t *testing.T, text string) bool {
	t.Helper()
	want, ok := r.model(text)
	if !ok {
		r.checkNone(t, "any", text)
		return false
	}
	r.checkTo(t, "any", text, want)
	return true
}

// checkUnread expects a text to be none of any good groups.
func checkUnread(t *testing.T, name, text string) {
	t.Helper()
	allInOne.checkNone(t, name, text)
}

// checkReadTo expects a text to be read as these groups.
func checkReadTo(t *testing.T, name, text string, want groups) {
	t.Helper()
	allInOne.checkTo(t, name, text, want)
}

// checkAnyText expects of any text what the model tells of it, and says whether it is read.
func checkAnyText(t *testing.T, text string) bool {
	t.Helper()
	return allInOne.checkAny(t, text)
}

// checkShown expects good groups to be written as that text, and to be read from it.
func checkShown(t *testing.T, name string, g groups, text string) {
	t.Helper()
	if s, ok := impl.GroupsText(g); s != text || !ok {
		t.Errorf("%s: GroupsText(%v) = %q, %v, not %q", name, g, s, ok, text)
	}
	checkReadTo(t, name, text, g)
}

// checkNotShown expects no text of groups.
func checkNotShown(t *testing.T, name string, g groups) {
	t.Helper()
	if s, ok := impl.GroupsText(g); s != "" || ok {
		t.Errorf("%s: GroupsText = %.80q, %v", name, s, ok)
	}
}

// doneBy is what groups that stand in lines make of them.
func doneBy(l []string, g groups) []string {
	var made []string
	from := 0
	for _, k := range g {
		made = slices.Concat(made, l[from:k.At], newLines(k))
		from = k.At + len(oldLines(k))
	}
	return append(made, l[from:]...)
}

// applyBy is what ApplyGroups tells of good lines and good groups.
func applyBy(l []string, g groups) ([]string, int) {
	h, code := codeOfGroups(l, g)
	if code != 0 {
		return nil, code
	}
	made := doneBy(l, g)
	if !impl.GoodHunks(len(l), h) || !impl.GoodLines(made) {
		return nil, impl.PtOther
	}
	return made, 0
}

// backBy are groups turned: of each run first the rows that came, as such that go, then those that went.
func backBy(g groups) groups {
	var back groups
	for _, k := range g {
		turned := impl.Group{At: k.To, To: k.At}
		for rows := k.Rows; len(rows) > 0; {
			kind := rows[0].Kind
			end := slices.IndexFunc(rows, func(r impl.Row) bool { return (r.Kind == impl.RwKeep) != (kind == impl.RwKeep) })
			if end < 0 {
				end = len(rows)
			}
			run := impl.Group{Rows: rows[:end]}
			if kind == impl.RwKeep {
				turned.Rows = append(turned.Rows, run.Rows...)
			} else {
				turned.Rows = append(turned.Rows, rowsAs(impl.RwGone, newLines(run))...)
				turned.Rows = append(turned.Rows, rowsAs(impl.RwNew, oldLines(run))...)
			}
			rows = rows[end:]
		}
		back = append(back, turned)
	}
	return back
}

func rowsAs(kind int, l []string) []impl.Row {
	var rows []impl.Row
	for _, line := range l {
		rows = append(rows, impl.Row{Kind: kind, Line: line})
	}
	return rows
}

// checkDone expects what ApplyGroups tells.
func checkDone(t *testing.T, name string, l []string, g groups, want []string, code int) {
	t.Helper()
	if made, got, ok := impl.ApplyGroups(l, g); !slices.Equal(made, want) || got != code || !ok {
		t.Errorf("%s: ApplyGroups(%q, %v) = %q, %d, %v, not %q, %d", name, l, g, made, got, ok, want, code)
	}
}

// checkBack expects what BackGroups tells, and that it is turned back to the same groups.
func checkBack(t *testing.T, name string, g, want groups) {
	t.Helper()
	back, ok := impl.BackGroups(g)
	if !alikeGroups(back, want) || !ok {
		t.Errorf("%s: BackGroups(%v) = %v, %v, not %v", name, g, back, ok, want)
	}
	if !impl.GoodGroups(back) {
		t.Errorf("%s: not good: %v", name, back)
	}
	if again, ok := impl.BackGroups(back); !alikeGroups(again, g) || !ok {
		t.Errorf("%s: turned twice: %v, %v, not %v", name, again, ok, g)
	}
}

// checkApplied expects the code that the model tells; groups that are done are done back, too.
func checkApplied(t *testing.T, name string, l []string, g groups, want int) {
	t.Helper()
	made, code := applyBy(l, g)
	if code != want {
		t.Errorf("%s: the model tells %d, not %d", name, code, want)
	}
	checkDone(t, name, l, g, made, want)
	checkBack(t, name, g, backBy(g))
	if want == 0 {
		back, _ := impl.BackGroups(g)
		checkDone(t, name+", and back", made, back, l, 0)
	}
}

// checkUnified expects hunks that can be done to be written as the text, and that to do what they do.
func checkUnified(t *testing.T, name string, l []string, h hunks, width int, text string) {
	t.Helper()
	if s, ok := impl.UnifiedText(l, h, width); s != text || !ok {
		t.Errorf("%s: UnifiedText(%#v, %#v, %d) = %q, %v, not %q", name, l, h, width, s, ok, text)
	}
	g := groupsBy(l, h, width)
	checkShown(t, name, g, text)
	checkApplied(t, name, l, g, 0)
	read, _, _ := impl.ReadUnified(text)
	checkDone(t, name+", read", l, read, plainOf(change(markedOf(l), h)), 0)
}

// shownCase is what groups are written as.
type shownCase struct {
	name string
	g    groups
	text string
}

func headCases() []shownCase {
	return []shownCase{
		{"no groups", nil, ""},
		{"an empty list", groups{}, ""},
		{"none and one", groups{groupBy(0, 0, "+x")}, "@@ -0,0 +1 @@\n+x\n"},
		{"one and none", groups{groupBy(0, 0, "-a")}, "@@ -1 +0,0 @@\n-a\n"},
		{"none and two", groups{groupBy(0, 0, "+x+y")}, "@@ -0,0 +1,2 @@\n+x\n+y\n"},
		{"two and none", groups{groupBy(0, 0, "-a-b")}, "@@ -1,2 +0,0 @@\n-a\n-b\n"},
		{"one and one", groups{groupBy(0, 0, "-a+x")}, "@@ -1 +1 @@\n-a\n+x\n"},
		{"one and two", groups{groupBy(0, 0, "=a+x")}, "@@ -1 +1,2 @@\n a\n+x\n"},
		{"two and one", groups{groupBy(0, 0, "=a-b")}, "@@ -1,2 +1 @@\n a\n-b\n"},
		{"two and two", groups{groupBy(0, 0, "=a-b+x")}, "@@ -1,2 +1,2 @@\n a\n-b\n+x\n"},
		{"none and one, further", groups{groupBy(7, 9, "+x")}, "@@ -7,0 +10 @@\n+x\n"},
		{"one and none, further", groups{groupBy(7, 9, "-a")}, "@@ -8 +9,0 @@\n-a\n"},
		{"four and three, further", groups{groupBy(99, 9, "=a-b-c+x=d")}, "@@ -100,4 +10,3 @@\n a\n-b\n-c\n+x\n d\n"},
		{"two runs", groups{groupBy(3, 5, "-a+x=b=c+y")}, "@@ -4,3 +6,4 @@\n-a\n+x\n b\n c\n+y\n"},
		{"three runs", groups{groupBy(3, 5, "+x=a-b=c-d+y=e")}, "@@ -4,5 +6,5 @@\n+x\n a\n-b\n c\n-d\n+y\n e\n"},
		{"two groups", groups{groupBy(0, 0, "-a=b"), groupBy(5, 4, "=f+x")}, "@@ -1,2 +1 @@\n-a\n b\n@@ -6 +5,2 @@\n f\n+x\n"},
		{"two side by side", groups{groupBy(1, 1, "+x"), groupBy(1, 2, "-b")}, "@@ -1,0 +2 @@\n+x\n@@ -2 +2,0 @@\n-b\n"},
		{"three that need not fit", groups{groupBy(0, 9, "+x"), groupBy(40, 10, "-a"), groupBy(500, 900, "=a-b=c")},
			"@@ -0,0 +10 @@\n+x\n@@ -41 +10,0 @@\n-a\n@@ -501,3 +901,2 @@\n a\n-b\n c\n"},
		{"the last places", groups{groupBy(999, 999, "-a+x")}, "@@ -1000 +1000 @@\n-a\n+x\n"},
		{"the last places of none", groups{groupBy(999, 998, "+x+y")}, "@@ -999,0 +999,2 @@\n+x\n+y\n"},
		{"the last places of two", groups{groupBy(998, 999, "-a-b")}, "@@ -999,2 +999,0 @@\n-a\n-b\n"},
	}
}

// lineCases have lines without an end, or such as are like what is written around them.
func lineCases() []shownCase {
	like := []string{"@@ -1 +1 @@\n", "\\ none\n", " \n", "-\n", "+a\n", "\n", "--- a\n", "+++ b\n", "\xff\x00\r\n"}
	rows := slices.Concat(rowsAs(impl.RwGone, like), rowsAs(impl.RwNew, like))
	shown := "%@@ -1 +1 @@\n%\\ none\n% \n%-\n%+a\n%\n%--- a\n%+++ b\n%\xff\x00\r\n"
	return []shownCase{
		{"one without an end stays", groups{groupBy(0, 0, "-a=.b")}, "@@ -1,2 +1 @@\n-a\n b\n\\ none\n"},
		{"it stays behind one that came", groups{groupBy(0, 0, "+a=.b")}, "@@ -1 +1,2 @@\n+a\n b\n\\ none\n"},
		{"it goes", groups{groupBy(0, 0, "=a-.b")}, "@@ -1,2 +1 @@\n a\n-b\n\\ none\n"},
		{"it goes alone", groups{groupBy(4, 4, "-.b")}, "@@ -5 +4,0 @@\n-b\n\\ none\n"},
		{"it comes", groups{groupBy(0, 0, "=a+.b")}, "@@ -1 +1,2 @@\n a\n+b\n\\ none\n"},
		{"it comes alone", groups{groupBy(4, 4, "+.b")}, "@@ -4,0 +5 @@\n+b\n\\ none\n"},
		{"one goes, and one comes", groups{groupBy(0, 0, "=a-.b+.c")}, "@@ -1,2 +1,2 @@\n a\n-b\n\\ none\n+c\n\\ none\n"},
		{"its end comes", groups{groupBy(0, 0, "-.b+b")}, "@@ -1 +1 @@\n-b\n\\ none\n+b\n"},
		{"its end goes", groups{groupBy(0, 0, "-b+.b")}, "@@ -1 +1 @@\n-b\n+b\n\\ none\n"},
		{"more come behind it", groups{groupBy(0, 0, "-.b+b+c")}, "@@ -1 +1,2 @@\n-b\n\\ none\n+b\n+c\n"},
		{"more come, the last without one, too", groups{groupBy(0, 0, "-.b+b+.c")}, "@@ -1 +1,2 @@\n-b\n\\ none\n+b\n+c\n\\ none\n"},
		{"a group behind it", groups{groupBy(0, 0, "-.b"), groupBy(1, 0, "=a-.b+.c")}, "@@ -1 +0,0 @@\n-b\n\\ none\n@@ -2,2 +1,2 @@\n a\n-b\n\\ none\n+c\n\\ none\n"},
		{"lines like what is around them go", groups{{At: 2, To: 2, Rows: rows[:9]}}, "@@ -3,9 +2,0 @@\n" + strings.ReplaceAll(shown, "%", "-")},
		{"such lines come", groups{{At: 2, To: 2, Rows: rows[9:]}}, "@@ -2,0 +3,9 @@\n" + strings.ReplaceAll(shown, "%", "+")},
		{"such lines go and come", groups{{At: 2, To: 2, Rows: rows}}, "@@ -3,9 +3,9 @@\n" + strings.ReplaceAll(shown, "%", "-") + strings.ReplaceAll(shown, "%", "+")},
		{"such lines stay", groups{{At: 2, To: 2, Rows: append(rowsAs(impl.RwKeep, like), rows[0])}}, "@@ -3,10 +3,9 @@\n" + strings.ReplaceAll(shown, "%", " ") + "-@@ -1 +1 @@\n"},
		{"a last line that is the word", groups{{Rows: rowsAs(impl.RwNew, []string{"\\ none"})}}, "@@ -0,0 +1 @@\n+\\ none\n\\ none\n"},
		{"a last line that is a sign", groups{{Rows: rowsAs(impl.RwGone, []string{"-"})}}, "@@ -1 +0,0 @@\n--\n\\ none\n"},
	}
}

func TestGroupsText(t *testing.T) {
	for _, c := range append(headCases(), lineCases()...) {
		if !impl.GoodGroups(c.g) {
			t.Errorf("%s: not good: %v", c.name, c.g)
		}
		checkShown(t, c.name, c.g, c.text)
		if got := textOfGroups(c.g); got != c.text {
			t.Errorf("%s: the model tells %q, not %q", c.name, got, c.text)
		}
	}
}

// The words of a head are those of CountText, at each number of lines on either side.
func TestHeadsOfEachSize(t *testing.T) {
	for old := range impl.MaxLines + 1 {
		for come := range impl.MaxLines + 1 {
			if old+come == 0 {
				continue
			}
			for _, place := range []int{0, 1, 9, 959} {
				g := impl.Group{At: place, To: 960 - place, Rows: append(rowsAs(impl.RwGone, manyLines(old)), rowsAs(impl.RwNew, manyLines(come))...)}
				first, _ := impl.CountText(g.At, old)
				second, _ := impl.CountText(g.To, come)
				text := "@@ -" + first + " +" + second + " @@\n" + strings.Repeat("-l\n", old) + strings.Repeat("+l\n", come)
				checkShown(t, "so many", groups{g}, text)
			}
		}
	}
}

// sized are good groups of which so many bytes are written, the last one of them with one line that comes.
func sized(t *testing.T, bytes int, write func(groups) string) groups {
	t.Helper()
	wide := func(at int, l ...string) impl.Group {
		return impl.Group{At: at, Rows: rowsAs(impl.RwGone, l)}
	}
	lines := slices.Repeat([]string{full(impl.MaxLine)}, impl.MaxLines)
	// Places with one digit less or more stand for lines that would be less than the shortest.
	ends := groups{groupBy(500, 0, "+x"), groupBy(99, 0, "+x"), groupBy(500, 10, "+x")}
	for n := range impl.MaxLines {
		for _, last := range ends {
			third := wide(2*impl.MaxLines, append(lines[:n:n], "\n")...)
			g := groups{wide(0, lines...), wide(impl.MaxLines, lines...), third, last}
			missing := bytes - len(write(g))
			if missing >= 0 && missing < impl.MaxLine {
				third.Rows[n].Line = full(1 + missing)
				return g
			}
		}
	}
	t.Fatalf("no groups of %d bytes", bytes)
	return nil
}

func TestGroupsTextOfMostBytes(t *testing.T) {
	for bytes := impl.MaxPatch - 40; bytes <= impl.MaxPatch; bytes++ {
		g := sized(t, bytes, textOfGroups)
		if n := len(textOfGroups(g)); n != bytes {
			t.Fatalf("%d bytes, not %d", n, bytes)
		}
		checkShown(t, "few enough bytes", g, textOfGroups(g))
	}
	for bytes := impl.MaxPatch + 1; bytes <= impl.MaxPatch+40; bytes++ {
		g := sized(t, bytes, textOfGroups)
		if !impl.GoodGroups(g) {
			t.Fatalf("not good: %v", g)
		}
		checkNotShown(t, "too many bytes", g)
		checkUnread(t, "too many bytes", textOfGroups(g))
		checkBack(t, "too many bytes", g, backBy(g))
	}
	var much groups
	for i := range impl.MaxHunks {
		much = append(much, impl.Group{At: i * impl.MaxLines, Rows: rowsAs(impl.RwGone, slices.Repeat([]string{full(impl.MaxLine)}, impl.MaxLines))})
	}
	if !impl.GoodGroups(much) {
		t.Fatal("not good")
	}
	checkNotShown(t, "much too many bytes", much)
	checkUnread(t, "much too many bytes", textOfGroups(much))
	checkBack(t, "much too many bytes", much, backBy(much))
	for n := range impl.MaxHunks + 1 {
		checkShown(t, "many groups", growing(n), strings.Join(textsOfEach(growing(n)), ""))
	}
}

// textsOfEach are the texts of groups, each by itself.
func textsOfEach(g groups) []string {
	var all []string
	for _, k := range g {
		all = append(all, textOfGroups(groups{k}))
	}
	return all
}

// The longer way to write a range counts, too: what has more than most bytes by it is no text.
func TestMostBytesWithOnes(t *testing.T) {
	withOne := func(g groups) string {
		return strings.Replace(textOfGroups(g), " +1 @@", " +1,1 @@", 1)
	}
	for less := 2; less <= 9; less++ {
		g := sized(t, impl.MaxPatch-less, textOfGroups)
		if s := withOne(g); len(s) != impl.MaxPatch-less+2 {
			t.Fatalf("%d bytes", len(s))
		}
		checkReadTo(t, "few enough bytes", withOne(g), g)
	}
	for less := range 2 {
		checkUnread(t, "too many bytes", withOne(sized(t, impl.MaxPatch-less, textOfGroups)))
	}
}

func TestUnifiedText(t *testing.T) {
	l := linesBy("abcdefgh")
	h := hunks{{At: 1, Gone: 1}, {At: 4, Gone: 1, New: linesBy("xy")}, {At: 8, New: linesBy(".z")}}
	wide := "@@ -1,8 +1,9 @@\n a\n-b\n c\n d\n-e\n+x\n+y\n f\n g\n h\n+z\n\\ none\n"
	checkUnified(t, "width 0", l, h, 0, "@@ -2 +1,0 @@\n-b\n@@ -5 +4,2 @@\n-e\n+x\n+y\n@@ -8,0 +9 @@\n+z\n\\ none\n")
	checkUnified(t, "width 1", l, h, 1, "@@ -1,6 +1,6 @@\n a\n-b\n c\n d\n-e\n+x\n+y\n f\n@@ -8 +8,2 @@\n h\n+z\n\\ none\n")
	for width := 2; width <= impl.MaxWidth; width++ {
		checkUnified(t, "wider", l, h, width, wide)
		checkUnified(t, "no hunks", l, nil, width, "")
	}
	for _, c := range slices.Concat(oneGroupCases(), manyGroupCases(), openGroupCases()) {
		checkUnified(t, c.name, c.l, c.h, c.width, textOfGroups(c.want))
	}
}

func TestUnifiedTextOfAllSmallHunks(t *testing.T) {
	for _, l := range smallTexts() {
		for _, h := range hunksFor(len(l), smallNews()) {
			made := plainOf(change(markedOf(l), h))
			for _, width := range []int{0, 1, impl.MaxWidth} {
				if !impl.GoodLines(made) {
					checkNoUnified(t, "small", l, h, width)
					continue
				}
				checkUnified(t, "small", l, h, width, textOfGroups(groupsBy(l, h, width)))
			}
		}
	}
	more := linesBy("abcdef")
	for _, h := range hunksFor(len(more), [][]string{nil, linesBy("x")}) {
		for width := range 3 {
			checkUnified(t, "more", more, h, width, textOfGroups(groupsBy(more, h, width)))
		}
	}
}

// No hunks that can be done have more than MaxPatch bytes.
func TestUnifiedTextOfMost(t *testing.T) {
	wide := slices.Repeat([]string{full(impl.MaxLine)}, impl.MaxLines)
	last := slices.Concat(wide[1:], []string{strings.Repeat("h", impl.MaxLine)})
	cases := map[string]hunks{
		"all lines are others": {{Gone: impl.MaxLines, New: last}},
		"all lines go":         {{Gone: impl.MaxLines}},
		"most hunks":           everySecond(impl.MaxHunks, 1, wide[:1]),
		"most hunks, all go":   everySecond(impl.MaxHunks, 1, nil),
		"no hunks":             nil,
	}
	for name, h := range cases {
		for _, l := range [][]string{wide, last} {
			for _, width := range []int{0, 1, impl.MaxWidth} {
				checkUnified(t, name, l, h, width, textOfGroups(groupsBy(l, h, width)))
			}
		}
	}
	checkUnified(t, "most lines come", nil, hunks{{New: last}}, 1, textOfGroups(groupsBy(nil, hunks{{New: last}}, 1)))
}

// What is different between two texts is written, read, done, and done back.
func TestUnifiedTextOfDiffs(t *testing.T) {
	for seed := range 40 {
		a, b := mixed(seed, 3, seed), mixed(impl.MaxLines-seed, 3, seed+7)
		h, ok := impl.DiffHunks(a, b)
		if !ok {
			continue
		}
		for width := range 5 {
			g := groupsBy(a, h, width)
			checkUnified(t, "of a difference", a, h, width, textOfGroups(g))
			checkDone(t, "of a difference", a, g, b, 0)
		}
	}
}

// onesCase is a text with ranges that are told with how many, though it is one.
type onesCase struct {
	name, text string
	want       groups
}

func onesCases() []onesCase {
	return []onesCase{
		{"the first", "@@ -1,1 +1 @@\n-a\n+x\n", groups{groupBy(0, 0, "-a+x")}},
		{"the second", "@@ -1 +1,1 @@\n-a\n+x\n", groups{groupBy(0, 0, "-a+x")}},
		{"both", "@@ -1,1 +1,1 @@\n-a\n+x\n", groups{groupBy(0, 0, "-a+x")}},
		{"the first, none come", "@@ -8,1 +9,0 @@\n-a\n", groups{groupBy(7, 9, "-a")}},
		{"the second, none go", "@@ -7,0 +10,1 @@\n+x\n", groups{groupBy(7, 9, "+x")}},
		{"the first, two come", "@@ -8,1 +10,2 @@\n a\n+x\n", groups{groupBy(7, 9, "=a+x")}},
		{"the second, two go", "@@ -8,2 +10,1 @@\n a\n-b\n", groups{groupBy(7, 9, "=a-b")}},
		{"the last places", "@@ -1000,1 +1000,1 @@\n-a\n+x\n", groups{groupBy(999, 999, "-a+x")}},
		{"no end", "@@ -1,1 +1,1 @@\n-a\n\\ none\n+x\n\\ none\n", groups{groupBy(0, 0, "-.a+.x")}},
		{"of two groups the first", "@@ -1,1 +1 @@\n-a\n+x\n@@ -5 +5 @@\n-a\n+x\n", groups{groupBy(0, 0, "-a+x"), groupBy(4, 4, "-a+x")}},
		{"of two groups the second", "@@ -1 +1 @@\n-a\n+x\n@@ -5 +5,1 @@\n-a\n+x\n", groups{groupBy(0, 0, "-a+x"), groupBy(4, 4, "-a+x")}},
	}
}

func TestRangesThatAreToldWithOne(t *testing.T) {
	for _, c := range onesCases() {
		checkReadTo(t, c.name, c.text, c.want)
		s, ok := impl.GroupsText(c.want)
		if !ok || strings.Contains(s, ",1") {
			t.Errorf("%s: GroupsText = %q, %v", c.name, s, ok)
		}
		checkReadTo(t, c.name+", written", s, c.want)
	}
	for place := range 1000 {
		first, second := strconv.Itoa(place+1), strconv.Itoa(1000-place)
		want := groups{groupBy(place, 999-place, "-a+x")}
		for _, head := range []string{first + " +" + second, first + ",1 +" + second, first + " +" + second + ",1", first + ",1 +" + second + ",1"} {
			checkReadTo(t, "each place", "@@ -"+head+" @@\n-a\n+x\n", want)
		}
	}
}

func TestHeadsThatAreNone(t *testing.T) {
	heads := map[string][]string{
		"another sign": {"@@ +1 +1 @@", "@@ -1 -1 @@", "@@ +1 -1 @@", "@@ 1 +1 @@", "@@ -1 1 @@", "@@ 1 1 @@", "@@ --1 +1 @@", "@@ -1 ++1 @@", "@@ -+1 +1 @@", "@@ -1 -+1 @@",
			"@ -1 +1 @@", "@@ -1 +1 @", "@@@ -1 +1 @@", "@@ -1 +1 @@@", "-1 +1", " -1 +1 ", "-1 +1 @@", "@@ -1 +1", "## -1 +1 ##", "*** 1 ****", "--- 1 ----", "1c1", "@@ -1 @@", "@@ +1 @@", "@@ @@", "@@@@", "@@", "@@ -", "@@ - @@", "@@ - + @@"},
		"another blank": {"@@-1 +1 @@", "@@ -1 +1@@", "@@ -1+1 @@", "@@  -1 +1 @@", "@@ -1  +1 @@", "@@ -1 +1  @@", "@@ - 1 +1 @@", "@@ -1 + 1 @@", "@@ -1 +1 @@ ", " @@ -1 +1 @@", "@@ -1 +1 @@\r", "@@\t-1 +1 @@",
			"@@ -1\t+1 @@", "@@ -1 +1\t@@", "@@ -1, 1 +1 @@", "@@ -1 ,1 +1 @@", "@@ -1 +1 @@ f", "@@ -1 +1 @@f", "@@ -1 +1 +1 @@", "@@ -1 -1 +1 @@", "@@ -1 +1 @@ @@"},
		"another number": {"@@ -01 +1 @@", "@@ -1 +01 @@", "@@ -001 +1 @@", "@@ -1,01 +1 @@", "@@ -1 +1,01 @@", "@@ -a +1 @@", "@@ -1 +a @@", "@@ -1x +1 @@", "@@ -1 +x1 @@", "@@ -1.0 +1 @@", "@@ -0x1 +1 @@",
			"@@ -1e0 +1 @@", "@@ -\uff11 +1 @@", "@@ -1 +\u0661 @@", "@@ -10000 +1 @@", "@@ -1 +10000 @@", "@@ -65537 +1 @@", "@@ -4294967297 +1 @@", "@@ -18446744073709551617 +1 @@", "@@ -1 +18446744073709551617 @@",
			"@@ -1,18446744073709551617 +1 @@", "@@ -1 +1,4294967297 @@", "@@ -9223372036854775808 +1 @@", "@@ --9223372036854775809 +1 @@", "@@ -1_0 +1 @@"},
		"a range that is none": {"@@ -0 +1 @@", "@@ -1 +0 @@", "@@ -0 +0 @@", "@@ -0,1 +1 @@", "@@ -1 +0,1 @@", "@@ - +1 @@", "@@ -1 + @@", "@@ -, +1 @@", "@@ -1, +1 @@", "@@ -,1 +1 @@", "@@ -1 +1, @@", "@@ -1 +,1 @@",
			"@@ -1,,1 +1 @@", "@@ -1,1,1 +1 @@", "@@ -1 +1,1,1 @@", "@@ -1;1 +1 @@", "@@ -1-1 +1 @@", "@@ -1,-1 +1 @@", "@@ -1,+1 +1 @@", "@@ -1001 +1 @@", "@@ -1 +1001 @@", "@@ -1001,1 +1 @@", "@@ -1 +1001,1 @@", "@@ -9999 +1 @@", "@@ -1,1000 +1 @@", "@@ -1 +1,9999 @@"},
		"another many": {"@@ -1,0 +1 @@", "@@ -1 +1,0 @@", "@@ -0,0 +1 @@", "@@ -1 +0,0 @@", "@@ -0,0 +0,0 @@", "@@ -1,0 +1,0 @@", "@@ -1,2 +1 @@", "@@ -1 +1,2 @@", "@@ -1,2 +1,2 @@", "@@ -1,3 +1,3 @@", "@@ -1,40 +1 @@", "@@ -1,41 +1 @@", "@@ -1,999 +1 @@", "@@ -1 +1,999 @@", "@@ -2,999 +1 @@"},
	}
	good := "@@ -1 +1 @@\n-a\n+x\n"
	checkReadTo(t, "the good one", good, groups{groupBy(0, 0, "-a+x")})
	for name, all := range heads {
		for _, head := range all {
			checkUnread(t, name, head+"\n-a\n+x\n")
			checkUnread(t, name+", the first of two", head+"\n-a\n+x\n@@ -100 +100 @@\n-a\n+x\n")
			checkUnread(t, name+", alone", head+"\n")
			checkUnread(t, name+", without its end", head)
			checkUnread(t, name+", no end of the head", head+"-a\n+x\n")
		}
	}
	// Heads without lines of a text have no place 1000.
	for _, head := range []string{"@@ -1000,0 +1 @@", "@@ -1001,0 +1 @@", "@@ -9999,0 +1 @@", "@@ -0 +1 @@", "@@ -,0 +1 @@", "@@ -0,00 +1 @@", "@@ -00,0 +1 @@"} {
		checkUnread(t, "none at no place", head+"\n+x\n")
		checkUnread(t, "none at no place", strings.NewReplacer("-", "+", "+", "-").Replace(head)+"\n-x\n")
	}
	checkUnread(t, "none at no place, the new one", "@@ -1 +1000,0 @@\n-a\n")
	checkReadTo(t, "none at the last place", "@@ -1 +999,0 @@\n-a\n", groups{groupBy(0, 999, "-a")})
	checkUnread(t, "beyond line 1000", "@@ -1000,2 +1 @@\n-a\n-b\n+x\n")
	checkUnread(t, "beyond line 1000, the new one", "@@ -1 +1000,2 @@\n-a\n+x\n+y\n")
}

func TestRowsThatAreNone(t *testing.T) {
	const two = "@@ -1,2 +1,2 @@\n"
	checkReadTo(t, "the good one", two+" a\n-b\n+x\n", groups{groupBy(0, 0, "=a-b+x")})
	cases := map[string][]string{
		"no rows":              {two, "@@ -0,0 +0,0 @@\n", "@@ -5,0 +5,0 @@\n", "@@ -1 +1 @@\n"},
		"too few rows":         {two + " a\n", two + " a\n-b\n", two + " a\n+x\n", two + "-a\n-b\n", two + "+x\n+y\n", two + "-a\n-b\n+x\n", "@@ -1 +0,0 @@\n", "@@ -0,0 +1 @@\n"},
		"too many rows":        {two + " a\n-b\n+x\n c\n", two + " a\n-b\n+x\n-c\n", two + " a\n-b\n+x\n+y\n", two + "-a\n-b\n-c\n+x\n+y\n", two + " a\n b\n-c\n", two + " a\n b\n+c\n", "@@ -0,0 +1 @@\n+x\n+y\n", "@@ -1 +0,0 @@\n-a\n-b\n"},
		"one of both too many": {"@@ -0,0 +2 @@\n-a\n+x\n", "@@ -0,0 +2 @@\n x\n+y\n", "@@ -1 +2,0 @@\n-a\n+x\n", "@@ -1,2 +1 @@\n-a\n+x\n+y\n", "@@ -1 +1,2 @@\n-a\n-b\n+x\n+y\n", "@@ -1 +1,2 @@\n a\n-b\n+x\n", "@@ -1,2 +1 @@\n a\n+x\n-b\n"},
		"all rows stay":        {"@@ -1 +1 @@\n a\n", two + " a\n b\n", "@@ -1,3 +1,3 @@\n a\n b\n c\n"},
		"an unknown sign":      {two + "*a\n-b\n+x\n", two + " a\n<b\n+x\n", two + " a\n-b\n>x\n", two + " a\n!b\n!x\n", two + "\ta\n-b\n+x\n", two + "=a\n-b\n+x\n", two + " a\n-b\n\x00x\n", two + "\xffa\n-b\n+x\n", two + "0a\n-b\n+x\n", two + " a\n@b\n+x\n"},
		"a sign missing":       {two + "a\n-b\n+x\n", two + " a\nb\n+x\n", two + " a\n-b\nx\n", two + "\n-b\n+x\n", two + " a\n\n+x\n", two + " a\n-b\n\n"},
		"what goes behind what comes": {"@@ -1 +1 @@\n+x\n-a\n", two + " a\n+x\n-b\n", two + "-a\n+x\n+y\n-b\n", two + "+x\n-a\n+y\n-b\n", two + "+x\n+y\n-a\n-b\n", "@@ -1,3 +1,3 @@\n-a\n+x\n b\n+y\n-c\n",
			"@@ -1 +1 @@\n+x\n\\ none\n-a\n", "@@ -1 +1 @@\n+x\n\\ none\n-a\n\\ none\n"},
		"too long a line":   {"@@ -1 +0,0 @@\n-" + full(impl.MaxLine+1), "@@ -0,0 +1 @@\n+" + full(impl.MaxLine+1), "@@ -1 +1,2 @@\n " + full(impl.MaxLine+1) + "+x\n", "@@ -0,0 +1 @@\n+" + strings.Repeat("f", impl.MaxLine+1) + "\n\\ none\n"},
		"too many lines":    {"@@ -1,41 +0,0 @@\n" + strings.Repeat("-a\n", 41), "@@ -0,0 +1,41 @@\n" + strings.Repeat("+a\n", 41), "@@ -1,41 +1,40 @@\n" + strings.Repeat(" a\n", 40) + "-a\n", "@@ -1,40 +1,41 @@\n" + strings.Repeat(" a\n", 40) + "+a\n"},
		"no end of the row": {"@@ -1 +0,0 @@\n-a", "@@ -1 +0,0 @@\n-", "@@ -0,0 +1 @@\n+x", "@@ -0,0 +1 @@\n+", two + " a\n-b\n+x", two + " a\n-b\n+"},
		"other ends":        {"@@ -1 +0,0 @@\r\n-a\r\n", "@@ -1 +0,0 @@\r-a\r", "@@ -1 +0,0 @@\x00-a\x00"},
	}
	for name, texts := range cases {
		for _, s := range texts {
			checkUnread(t, name, s)
			checkUnread(t, name+", ahead of another group", s+"@@ -100 +100 @@\n-a\n+x\n")
		}
	}
}

func TestWordsForNoEndThatAreNone(t *testing.T) {
	const two, none = "@@ -1,2 +1,2 @@\n", "\\ none\n"
	cases := map[string][]string{
		"behind a line ahead of others": {two + " a\n" + none + "-b\n+x\n", "@@ -1,2 +0,0 @@\n-a\n" + none + "-b\n", "@@ -0,0 +1,2 @@\n+x\n" + none + "+y\n", two + "-a\n" + none + "+x\n b\n", two + "-a\n+x\n" + none + " b\n",
			"@@ -1,2 +1,2 @@\n-a\n" + none + "-b\n+x\n+y\n", "@@ -1 +1,2 @@\n-a\n+x\n" + none + "+y\n", "@@ -1 +1,2 @@\n a\n" + none + "+x\n", "@@ -1,2 +1 @@\n a\n" + none + "-b\n", "@@ -1 +1,2 @@\n a\n" + none + "+x\n" + none},
		"twice":                     {"@@ -1 +0,0 @@\n-a\n" + none + none, two + " a\n-b\n" + none + none + "+x\n", two + " a\n-b\n+x\n" + none + none},
		"behind no line":            {none, "@@ -1 +0,0 @@\n" + none, "@@ -1 +0,0 @@\n" + none + "-a\n", none + "@@ -1 +0,0 @@\n-a\n", "@@ -0,0 +0,0 @@\n" + none, two + none + " a\n-b\n+x\n"},
		"behind an empty line":      {"@@ -1 +0,0 @@\n-\n" + none, "@@ -0,0 +1 @@\n+\n" + none, "@@ -1 +1,2 @@\n+x\n \n" + none},
		"behind an end of its own":  {"@@ -1 +0,0 @@\n-a\n\n" + none, "@@ -0,0 +1 @@\n+x\n\n" + none},
		"in place of a line":        {two + " a\n-b\n" + none, "@@ -1,2 +0,0 @@\n-a\n" + none, "@@ -1 +1 @@\n-a\n" + none},
		"other words":               {"@@ -1 +0,0 @@\n-a\n\\ None\n", "@@ -1 +0,0 @@\n-a\n\\none\n", "@@ -1 +0,0 @@\n-a\n\\  none\n", "@@ -1 +0,0 @@\n-a\n\\ none \n", "@@ -1 +0,0 @@\n-a\n/ none\n", "@@ -1 +0,0 @@\n-a\n\\\n", "@@ -1 +0,0 @@\n-a\n\\ No newline at end of file\n", "@@ -1 +0,0 @@\n-a\n\\ none\r\n", "@@ -1 +0,0 @@\n-a\nnone\n"},
		"without its own end":       {"@@ -1 +0,0 @@\n-a\n\\ none", "@@ -1 +0,0 @@\n-a\n\\ non", "@@ -0,0 +1 @@\n+x\n\\"},
		"missing, and no end there": {"@@ -1 +0,0 @@\n-a", "@@ -0,0 +1 @@\n+x", two + " a\n-b\n+x", "@@ -1 +1,2 @@\n+x\n a"},
	}
	for name, texts := range cases {
		for _, s := range texts {
			checkUnread(t, name, s)
		}
	}
}

func TestGroupsThatDoNotFollow(t *testing.T) {
	const first = "@@ -3,2 +3,3 @@\n a\n-b\n+x\n+y\n"
	good := groupBy(2, 2, "=a-b+x+y")
	checkReadTo(t, "one", first, groups{good})
	checkReadTo(t, "right behind", first+"@@ -5 +6 @@\n-a\n+x\n", groups{good, groupBy(4, 5, "-a+x")})
	checkReadTo(t, "none right behind", first+"@@ -4,0 +6 @@\n+x\n", groups{good, groupBy(4, 5, "+x")})
	checkReadTo(t, "none come right behind", first+"@@ -5 +5,0 @@\n-a\n", groups{good, groupBy(4, 5, "-a")})
	cases := map[string][]string{
		"over one another":    {"@@ -4 +6 @@\n-a\n+x\n", "@@ -5 +5 @@\n-a\n+x\n", "@@ -4 +5 @@\n-a\n+x\n", "@@ -3,0 +6 @@\n+x\n", "@@ -5 +4,0 @@\n-a\n", first},
		"falling":             {"@@ -1 +6 @@\n-a\n+x\n", "@@ -5 +1 @@\n-a\n+x\n", "@@ -1 +1 @@\n-a\n+x\n", "@@ -0,0 +6 @@\n+x\n", "@@ -5 +0,0 @@\n-a\n"},
		"something behind it": {"\n", " ", "x", "x\n", "@@\n", "@", "\\", "-\n", "+\n", " \n", "-a\n", "+x\n", " a\n", "--- a\n", "\x00", "\xff\n", "0\n", "1c1\n", "\r\n", "\n\n"},
	}
	for name, texts := range cases {
		for _, s := range texts {
			checkUnread(t, name, first+s)
			checkUnread(t, name+", the third", "@@ -0,0 +1 @@\n+x\n"+first+s)
		}
	}
	for _, s := range []string{"\n", " ", "x", "x\n", "\xef\xbb\xbf", "--- a\n+++ b\n", "diff\n", " a\n", "-a\n", "+x\n", "\x00", "@"} {
		checkUnread(t, "something ahead", s+first)
	}
	var many strings.Builder
	for _, text := range textsOfEach(growing(impl.MaxHunks + 1)) {
		many.WriteString(text)
	}
	checkUnread(t, "one group more", many.String())
}

func TestAllShortUnifiedTexts(t *testing.T) {
	parts := []string{"@@ -1 +1 @@\n", "@@ -1,2 +1,1 @@\n", "@@ -1,0 +2 @@\n", "@@ -3 +3,2 @@\n", "@@ -1 +0,0 @@\n", " a\n", "-a\n", "+b\n", "\\ none\n"}
	read := 0
	for _, w := range wordsUpTo(parts, 5) {
		if checkAnyText(t, strings.Join(w, "")) {
			read++
		}
	}
	if read < 30 {
		t.Errorf("only %d texts are read", read)
	}
}

// Each text that is nearly one of groups is read only where it is another one.
func TestUnifiedTextsThatAreNearlyRead(t *testing.T) {
	bytes := []string{"", "0", "1", "2", ",", "@", "+", "-", "\\", " ", "\n", "x", "\x00"}
	for _, c := range append(headCases(), lineCases()...) {
		tryNearly(c.text, bytes, func(s string) { checkAnyText(t, s) })
	}
}

func TestApplyGroups(t *testing.T) {
	l := linesBy("abcd")
	cases := []struct {
		name string
		g    groups
		want []string
	}{
		{"no groups", nil, linesBy("abcd")},
		{"one goes", groups{groupBy(1, 1, "-b")}, linesBy("acd")},
		{"one comes", groups{groupBy(1, 1, "+x")}, linesBy("axbcd")},
		{"one comes first", groups{groupBy(0, 0, "+x")}, linesBy("xabcd")},
		{"one comes last", groups{groupBy(4, 4, "+x")}, linesBy("abcdx")},
		{"one is changed, with lines around", groups{groupBy(0, 0, "=a-b+x+y=c")}, linesBy("axycd")},
		{"two runs", groups{groupBy(0, 0, "-a=b=c+x=d")}, linesBy("bcxd")},
		{"two groups", groups{groupBy(0, 0, "-a=b"), groupBy(3, 2, "-d+x+y")}, linesBy("bcxy")},
		{"side by side, lines between stay", groups{groupBy(0, 0, "-a=b"), groupBy(2, 1, "+x=c-d")}, linesBy("bxc")},
		{"all go", groups{groupBy(0, 0, "-a-b-c-d")}, nil},
		{"all are others", groups{groupBy(0, 0, "-a-b-c-d+x")}, linesBy("x")},
		{"the end goes", groups{groupBy(3, 3, "-d+.d")}, linesBy("abc.d")},
		{"the same again", groups{groupBy(1, 1, "-b+b")}, linesBy("abcd")},
	}
	for _, c := range cases {
		checkDone(t, c.name, l, c.g, c.want, 0)
		checkApplied(t, c.name, l, c.g, 0)
	}
	checkApplied(t, "no groups for no lines", nil, nil, 0)
	checkDone(t, "lines come to none", nil, groups{groupBy(0, 0, "+x+.y")}, linesBy("x.y"), 0)
	checkDone(t, "the end comes", linesBy("a.b"), groups{groupBy(1, 1, "-.b+b")}, linesBy("ab"), 0)
	checkDone(t, "more behind the end", linesBy("a.b"), groups{groupBy(0, 0, "=a-.b+b+.c")}, linesBy("ab.c"), 0)
	checkDone(t, "one without an end stays", linesBy("a.b"), groups{groupBy(0, 0, "-a+x=.b")}, linesBy("x.b"), 0)
}

func TestApplyGroupsTellsCodes(t *testing.T) {
	l := linesBy("abcd")
	cases := []struct {
		name string
		g    groups
		code int
	}{
		{"line 5 goes", groups{groupBy(4, 4, "-e")}, impl.PtFar},
		{"behind line 5", groups{groupBy(5, 5, "+x")}, impl.PtFar},
		{"line 1000 goes", groups{groupBy(999, 999, "-e")}, impl.PtFar},
		{"a line more stays", groups{groupBy(3, 3, "-d=e")}, impl.PtFar},
		{"far, and another", groups{groupBy(3, 3, "-x=y")}, impl.PtFar},
		{"far, and To is another", groups{groupBy(5, 9, "+x")}, impl.PtFar},
		{"the first another, the second far", groups{groupBy(0, 0, "-x"), groupBy(3, 2, "=d-e")}, impl.PtFar},
		{"the first To another, the second far", groups{groupBy(0, 1, "-a"), groupBy(4, 4, "-e")}, impl.PtFar},
		{"the first can not be done, the second far", groups{groupBy(0, 0, "+.x"), groupBy(4, 5, "-e")}, impl.PtFar},
		{"another goes", groups{groupBy(1, 1, "-x")}, impl.PtOther},
		{"another stays", groups{groupBy(1, 1, "=x-c")}, impl.PtOther},
		{"one without an end goes", groups{groupBy(3, 3, "-.d")}, impl.PtOther},
		{"To is another", groups{groupBy(1, 2, "-b")}, impl.PtOther},
		{"To of the second is another", groups{groupBy(0, 0, "-a"), groupBy(2, 2, "-c")}, impl.PtOther},
		{"one without an end comes first", groups{groupBy(0, 0, "+.x")}, impl.PtOther},
		{"one without an end comes within", groups{groupBy(0, 0, "=a-b+.x")}, impl.PtOther},
		{"it comes, one more behind", groups{groupBy(3, 3, "-d+.x"), groupBy(4, 4, "+y")}, impl.PtOther},
		{"what goes side by side", groups{groupBy(0, 0, "-a"), groupBy(1, 0, "-b")}, impl.PtOther},
		{"what comes side by side", groups{groupBy(1, 1, "+x"), groupBy(1, 2, "+y")}, impl.PtOther},
		{"one goes right behind one that came", groups{groupBy(0, 0, "=a+x"), groupBy(1, 2, "-b")}, impl.PtOther},
	}
	for _, c := range cases {
		checkApplied(t, c.name, l, c.g, c.code)
	}
	checkApplied(t, "one goes of no lines", nil, groups{groupBy(0, 0, "-x")}, impl.PtFar)
	checkApplied(t, "one comes behind one without an end", linesBy("a.b"), groups{groupBy(2, 2, "+x")}, impl.PtOther)
	checkApplied(t, "an end that is not there", linesBy("a.b"), groups{groupBy(1, 1, "-b")}, impl.PtOther)
	checkApplied(t, "too many lines", manyLines(impl.MaxLines), groups{groupBy(3, 3, "+x")}, impl.PtOther)
	checkApplied(t, "too many lines of two groups", manyLines(39), groups{groupBy(0, 0, "+x"), groupBy(3, 4, "+x")}, impl.PtOther)
	checkApplied(t, "as many lines as can be", manyLines(39), groups{groupBy(3, 3, "+x")}, 0)
	checkApplied(t, "too many lines, and far", manyLines(impl.MaxLines), groups{groupBy(3, 3, "+x"), groupBy(41, 42, "+x")}, impl.PtFar)
}

// Groups with more runs than there may be hunks are good, but Patch takes no such hunks.
func TestApplyGroupsOfMoreRunsThanHunks(t *testing.T) {
	for n := 2; n <= 27; n++ {
		g := groups{runsUpTo(n, n/2)}
		l, want := oldLines(g[0]), 0
		if n > impl.MaxHunks {
			want = impl.PtOther
		}
		checkApplied(t, "so many runs", l, g, want)
		checkApplied(t, "so many runs, and far", l[1:], g, impl.PtFar)
		checkApplied(t, "so many runs, and another", l, shifted(g, 0, 1), impl.PtOther)
		checkShown(t, "so many runs", g, textOfGroups(g))
	}
}

func TestBackGroups(t *testing.T) {
	cases := []struct {
		name    string
		g, want groups
	}{
		{"no groups", nil, nil},
		{"an empty list", groups{}, nil},
		{"one goes", groups{groupBy(3, 5, "-a")}, groups{groupBy(5, 3, "+a")}},
		{"one comes", groups{groupBy(3, 5, "+a")}, groups{groupBy(5, 3, "-a")}},
		{"both", groups{groupBy(3, 5, "-a+x")}, groups{groupBy(5, 3, "-x+a")}},
		{"more of both", groups{groupBy(3, 5, "-a-b-c+x+y")}, groups{groupBy(5, 3, "-x-y+a+b+c")}},
		{"lines around", groups{groupBy(0, 0, "=a=b-c-d+x=e")}, groups{groupBy(0, 0, "=a=b-x+c+d=e")}},
		{"runs of each kind", groups{groupBy(7, 9, "-a=b+x=c-d+y+z=e")}, groups{groupBy(9, 7, "+a=b-x=c-y-z+d=e")}},
		{"runs at both ends", groups{groupBy(7, 9, "-a+x=b-c+y")}, groups{groupBy(9, 7, "-x+a=b-y+c")}},
		{"two groups", groups{groupBy(0, 1, "-a+x"), groupBy(4, 6, "=b+y")}, groups{groupBy(1, 0, "-x+a"), groupBy(6, 4, "=b-y")}},
		{"side by side", groups{groupBy(1, 1, "+x"), groupBy(1, 2, "-b")}, groups{groupBy(1, 1, "-x"), groupBy(2, 1, "+b")}},
		{"no end of both", groups{groupBy(0, 0, "=a-.b+.c")}, groups{groupBy(0, 0, "=a-.c+.b")}},
		{"no end of what goes", groups{groupBy(0, 0, "-.a+b+c")}, groups{groupBy(0, 0, "-b-c+.a")}},
		{"no end of what comes", groups{groupBy(0, 0, "-a-b+.c")}, groups{groupBy(0, 0, "-.c+a+b")}},
		{"no end of what stays", groups{groupBy(0, 0, "-a+x=.b")}, groups{groupBy(0, 0, "-x+a=.b")}},
		{"the last places", groups{groupBy(999, 0, "-a+x+y")}, groups{groupBy(0, 999, "-x-y+a")}},
		{"the last places of one", groups{groupBy(999, 0, "-a+x")}, groups{groupBy(0, 999, "-x+a")}},
		{"the same line", groups{groupBy(2, 2, "-a+a")}, groups{groupBy(2, 2, "-a+a")}},
	}
	for _, c := range cases {
		checkBack(t, c.name, c.g, c.want)
		if got := backBy(c.g); !alikeGroups(got, c.want) {
			t.Errorf("%s: the model tells %v", c.name, got)
		}
	}
}

// All small groups are written, read back, turned, and done to all small texts, and back.
func TestUnifiedOfAllSmallGroups(t *testing.T) {
	for _, rows := range rowsUpTo([]string{"=a", "=.a", "-a", "-.b", "+a", "+.c"}, 5) {
		g := groups{{At: 3, To: 4, Rows: rows}}
		text := textOfGroups(g)
		if !isGood(g[0]) {
			checkNotShown(t, "one", g)
			checkUnread(t, "one", text)
			continue
		}
		checkShown(t, "one", g, text)
		checkBack(t, "one", g, backBy(g))
	}
	seen := map[int]int{}
	all := smallGroups([]string{"=x", "-x", "-.x", "-y", "+x", "+.x"}, 2, 2)
	for _, g := range all {
		for _, next := range all {
			two := groups{g, next}
			text := textOfGroups(two)
			if !follows(next, g) {
				checkNotShown(t, "two", two)
				checkUnread(t, "two", text)
				continue
			}
			checkShown(t, "two", two, text)
			for _, l := range smallTexts() {
				_, code := applyBy(l, two)
				checkApplied(t, "two", l, two, code)
				seen[code]++
			}
		}
	}
	if len(seen) != 3 || seen[0] < 10 {
		t.Errorf("codes of two groups: %v", seen)
	}
}
