package tests

import (
	"math"
	"slices"
	"strings"
	"testing"

	"loop.example/g00825/impl"
)

// checkNoGroups expects no groups of lines, hunks and a width.
func checkNoGroups(t *testing.T, name string, l []string, h hunks, width int) {
	t.Helper()
	if g, ok := impl.GroupsOf(l, h, width); len(g) != 0 || ok {
		t.Errorf("%s: GroupsOf(%#v, %#v, %d) = %v, %v", name, l, h, width, g, ok)
	}
}

// checkNoParts expects nothing of a group that is split.
func checkNoParts(t *testing.T, name string, g impl.Group, width int) {
	t.Helper()
	if parts, ok := impl.SplitGroup(g, width); len(parts) != 0 || ok {
		t.Errorf("%s: SplitGroup(%v, %d) = %v, %v", name, g, width, parts, ok)
	}
}

// checkNoRuns expects no hunks and no code of lines and groups.
func checkNoRuns(t *testing.T, name string, l []string, g groups) {
	t.Helper()
	if h, code, ok := impl.GroupHunks(l, g); len(h) != 0 || code != 0 || ok {
		t.Errorf("%s: GroupHunks(%#v, %v) = %#v, %d, %v", name, l, g, h, code, ok)
	}
}

// checkNotGood expects of groups that are not good that each function that takes them says nothing.
func checkNotGood(t *testing.T, name string, g groups) {
	t.Helper()
	if impl.GoodGroups(g) {
		t.Errorf("%s: not good, but told: %v", name, g)
	}
	if n, ok := impl.WidthOf(g); n != 0 || ok {
		t.Errorf("%s: WidthOf(%v) = %d, %v", name, g, n, ok)
	}
	for _, l := range [][]string{nil, linesBy("x"), linesBy("xx.x"), manyLines(impl.MaxLines)} {
		checkNoRuns(t, name, l, g)
	}
}

// checkNoGroup expects of one group that is not good that no function says anything of it.
func checkNoGroup(t *testing.T, name string, g impl.Group) {
	t.Helper()
	checkNotGood(t, name, groups{g})
	if old, ok := impl.OldOf(g); len(old) != 0 || ok {
		t.Errorf("%s: OldOf(%v) = %q, %v", name, g, old, ok)
	}
	if lines, ok := impl.NewOf(g); len(lines) != 0 || ok {
		t.Errorf("%s: NewOf(%v) = %q, %v", name, g, lines, ok)
	}
	for _, width := range []int{0, 1, impl.MaxWidth} {
		checkNoParts(t, name, g, width)
	}
}

// badRows are what the rows of a group can not be.
func badRows() map[string][]impl.Row {
	row := func(kind int, line string) impl.Row { return impl.Row{Kind: kind, Line: line} }
	bad := map[string][]impl.Row{
		"no rows":                                       nil,
		"an empty list":                                 {},
		"one that stays":                                rowsBy("=a"),
		"all stay":                                      rowsBy("=a=b=c"),
		"one goes right behind one that came":           rowsBy("+a-b"),
		"it goes so behind lines that stay":             rowsBy("=a+b-c=d"),
		"it goes so in a second run":                    rowsBy("-a+b=c+d-e"),
		"it goes so at the end":                         rowsBy("-a+b+c-d"),
		"no end within the old":                         rowsBy("-.a-b"),
		"no end within the new":                         rowsBy("+.a+b"),
		"no end of one that stays, one comes":           rowsBy("=.a+b"),
		"no end of one that stays, one goes":            rowsBy("=.a-b"),
		"no end of one that stays first":                rowsBy("=.a=b-c"),
		"no end of one that goes, one stays":            rowsBy("-.a=b"),
		"no end of one that comes, one stays":           rowsBy("+.a=b"),
		"no end of one that comes, one stays without":   rowsBy("-a+.b=.c"),
		"no end of two that go":                         rowsBy("-.a-.b"),
		"no end of two that come":                       rowsBy("-a+.b+.c"),
		"no end far ahead in the old":                   rowsBy("-.a+b+c=d"),
		"one line more in the old":                      slices.Repeat(rowsBy("-a"), impl.MaxLines+1),
		"one line more in the new":                      slices.Repeat(rowsBy("+a"), impl.MaxLines+1),
		"one line more that stays":                      append(slices.Repeat(rowsBy("=a"), impl.MaxLines+1), rowsBy("-a")...),
		"one line more in the old, with some that stay": slices.Concat(slices.Repeat(rowsBy("=a"), impl.MaxLines), rowsBy("-b")),
		"one line more in the new, with some that stay": slices.Concat(slices.Repeat(rowsBy("=a"), impl.MaxLines), rowsBy("+b")),
		"one row more, all go and come":                 slices.Concat(slices.Repeat(rowsBy("-a"), impl.MaxLines), slices.Repeat(rowsBy("+b"), impl.MaxLines+1)),
		"one row more, one more goes":                   slices.Concat(slices.Repeat(rowsBy("-a"), impl.MaxLines+1), slices.Repeat(rowsBy("+b"), impl.MaxLines)),
		"one row more, and it stays":                    slices.Concat(slices.Repeat(rowsBy("-a"), impl.MaxLines), slices.Repeat(rowsBy("+b"), impl.MaxLines), rowsBy("=c")),
		"much more rows":                                slices.Repeat(rowsBy("-a+b=c"), 10000),
		"much more rows, all stay":                      slices.Repeat(rowsBy("=a"), 10000),
	}
	for name, kind := range map[string]int{"kind 0": 0, "kind 4": 4, "kind below 0": -1, "least kind": math.MinInt, "greatest kind": math.MaxInt} {
		bad[name] = []impl.Row{row(kind, "a\n")}
		bad[name+", first"] = []impl.Row{row(kind, "a\n"), row(impl.RwGone, "b\n")}
		bad[name+", last"] = []impl.Row{row(impl.RwNew, "b\n"), row(kind, "a\n")}
	}
	for name, line := range map[string]string{"an empty line": "", "byte 10 within": "a\nb\n", "byte 10 twice": "\n\n", "byte 10 within, no end": "a\nb",
		"too long": full(impl.MaxLine + 1), "too long, no end": strings.Repeat("f", impl.MaxLine+1)} {
		bad[name+" goes"] = []impl.Row{row(impl.RwKeep, "a\n"), row(impl.RwGone, line)}
		bad[name+" comes"] = []impl.Row{row(impl.RwKeep, "a\n"), row(impl.RwNew, line)}
		bad[name+" stays first"] = []impl.Row{row(impl.RwKeep, line), row(impl.RwNew, "a\n")}
		bad[name+" stays last"] = []impl.Row{row(impl.RwGone, "a\n"), row(impl.RwKeep, line)}
	}
	return bad
}

// badPlaces are what At or To of a group with two lines in that text can not be.
func badPlaces() map[string]int {
	return map[string]int{"below 0": -1, "much below 0": -1000, "least of all": math.MinInt, "least but one": math.MinInt + 1, "999": 999, "above 999": 1000,
		"much above": 10000, "greatest of all": math.MaxInt, "greatest but one": math.MaxInt - 1, "greatest but two": math.MaxInt - 2}
}

// badGroups are groups of which one alone is not good, by what is wrong with it.
func badGroups() map[string]impl.Group {
	bad := map[string]impl.Group{
		"nothing at all":                         {},
		"At above 999, no lines in the old text": groupBy(1000, 0, "+x"),
		"To above 999, no lines in the new text": groupBy(0, 1000, "-x"),
		"At greatest, no lines in the old text":  groupBy(math.MaxInt, 0, "+x"),
		"To least, no lines in the new text":     groupBy(0, math.MinInt, "-x"),
		"most lines, the old ones beyond":        {At: 961, Rows: slices.Repeat(rowsBy("-a"), impl.MaxLines)},
		"most lines, the new ones beyond":        {To: 961, Rows: slices.Repeat(rowsBy("+a"), impl.MaxLines)},
	}
	for name, rows := range badRows() {
		bad[name] = impl.Group{At: 1, To: 2, Rows: rows}
	}
	for name, place := range badPlaces() {
		bad["At "+name] = groupBy(place, 0, "=a-b+c")
		bad["To "+name] = groupBy(0, place, "=a-b+c")
		bad["both "+name] = groupBy(place, place, "=a-b+c")
	}
	return bad
}

// badManyGroups are groups of which each is good alone.
func badManyGroups() map[string]groups {
	one := groupBy(3, 3, "=a-b+c")
	return map[string]groups{
		"the same twice":                  {one, one},
		"over one another in the old":     {one, groupBy(4, 5, "-b")},
		"over one another in the new":     {one, groupBy(5, 4, "-b")},
		"falling in the old":              {one, groupBy(2, 5, "+x")},
		"falling in the new":              {one, groupBy(5, 2, "-x")},
		"falling in both":                 {one, groupBy(0, 0, "-x")},
		"one comes within the other":      {one, groupBy(4, 5, "+x")},
		"one goes to within the other":    {one, groupBy(5, 4, "-x")},
		"the third over the second":       {one, groupBy(5, 5, "-a-b"), groupBy(6, 5, "-x")},
		"the third over the first":        {groupBy(0, 0, "-a-b-c"), groupBy(3, 0, "-a"), groupBy(2, 0, "-x")},
		"the last one turned":             {groupBy(0, 0, "+x"), groupBy(0, 1, "-x"), groupBy(0, 1, "-x")},
		"one more than most":              slices.Repeat(groups{groupBy(3, 3, "+x")}, impl.MaxHunks+1),
		"one more than most, each behind": growing(impl.MaxHunks + 1),
		"much more than most":             slices.Repeat(groups{one}, 10000),
	}
}

// growing are n groups, each behind the other, with nothing else wrong with them.
func growing(n int) groups {
	var g groups
	for i := range n {
		g = append(g, groupBy(i, i, "-a+b"))
	}
	return g
}

func TestBadGroupsGetTheZeroAnswer(t *testing.T) {
	ahead, behind := groupBy(0, 0, "-a"), groupBy(990, 990, "-a")
	for name, g := range badGroups() {
		if isGood(g) {
			t.Errorf("%s: the model tells it is good: %v", name, g)
		}
		checkNoGroup(t, name, g)
		checkNotGood(t, name+", the second", groups{ahead, g})
		checkNotGood(t, name+", the first", groups{g, behind})
	}
	for name, g := range badManyGroups() {
		checkNotGood(t, name, g)
	}
	for n := range impl.MaxHunks + 1 {
		if !impl.GoodGroups(growing(n)) {
			t.Errorf("%d groups are not good", n)
		}
	}
}

func TestGoodGroupsAtTheLimits(t *testing.T) {
	most := slices.Concat(slices.Repeat(rowsBy("-a"), impl.MaxLines), slices.Repeat(rowsBy("+b"), impl.MaxLines))
	good := map[string]groups{
		"no groups":                      nil,
		"an empty list":                  {},
		"one line alone, at place 0":     {groupBy(0, 0, "-a")},
		"place 999":                      {groupBy(999, 999, "-a+b")},
		"place 999 of none":              {groupBy(999, 999, "+b")},
		"up to line 1000":                {groupBy(998, 999, "=a-b")},
		"most rows":                      {{At: 960, To: 960, Rows: most}},
		"most that stay, one goes":       {{Rows: append(slices.Repeat(rowsBy("=a"), impl.MaxLines-1), rowsBy("-b")...)}},
		"longest lines":                  {{Rows: []impl.Row{{Kind: impl.RwGone, Line: full(impl.MaxLine)}, {Kind: impl.RwNew, Line: strings.Repeat("f", impl.MaxLine)}}}},
		"one right behind the other":     {groupBy(3, 3, "=a-b+c"), groupBy(5, 5, "-d")},
		"at one place, lines come":       {groupBy(3, 3, "+a"), groupBy(3, 4, "+b")},
		"at one place, lines go":         {groupBy(3, 3, "-a"), groupBy(4, 3, "-b")},
		"the old places fall from To":    {groupBy(900, 3, "-a"), groupBy(901, 3, "-b")},
		"places that do not fit":         {groupBy(1, 900, "+a"), groupBy(500, 901, "+b")},
		"no end, and a group behind":     {groupBy(1, 1, "-.a"), groupBy(2, 1, "-b")},
		"no end that stays, and another": {groupBy(1, 1, "-b=.a"), groupBy(3, 2, "+b")},
		"ends of the old and of the new": {groupBy(1, 1, "=a-.b+b+.c")},
		"one goes behind one that stays": {groupBy(1, 1, "+a=b-c")},
		"a line of any bytes":            {{Rows: []impl.Row{{Kind: impl.RwNew, Line: "\x00\xff\r"}}}},
	}
	for name, g := range good {
		if !impl.GoodGroups(g) {
			t.Errorf("%s: not good: %v", name, g)
		}
		checkWidth(t, name, g, widthBy(g))
		for _, k := range g {
			checkSides(t, name, k)
		}
	}
}

func badWidths() []int {
	return []int{-1, -2, impl.MaxWidth + 1, 1000, math.MaxInt, math.MaxInt - 1, math.MinInt, math.MaxInt/2 + 1, math.MinInt / 2}
}

// eachBadChange tries lines, hunks and widths of which some are not as said.
func eachBadChange(try func(name string, l []string, h hunks, width int)) {
	x := linesBy("x")
	for _, width := range []int{0, 1, impl.MaxWidth} {
		for name, l := range badLists() {
			for _, h := range []hunks{nil, {{New: x}}, {{Gone: 1}}, {{Gone: len(l)}}, {{Gone: len(l), New: x}}} {
				try(name, l, h, width)
			}
		}
		for name, h := range badHunks() {
			try(name, fourLines(), h, width)
		}
		try("one without an end comes first", fourLines(), hunks{{New: linesBy(".x")}}, width)
		try("one comes behind one without an end", linesBy(".a"), hunks{{At: 1, New: x}}, width)
		try("too many lines", manyLines(impl.MaxLines), hunks{{At: 1, New: x}}, width)
	}
	for _, width := range badWidths() {
		for _, h := range []hunks{nil, {{Gone: 1}}, {{Gone: 4}}, {{Gone: 1}, {At: 4, New: x}}, {{At: 9, New: x}}} {
			try("bad width", fourLines(), h, width)
		}
		try("bad width, nothing", nil, nil, width)
	}
}

func TestBadChangesGetNoGroups(t *testing.T) {
	eachBadChange(func(name string, l []string, h hunks, width int) {
		checkNoGroups(t, name, l, h, width)
	})
	for _, width := range badWidths() {
		for _, signs := range []string{"-a", "+a", "=a-b=c", "-a=b=c+d"} {
			checkNoParts(t, "bad width", groupBy(3, 3, signs), width)
		}
	}
	for name, l := range badLists() {
		for _, g := range []groups{nil, {groupBy(0, 0, "-a")}, {groupBy(0, 0, "+a")}, {groupBy(5, 9, "+a")}, {groupBy(999, 9, "+a")}} {
			checkNoRuns(t, name, l, g)
		}
	}
}

// rowsWithin puts rows into a larger array; the second answer is all of that array.
func rowsWithin(rows []impl.Row) ([]impl.Row, []impl.Row) {
	stranger := impl.Row{Kind: impl.RwGone, Line: "stranger\n"}
	room := slices.Concat([]impl.Row{stranger}, rows, []impl.Row{stranger, stranger})
	return room[1 : 1+len(rows)], room
}

// groupsWithin puts groups, and the rows of each, into larger arrays; the second answer is all of the groups' array.
func groupsWithin(g groups) (groups, groups) {
	stranger := impl.Group{At: -3, To: -3, Rows: rowsBy("=s")}
	room := slices.Concat(groups{stranger}, g, groups{stranger, stranger})
	for i := range room {
		room[i].Rows, _ = rowsWithin(room[i].Rows)
	}
	return room[1 : 1+len(g)], room
}

// copyOfGroups is a copy with all of each Rows up to its capacity.
func copyOfGroups(g groups) groups {
	all := slices.Clone(g)
	for i, k := range g {
		all[i].Rows = slices.Clone(k.Rows[:cap(k.Rows)])
	}
	return all
}

// spoilGroups writes into all memory that an answer hands out.
func spoilGroups(g groups) {
	for _, k := range g[:cap(g)] {
		for i := range k.Rows[:cap(k.Rows)] {
			k.Rows[:cap(k.Rows)][i] = impl.Row{Kind: -9, Line: "mine"}
		}
	}
	for i := range g[:cap(g)] {
		g[:cap(g)][i] = impl.Group{At: -9, To: -9}
	}
}

// checkGroupsApart expects that no two lists of an answer share memory, and that nothing lies behind them.
func checkGroupsApart(t *testing.T, name string, g groups) {
	t.Helper()
	if !alikeGroups(g[len(g):cap(g)], make(groups, cap(g)-len(g))) {
		t.Errorf("%s hands out %v", name, g[:cap(g)])
	}
	for i, k := range g {
		behind := k.Rows[len(k.Rows):cap(k.Rows)]
		if !slices.Equal(behind, make([]impl.Row, len(behind))) {
			t.Errorf("%s hands out %v", name, behind)
		}
		for j := range k.Rows[:cap(k.Rows)] {
			k.Rows[:cap(k.Rows)][j].Kind = 100 + i
		}
	}
	for i, k := range g {
		for _, row := range k.Rows[:cap(k.Rows)] {
			if row.Kind != 100+i {
				t.Errorf("%s: two lists of the answer share memory", name)
			}
		}
	}
}

// callGroups calls each function of the layer and writes into what it answers.
func callGroups(l []string, h hunks, g groups) {
	impl.GoodGroups(g)
	impl.WidthOf(g)
	told, _, _ := impl.GroupHunks(l, g)
	spoil(told)
	for _, width := range []int{-1, 0, 1, impl.MaxWidth} {
		made, _ := impl.GroupsOf(l, h, width)
		spoilGroups(made)
		for _, k := range g {
			parts, _ := impl.SplitGroup(k, width)
			spoilGroups(parts)
		}
	}
	for _, k := range g {
		old, _ := impl.OldOf(k)
		spoilLines(old)
		lines, _ := impl.NewOf(k)
		spoilLines(lines)
	}
}

// smallBadGroups are groups that are not good, alone and behind one that is, but not the ones with much.
func smallBadGroups() []groups {
	var all []groups
	for _, g := range badGroups() {
		if len(g.Rows) <= 100 {
			all = append(all, groups{g}, groups{groupBy(0, 0, "-a"), g})
		}
	}
	return all
}

// checkNoneChanged expects calls to leave lines, hunks and groups, good and bad, and what is around them, as they were.
func checkNoneChanged(t *testing.T, call func(l []string, h hunks, g groups)) {
	t.Helper()
	lists := append(sharingCases(), nil, hunks{{At: 9, New: linesBy("x")}}, hunks{{New: linesBy(".x")}})
	all := []groups{nil, {groupBy(0, 0, "=x-y")}, {groupBy(5, 5, "-a")}, {groupBy(0, 3, "+a")}, {groupBy(2, 2, "=c+.x")}, {groupBy(0, 0, "-a+x=b-c+y+z")}}
	for _, h := range sharingCases() {
		all = append(all, groupsBy(fourLines(), h, 0), groupsBy(fourLines(), h, 1))
	}
	all = append(all, smallBadGroups()...)
	for _, text := range [][]string{nil, fourLines(), linesBy("abc.d"), {"a", "b\n"}} {
		for _, h := range lists {
			for _, g := range all {
				l, roomL := within(text)
				inH, roomH := hunksWithin(h)
				inG, roomG := groupsWithin(g)
				beforeL, beforeH, beforeG := slices.Clone(roomL), deepCopy(roomH), copyOfGroups(roomG)
				call(l, inH, inG)
				if !slices.Equal(roomL, beforeL) || !unchanged(roomH, beforeH) || !alikeGroups(copyOfGroups(roomG), beforeG) {
					t.Fatalf("changed: %q, %#v, %v", text, h, g)
				}
			}
		}
	}
}

func TestNoGroupsAreChanged(t *testing.T) {
	checkNoneChanged(t, callGroups)
}

func TestListsOfGroupsShareNoMemory(t *testing.T) {
	for _, h := range sharingCases() {
		for width := range 3 {
			l, room := within(fourLines())
			g, ok := impl.GroupsOf(l, h, width)
			if !ok || len(g) == 0 {
				t.Fatalf("GroupsOf(%#v, %d) = %v, %v", h, width, g, ok)
			}
			told, _, _ := impl.GroupHunks(l, g)
			if len(told) != len(h) {
				t.Fatalf("GroupHunks(%v) = %#v", g, told)
			}
			checkApart(t, "GroupHunks", told)
			for _, k := range g {
				parts, _ := impl.SplitGroup(k, 0)
				checkGroupsApart(t, "SplitGroup", parts)
				old, _ := impl.OldOf(k)
				lines, _ := impl.NewOf(k)
				checkApart(t, "OldOf, NewOf", hunks{{New: old}, {New: lines}})
			}
			checkGroupsApart(t, "GroupsOf", g)
			if !slices.Equal(room, slices.Concat([]string{"ahead\n"}, fourLines(), []string{"behind\n", "behind\n"})) {
				t.Errorf("lines are shared: %q", room)
			}
		}
	}
}

func TestWhatIsBehindGroupsIsNotRead(t *testing.T) {
	l := fourLines()
	for _, h := range append(sharingCases(), nil) {
		for width := range 3 {
			want := groupsBy(l, h, width)
			inLarger, _ := within(l)
			hunksInRoom, _ := hunksWithin(h)
			inRoom, _ := groupsWithin(want)
			checkGroups(t, "in a larger array", inLarger, hunksInRoom, width, inRoom)
		}
	}
	// With the row behind it, each of these would be good, or not good any more.
	stays, _ := rowsWithin(rowsBy("=a"))
	checkNoGroup(t, "what goes is behind it", impl.Group{Rows: stays})
	comes, _ := rowsWithin(rowsBy("=a+b"))
	checkSides(t, "what goes is behind what comes", impl.Group{Rows: comes})
}

func TestNoGroupsAreKept(t *testing.T) {
	l := fourLines()
	for _, h := range sharingCases() {
		for width := range 3 {
			want := groupsBy(l, h, width)
			for range 2 {
				checkGroups(t, "again", l, h, width, want)
				checkNoRuns(t, "a fault between", linesBy(".ab"), want)
				callGroups(l, h, want)
			}
		}
	}
}
