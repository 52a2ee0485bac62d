package tests

import (
	"slices"
	"strings"
	"testing"

	"loop.example/g00825/impl"
)

// checkNoUnified expects no text of lines, hunks and a width.
func checkNoUnified(t *testing.T, name string, l []string, h hunks, width int) {
	t.Helper()
	if s, ok := impl.UnifiedText(l, h, width); s != "" || ok {
		t.Errorf("%s: UnifiedText(%#v, %#v, %d) = %q, %v", name, l, h, width, s, ok)
	}
}

// checkNotDone expects no lines and no code of lines and groups.
func checkNotDone(t *testing.T, name string, l []string, g groups) {
	t.Helper()
	if made, code, ok := impl.ApplyGroups(l, g); len(made) != 0 || code != 0 || ok {
		t.Errorf("%s: ApplyGroups(%q, %v) = %q, %d, %v", name, l, g, made, code, ok)
	}
}

// checkNotTaken expects of groups that are not good that no function says anything of them.
func checkNotTaken(t *testing.T, name string, g groups) {
	t.Helper()
	checkNotShown(t, name, g)
	if back, ok := impl.BackGroups(g); len(back) != 0 || ok {
		t.Errorf("%s: BackGroups(%v) = %v, %v", name, g, back, ok)
	}
	for _, l := range [][]string{nil, linesBy("a"), linesBy("ab.c"), manyLines(impl.MaxLines), linesBy(".ab")} {
		checkNotDone(t, name, l, g)
	}
}

func TestBadGroupsGetNoText(t *testing.T) {
	ahead, behind := groupBy(0, 0, "-a"), groupBy(990, 990, "-a")
	for name, g := range badGroups() {
		checkNotTaken(t, name, groups{g})
		checkNotTaken(t, name+", the second", groups{ahead, g})
		checkNotTaken(t, name+", the first", groups{g, behind})
	}
	for name, g := range badManyGroups() {
		checkNotTaken(t, name, g)
	}
}

func TestBadChangesGetNoText(t *testing.T) {
	eachBadChange(func(name string, l []string, h hunks, width int) {
		checkNoUnified(t, name, l, h, width)
	})
	for name, l := range badLists() {
		for _, g := range []groups{nil, {groupBy(0, 0, "-a")}, {groupBy(0, 0, "+a")}, {groupBy(0, 0, "-.a")}, {groupBy(5, 9, "+a")}, {groupBy(999, 9, "+a")}} {
			checkNotDone(t, name, l, g)
		}
	}
}

func TestReadUnifiedOfAnyBytes(t *testing.T) {
	for first := range 256 {
		one := string([]byte{byte(first)})
		checkUnread(t, "one byte", one)
		checkUnread(t, "one byte and an end", one+"\n")
		checkAnyText(t, "@@ -1 +0,0 @@\n-"+one+"\n")
		checkAnyText(t, "@@ -1 +0,0 @@\n-"+one+"\n\\ none\n")
		checkAnyText(t, "@@ -1 +0,0 @@\n"+one+"a\n")
		checkAnyText(t, "@@ -1,2 +1 @@\n"+one+"a\n-b\n")
		checkAnyText(t, "@@ -1"+one+"+1 @@\n-a\n+x\n")
		checkAnyText(t, "@@ -1"+one+" +1 @@\n-a\n+x\n")
		checkAnyText(t, "@@ "+one+"1 +1 @@\n-a\n+x\n")
		checkAnyText(t, "@@ -"+one+" +1 @@\n-a\n+x\n")
		checkAnyText(t, "@@ -1 +1,"+one+" @@\n-a\n+x\n")
		for second := range 256 {
			checkUnread(t, "two bytes", one+string([]byte{byte(second)}))
		}
	}
}

func TestReadUnifiedOfMuch(t *testing.T) {
	parts := []string{"\n", "1", "@", "@@ -", "@@ -1 +1 @@\n", "@@ -0,0 +0,0 @@\n", "@@ -1,999 +1,999 @@\n", "-a\n", "+a\n", " a\n", "-", "\\ none\n", "\x00", "\xff",
		"@@ -1 +0,0 @@\n-a\n", "@@ -0,0 +1 @@\n+a\n", "@@ -1,40 +0,0 @@\n-a\n"}
	for _, part := range parts {
		for _, ahead := range []string{"", "@@ -1,999 +1,999 @@\n", "@@ -1 +0,0 @@\n-a\n"} {
			checkUnread(t, "much of it", ahead+strings.Repeat(part, 100000/len(part)))
			checkUnread(t, "most of it", ahead+strings.Repeat(part, (impl.MaxPatch-len(ahead))/len(part)))
		}
	}
	checkUnread(t, "much behind", "@@ -1 +0,0 @@\n-a\n"+strings.Repeat(" ", 100000))
	checkUnread(t, "many digits", "@@ -"+strings.Repeat("1", 2000)+" +1 @@\n-a\n+x\n")
	checkUnread(t, "many digits behind a comma", "@@ -1,"+strings.Repeat("1", 2000)+" +1 @@\n-a\n+x\n")
}

// A range whose numbers, or both added, an int can not hold, or only just can, is none.
func TestReadUnifiedOfNumbersThatAnIntCanNotHold(t *testing.T) {
	numbers := []string{"9223372036854775807", "9223372036854775808", "18446744073709551615", "18446744073709551616", "18446744073709551617", "-9223372036854775808",
		"-9223372036854775809", "-1", "4294967296", "4294967297", "340282366920938463463374607431768211457"}
	for _, n := range numbers {
		for _, both := range []string{n, n + ",1", n + ",0", "1," + n, "0," + n, n + "," + n} {
			checkUnread(t, "the old text", "@@ -"+both+" +1 @@\n-a\n+x\n")
			checkUnread(t, "the old text, none", "@@ -"+both+" +1 @@\n+x\n")
			checkUnread(t, "the new text", "@@ -1 +"+both+" @@\n-a\n+x\n")
			checkUnread(t, "the new text, none", "@@ -1 +"+both+" @@\n-a\n")
			checkUnread(t, "both texts", "@@ -"+both+" +"+both+" @@\n-a\n+x\n")
			checkUnread(t, "both texts, none", "@@ -"+both+" +"+both+" @@\n")
		}
	}
}

// callUnified calls each function of the layer and writes into what it answers.
func callUnified(l []string, h hunks, g groups) {
	for _, width := range []int{-1, 0, 1, impl.MaxWidth} {
		impl.UnifiedText(l, h, width)
	}
	text, _ := impl.GroupsText(g)
	read, _, _ := impl.ReadUnified(text)
	spoilGroups(read)
	made, _, _ := impl.ApplyGroups(l, g)
	spoilLines(made)
	back, _ := impl.BackGroups(g)
	spoilGroups(back)
}

func TestNothingIsChangedAllInOne(t *testing.T) {
	checkNoneChanged(t, callUnified)
}

func TestListsOfAllInOneShareNoMemory(t *testing.T) {
	for _, h := range sharingCases() {
		for width := range 3 {
			l, room := within(fourLines())
			want := groupsBy(fourLines(), h, width)
			g, roomG := groupsWithin(want)
			before := copyOfGroups(roomG)
			read, _, _ := impl.ReadUnified(textOfGroups(want))
			back, _ := impl.BackGroups(g)
			made, code, ok := impl.ApplyGroups(l, g)
			if len(read) != len(want) || len(back) != len(want) || code != 0 || !ok {
				t.Fatalf("%v, %v, %d, %v", read, back, code, ok)
			}
			checkGroupsApart(t, "ReadUnified", read)
			checkGroupsApart(t, "BackGroups", back)
			checkApart(t, "ApplyGroups", hunks{{New: made}})
			if !slices.Equal(room, slices.Concat([]string{"ahead\n"}, fourLines(), []string{"behind\n", "behind\n"})) {
				t.Errorf("lines are shared: %q", room)
			}
			if !alikeGroups(copyOfGroups(roomG), before) {
				t.Errorf("groups are shared: %v", roomG)
			}
		}
	}
	// Without groups the lines are what they were, but not in the same memory.
	l, room := within(fourLines())
	made, _, _ := impl.ApplyGroups(l, nil)
	checkApart(t, "ApplyGroups of no groups", hunks{{New: made}})
	if !slices.Equal(room[1:5], fourLines()) {
		t.Errorf("lines are shared: %q", room)
	}
}

func TestWhatIsBehindIsNotReadAllInOne(t *testing.T) {
	for _, h := range append(sharingCases(), nil) {
		for width := range 3 {
			want := groupsBy(fourLines(), h, width)
			l, _ := within(fourLines())
			inH, _ := hunksWithin(h)
			inG, _ := groupsWithin(want)
			checkUnified(t, "in a larger array", l, inH, width, textOfGroups(want))
			checkShown(t, "in a larger array", inG, textOfGroups(want))
			checkApplied(t, "in a larger array", l, inG, 0)
		}
	}
	// With the row behind it, it would be good; and with it the other one would not be any more.
	stays, _ := rowsWithin(rowsBy("=a"))
	checkNotTaken(t, "what goes is behind it", groups{{Rows: stays}})
	comes, _ := rowsWithin(rowsBy("=a+b"))
	checkShown(t, "what goes is behind what comes", groups{{Rows: comes}}, "@@ -1 +1,2 @@\n a\n+b\n")
	whole := "@@ -1 +1 @@\n-a\n+x\n\\ none\n"
	for end := range len(whole) + 1 {
		checkAnyText(t, whole[:end])
	}
}

func TestNothingIsKeptAllInOne(t *testing.T) {
	l := fourLines()
	for _, h := range sharingCases() {
		for width := range 3 {
			g := groupsBy(l, h, width)
			text := textOfGroups(g)
			for range 2 {
				checkUnified(t, "again", l, h, width, text)
				checkUnread(t, "a fault between", text+"x")
				checkNotDone(t, "a fault between", linesBy(".ab"), g)
				checkNotTaken(t, "a fault between", append(groups{groupBy(999, 999, "-a")}, g...))
				callUnified(l, h, g)
			}
		}
	}
}
