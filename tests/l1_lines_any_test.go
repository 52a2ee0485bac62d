package tests

import (
	"math"
	"slices"
	"strings"
	"testing"

	"loop.example/g00825/impl"
)

// badLists are lists that are no good lines, by what is wrong with them.
func badLists() map[string][]string {
	long := strings.Repeat("f", impl.MaxLine)
	return map[string][]string{
		"empty line alone":          {""},
		"empty line first":          {"", "a\n"},
		"empty line within":         {"a\n", "", "b\n"},
		"empty line last":           {"a\n", ""},
		"byte 10 within":            {"a\nb\n"},
		"byte 10 within, no end":    {"a\nb"},
		"byte 10 first":             {"\na"},
		"byte 10 twice":             {"\n\n"},
		"byte 10 within the last":   {"a\n", "b\nc"},
		"byte 10 right ahead":       {"\xe2\nb\n"},
		"no end, not the last":      {"a", "b\n"},
		"no end, within":            {"a\n", "b", "c\n"},
		"no end of two":             {"a", "b"},
		"too long":                  {long + "\n"},
		"too long, no end":          {long + "f"},
		"too long last":             {"a\n", long + "\n"},
		"too long in bytes alone":   {strings.Repeat("\u00e9", impl.MaxLine/2) + "\n"},
		"too many":                  manyLines(impl.MaxLines + 1),
		"too many, last has no end": append(manyLines(impl.MaxLines), "l"),
		"much too many":             manyLines(10000),
	}
}

func TestBadLinesGetTheZeroAnswer(t *testing.T) {
	good := []string{"a\n", "b\n"}
	for name, l := range badLists() {
		if s, ok := impl.TextOf(l); s != "" || ok {
			t.Errorf("%s: TextOf %q, %v", name, s, ok)
		}
		if is, ok := impl.IsWhole(l); is || ok {
			t.Errorf("%s: IsWhole %v, %v", name, is, ok)
		}
		for _, p := range [][2]int{{0, 0}, {0, 1}, {0, len(l)}, {len(l), len(l)}} {
			if part, ok := impl.PartOf(l, p[0], p[1]); len(part) != 0 || ok {
				t.Errorf("%s: PartOf %d %d %q, %v", name, p[0], p[1], part, ok)
			}
		}
		for _, p := range [][2][]string{{l, good}, {good, l}, {l, l}, {l, nil}, {nil, l}} {
			if n, ok := impl.SameAhead(p[0], p[1]); n != 0 || ok {
				t.Errorf("%s: SameAhead %d, %v", name, n, ok)
			}
			if n, ok := impl.SameBehind(p[0], p[1]); n != 0 || ok {
				t.Errorf("%s: SameBehind %d, %v", name, n, ok)
			}
		}
	}
}

func TestPlainOfWhatIsNoLine(t *testing.T) {
	bad := []string{"", "\n\n", "a\nb", "a\nb\n", "\na", "\xe2\na", full(impl.MaxLine + 1), strings.Repeat("f", impl.MaxLine+1)}
	for _, line := range bad {
		if s, ok := impl.PlainOf(line); s != "" || ok {
			t.Errorf("PlainOf(%q) = %q, %v", line, s, ok)
		}
	}
}

func TestPartOfPlacesThatAreNone(t *testing.T) {
	l := []string{"a\n", "b\n", "c"}
	places := []int{math.MinInt, -1, 0, 3, 4, math.MaxInt}
	for _, from := range places {
		for _, to := range places {
			part, ok := impl.PartOf(l, from, to)
			told := from == 0 && (to == 0 || to == 3) || from == 3 && to == 3
			if ok != told || ok && len(part) != to-from || !ok && len(part) != 0 {
				t.Errorf("PartOf %d %d = %q, %v", from, to, part, ok)
			}
		}
	}
	if part, ok := impl.PartOf(nil, 0, 0); len(part) != 0 || !ok {
		t.Errorf("PartOf none = %q, %v", part, ok)
	}
	if part, ok := impl.PartOf(nil, 0, 1); len(part) != 0 || ok {
		t.Errorf("PartOf beyond none = %q, %v", part, ok)
	}
}

// within puts a list into a larger array; the second answer is all of that array.
func within(l []string) ([]string, []string) {
	room := slices.Concat([]string{"ahead\n"}, l, []string{"behind\n", "behind\n"})
	return room[1 : 1+len(l)], room
}

// callAll calls each function of the layer that takes lists.
func callAll(a, b []string) {
	impl.GoodLines(a)
	impl.TextOf(a)
	impl.IsWhole(a)
	impl.SameAhead(a, b)
	impl.SameBehind(a, b)
	for from := -1; from <= min(len(a), impl.MaxLines)+1; from++ {
		impl.PartOf(a, from, len(a)-1)
		impl.PartOf(a, from, len(a))
		impl.PartOf(a, from, len(a)+1)
	}
}

// goodAndBad are lists of both kinds, most lines among them.
func goodAndBad() [][]string {
	lists := append(goodLists(2), manyLines(impl.MaxLines))
	for _, l := range badLists() {
		lists = append(lists, l)
	}
	return lists
}

// checkUnchanged expects calls with both lists to leave them, and what is around them, as they were.
func checkUnchanged(t *testing.T, l, m []string, call func(a, b []string)) {
	t.Helper()
	a, roomA := within(l)
	b, roomB := within(m)
	beforeA, beforeB := slices.Clone(roomA), slices.Clone(roomB)
	call(a, b)
	call(b, a)
	call(a, a)
	if !slices.Equal(roomA, beforeA) || !slices.Equal(roomB, beforeB) {
		t.Fatalf("changed: %q, %q", l, m)
	}
}

func TestNoArgumentIsChanged(t *testing.T) {
	for _, l := range goodAndBad() {
		for _, m := range goodAndBad() {
			checkUnchanged(t, l, m, callAll)
		}
	}
}

func TestWhatIsBehindAListIsNotRead(t *testing.T) {
	a, roomA := within([]string{"a\n", "b"})
	b, roomB := within([]string{"c\n", "b"})
	for _, behind := range []string{"", "a\n", "\n\n", strings.Repeat("f", 99)} {
		for i := 3; i < len(roomA); i++ {
			roomA[i], roomB[i] = behind, behind
		}
		if s, ok := impl.TextOf(a); s != "a\nb" || !ok {
			t.Errorf("TextOf %q, %v", s, ok)
		}
		if is, ok := impl.IsWhole(a); is || !ok {
			t.Errorf("IsWhole %v, %v", is, ok)
		}
		if part, ok := impl.PartOf(a, 1, 3); len(part) != 0 || ok {
			t.Errorf("PartOf %q, %v", part, ok)
		}
		checkSame(t, "behind", a, b, 0, 1)
	}
}

func TestAnswersShareNoMemory(t *testing.T) {
	for from := 0; from <= 3; from++ {
		for to := from; to <= 3; to++ {
			l, room := within([]string{"a\n", "b\n", "c\n"})
			before := slices.Clone(room)
			part, ok := impl.PartOf(l, from, to)
			if !ok {
				t.Fatalf("PartOf %d %d", from, to)
			}
			for _, s := range part[len(part):cap(part)] {
				if s != "" {
					t.Errorf("PartOf %d %d hands out %q", from, to, s)
				}
			}
			all := part[:cap(part)]
			for i := range all {
				all[i] = "mine"
			}
			_ = append(part, "mine")
			if !slices.Equal(room, before) {
				t.Errorf("PartOf %d %d shares: %q", from, to, room)
			}
		}
	}
}

func TestNothingIsKept(t *testing.T) {
	text := "a\nb\nc"
	first, _ := impl.LinesOf(text)
	want := slices.Clone(first)
	whole := first[:cap(first)]
	for i := range whole {
		whole[i] = "mine"
	}
	if again, ok := impl.LinesOf(text); !ok || !slices.Equal(again, want) {
		t.Errorf("LinesOf again %q, %v", again, ok)
	}
	part, _ := impl.PartOf(want, 0, 2)
	part[0] = "mine"
	if again, ok := impl.PartOf(want, 0, 2); !ok || !slices.Equal(again, []string{"a\n", "b\n"}) {
		t.Errorf("PartOf again %q, %v", again, ok)
	}
}
