package tests

import (
	"slices"
	"strings"
	"testing"

	"loop.example/filereconciler/impl"
)

// A tree and both logs; by what the tree of each side that wins differs from the tree; what the first side has to do if the second one wins,
// and the other way; and the conflicts.
var winnerRows = []struct {
	what, tree, a, b string
	first, second    string
	atFirst, atOther string
	text             string
}{
	{"nothing", "", "", "", "", same, "", "", ""},
	{"nothing is done", "/a=d /a/b=f1", "", "", "", same, "", "", ""},
	{"one log is empty", "", "", "/a - d, /a/b - f1", "/a=d /a/b=f1", same, "", "", ""},
	{"the other log is empty", "/a=d /a/b=f1", "/a/b f1 -, /a d -", "", "/a=- /a/b=-", same, "", "", ""},
	{"both logs are equal", "/a=f1 /b=d", "/b d -, /a f1 f2, /c - d", "/b d -, /a f1 f2, /c - d", "/a=f2 /b=- /c=d", same, "", "", ""},
	{"nothing in common", "", "/a - f1", "/b - f2", "/a=f1 /b=f2", same, "", "", ""},
	{"some in common", "/a=f1", "/a f1 -, /b - d, /b/a - f1", "/a f1 -, /b - d, /b/b - f1", "/a=- /b=d /b/a=f1 /b/b=f1", same, "", "", ""},

	{"two values", "/a=f1", "/a f1 f2", "/a f1 f3", "/a=f2", "/a=f3", "/a f2 f3", "/a f3 f2", "/a f1 f2 | /a f1 f3"},
	{"two values, the smallest and the largest one", "", "/d/d/d/d f1 f0", "/d/d/d/d f1 f99", fails, fails, fails, fails, "/d/d/d/d f1 f0 | /d/d/d/d f1 f99"},
	{"two values of a file that is made", "", "/a - f2", "/a - f3", "/a=f2", "/a=f3", "/a f2 f3", "/a f3 f2", "/a - f2 | /a - f3"},
	{"removed, and changed", "/a=f1", "/a f1 -", "/a f1 f3", "/a=-", "/a=f3", "/a - f3", "/a f3 -", "/a f1 - | /a f1 f3"},
	{"a file, and a directory", "", "/a - f1", "/a - d", "/a=f1", "/a=d", "/a f1 d", "/a d f1", "/a - f1 | /a - d"},
	{"a file, and a directory with something in it", "", "/a - f1", "/a - d, /a/b - d, /a/b/c - f2", "/a=f1", "/a=d /a/b=d /a/b/c=f2",
		"/a f1 d, /a/b - d, /a/b/c - f2", "/a/b/c f2 -, /a/b d -, /a d f1", "/a - f1 | /a - d; /a - f1 | /a/b - d; /a - f1 | /a/b/c - f2"},
	{"a directory with something in it, and a file", "", "/a - d, /a/b - d, /a/b/c - f2", "/a - f1", "/a=d /a/b=d /a/b/c=f2", "/a=f1",
		"/a/b/c f2 -, /a/b d -, /a d f1", "/a f1 d, /a/b - d, /a/b/c - f2", "/a - d | /a - f1; /a/b - d | /a - f1; /a/b/c - f2 | /a - f1"},
	{"a file in a directory that both make", "/b=f1", "/a - d, /a/b - f1", "/b f1 -, /a - d, /a/b - f2", "/b=- /a=d /a/b=f1", "/b=- /a=d /a/b=f2",
		"/a/b f1 f2", "/a/b f2 f1", "/a/b - f1 | /a/b - f2"},
	{"a directory ends, and something is made in it", "/a=d /a/b=d", "/a/b d -, /a d -", "/a/b/c - f1", "/a=- /a/b=-", "/a/b/c=f1",
		"/a - d, /a/b - d, /a/b/c - f1", "/a/b/c f1 -, /a/b d -, /a d -", "/a/b d - | /a/b/c - f1; /a d - | /a/b/c - f1"},
	{"a directory becomes a file, and a file in it is changed", "/a=d /a/b=f1", "/a/b f1 -, /a d f3", "/a/b f1 f2", "/a=f3 /a/b=-", "/a/b=f2",
		"/a f3 d, /a/b - f2", "/a/b f2 -, /a d f3", "/a/b f1 - | /a/b f1 f2; /a d f3 | /a/b f1 f2"},
	{"a file in it is changed, and a directory becomes a file", "/a=d /a/b=f1", "/a/b f1 f2", "/a/b f1 -, /a d f3", "/a/b=f2", "/a=f3 /a/b=-",
		"/a/b f2 -, /a d f3", "/a f3 d, /a/b - f2", "/a/b f1 f2 | /a/b f1 -; /a/b f1 f2 | /a d f3"},
	{"one conflict, and much else", "/a=f1 /b=d /c=f1", "/b d -, /a f1 f2", "/c f1 -, /a f1 f3, /d - f4", "/a=f2 /b=- /c=- /d=f4", "/a=f3 /b=- /c=- /d=f4",
		"/a f2 f3", "/a f3 f2", "/a f1 f2 | /a f1 f3"},
	{"conflicts at several paths", "/a=f1 /b=f1 /c=f1 /d=f1", "/b f1 -, /a f1 f2, /d f1 f2", "/c f1 -, /a f1 f3, /b f1 d, /d f1 f4",
		"/a=f2 /b=- /c=- /d=f2", "/a=f3 /b=d /c=- /d=f4", "/a f2 f3, /b - d, /d f2 f4", "/b d -, /a f3 f2, /d f4 f2",
		"/b f1 - | /b f1 d; /a f1 f2 | /a f1 f3; /d f1 f2 | /d f1 f4"},
	{"conflicts at paths under each other", "/a=d /a/b=d /a/b/c=f1", "/a/b/c f1 -, /a/b d -, /a d -", "/a/b/c f1 f2, /a/b/d - f3",
		"/a=- /a/b=- /a/b/c=-", "/a/b/c=f2 /a/b/d=f3", "/a - d, /a/b - d, /a/b/c - f2, /a/b/d - f3", "/a/b/d f3 -, /a/b/c f2 -, /a/b d -, /a d -",
		"/a/b/c f1 - | /a/b/c f1 f2; /a/b d - | /a/b/c f1 f2; /a/b d - | /a/b/d - f3; /a d - | /a/b/c f1 f2; /a d - | /a/b/d - f3"},
	{"each command in conflict with another one", "/a=f1 /b=f1 /c=f1", "/c f1 -, /a f1 f2, /b f1 d", "/b f1 -, /a f1 f3, /c f1 f4",
		"/a=f2 /b=d /c=-", "/a=f3 /b=- /c=f4", "/b d -, /a f2 f3, /c - f4", "/c f4 -, /a f3 f2, /b - d",
		"/c f1 - | /c f1 f4; /a f1 f2 | /a f1 f3; /b f1 d | /b f1 -"},

	{"ten, and two values", ten, "/a f1 f2", "/a f1 f3", "/a=f2", "/a=f3", "/a f2 f3", "/a f3 f2", "/a f1 f2 | /a f1 f3"},
	{"ten, and two nodes in the room of another one", ten, "/a f1 -, /d/d/c - f2", "/a f1 -, /d/d/c - f3", "/a=- /d/d/c=f2", "/a=- /d/d/c=f3",
		"/d/d/c f2 f3", "/d/d/c f3 f2", "/d/d/c - f2 | /d/d/c - f3"},
	{"ten, and one side only", ten, "/a f1 -, /d/d/c - f2", "/a f1 f2", "/a=- /d/d/c=f2", fails, fails, fails, "/a f1 - | /a f1 f2"},
	{"ten, and the other side only", ten, "/a f1 f2", "/a f1 -, /d/d/c - f2", fails, "/a=- /d/d/c=f2", fails, fails, "/a f1 f2 | /a f1 -"},
	{"ten, neither side, and no conflicts", ten, "/a f1 -", "/d/d/c - f2", fails, fails, fails, fails, ""},
	{"nine, one side only, and a common tree", nine, "/a f1 -, /d/d/c - f2, /d/d/d - f3", "/b f1 -, /a f1 f9, /d/d/c - d, /d/d/c/a - f1", "/a=- /b=- /d/d/c=f2 /d/d/d=f3", fails,
		fails, fails, "/a f1 - | /a f1 f9; /d/d/c - f2 | /d/d/c - d; /d/d/c - f2 | /d/d/c/a - f1"},
	{"nine, both sides, and no common tree", nine, "/a f1 -, /b f1 f2, /d/d/c - f1", "/b f1 -, /a f1 f2, /d/d/d - f1", "/a=- /b=f2 /d/d/c=f1 /d/d/d=f1", "/a=f2 /b=- /d/d/c=f1 /d/d/d=f1",
		"/b f2 -, /a - f2", "/a f2 -, /b - f2", "/a f1 - | /a f1 f2; /b f1 f2 | /b f1 -"},
	{"eight, neither side, and one conflict", eight, "/d/d/b - f2, /d/d/c - f2", "/d/d/c - f3, /d/d/d - f3", fails, fails, fails, fails, "/d/d/c - f2 | /d/d/c - f3"},
	{"eight, and a node has two values", eight, "/d/d/b - f2, /d/d/c - f2", "/d/d/c - f3", "/d/d/b=f2 /d/d/c=f2", "/d/d/b=f2 /d/d/c=f3", "/d/d/c f2 f3", "/d/d/c f3 f2", "/d/d/c - f2 | /d/d/c - f3"},
}

func TestWinnersTable(t *testing.T) {
	for _, r := range winnerRows {
		p := pairingFrom(r.tree, r.a, r.b)
		if !isTree(p.tree) || !isCanon(p.a) || !isCanon(p.b) {
			t.Fatalf("%s: %v is no tree with canonical logs", r.what, p)
		}
		second := r.second
		if second == same {
			second = r.first
		}
		for side, line := range map[int]string{impl.SideA: r.first, impl.SideB: second} {
			p.winsAs(t, r.what, side, line)
			p.turned().winsAs(t, r.what, 3-side, line)
		}
		p.hasSteps(t, r.what, impl.SideB, impl.SideA, r.atFirst)
		p.hasSteps(t, r.what, impl.SideA, impl.SideB, r.atOther)
		p.turned().hasSteps(t, r.what, impl.SideA, impl.SideB, r.atFirst)
		p.turned().hasSteps(t, r.what, impl.SideB, impl.SideA, r.atOther)
		text := strings.ReplaceAll(r.text, "; ", "\n")
		if text != "" {
			text += "\n"
		}
		if got := impl.ClashText(p.a, p.b); got != text {
			t.Errorf("%s: ClashText of %v is %q", r.what, p, got)
		}
		p.checkWinners(t)
	}
}

// winsAs tells that the tree of a side differs from the tree as a line says, or that there is none, and what the side itself has to do.
func (p pairing) winsAs(t *testing.T, what string, side int, line string) {
	t.Helper()
	got, ok := impl.ResolveTree(p.tree, p.a, p.b, side)
	if line == fails {
		if ok || len(got) > 0 {
			t.Errorf("%s: ResolveTree of %v for %d is %v, %v", what, p, side, got, ok)
		}
		p.hasNoSteps(t, side, side)
		return
	}
	if want := edited(p.tree, line); !ok || !sameNodes(got, want) {
		t.Errorf("%s: ResolveTree of %v for %d is %v, %v, not %v", what, p, side, got, ok, want)
	}
	p.hasSteps(t, what, side, side, "")
}

// hasSteps tells what a side has to do if another one wins, or that there is no answer.
func (p pairing) hasSteps(t *testing.T, what string, side, at int, line string) {
	t.Helper()
	if line == fails {
		p.hasNoSteps(t, side, at)
		return
	}
	if got, ok := impl.ResolveSteps(p.tree, p.a, p.b, side, at); !ok || lineOf(got) != line {
		t.Errorf("%s: ResolveSteps of %v for %d at %d is %q, %v, not %q", what, p, side, at, lineOf(got), ok, line)
	}
}

// The rows of the pairs are trees and logs of many kinds, too.
func TestWinnersOfPairsTable(t *testing.T) {
	for _, r := range pairRows {
		pairingFrom(r.tree, r.a, r.b).checkWinners(t)
	}
	for _, r := range pairTreeRows {
		pairingOf(treeFrom(r.tree), treeFrom(r.x), treeFrom(r.y)).checkWinners(t)
	}
}

func TestSidesAreNumbers(t *testing.T) {
	if impl.SideA != 1 || impl.SideB != 2 {
		t.Errorf("the sides are %d and %d", impl.SideA, impl.SideB)
	}
}

// Numbers that no side has, as the one that wins, as the one that has to do something, and as both.
func TestSidesThatDoNotExist(t *testing.T) {
	list := []pairing{{nil, facing{}}, pairingFrom("/a=f1", "/a f1 f2", "/a f1 f3"), pairingFrom("/a=f1", "/a f1 f2", "/a f1 f2"), pairingFrom("/a=f1", "", "/b - d"),
		pairingFrom(ten, "/a f1 -, /d/d/c - f2", "/a f1 f2"), pairingFrom("/a=f1", "/a f2 f3", "/a f1 f3"), pairingFrom("/b=d /a=d", "", "")}
	for _, p := range list {
		for _, x := range []pairing{p, p.turned()} {
			for _, bad := range otherSides {
				x.hasNoTree(t, bad)
				for _, side := range allSides() {
					x.hasNoSteps(t, bad, side)
					x.hasNoSteps(t, side, bad)
				}
			}
		}
	}
	// Numbers near the sides, and those that differ from a side in one bit.
	p := list[1]
	for n := -2000; n <= 2000; n++ {
		p.hasSide(t, n)
	}
	for bit := range 64 {
		for _, side := range bothSides {
			p.hasSide(t, side^1<<bit)
		}
	}
}

// hasSide tells that a number has a tree, wins and loses exactly if it is that of a side.
func (p pairing) hasSide(t *testing.T, n int) {
	t.Helper()
	_, ok := impl.ResolveTree(p.tree, p.a, p.b, n)
	_, wins := impl.ResolveSteps(p.tree, p.a, p.b, n, impl.SideA)
	_, loses := impl.ResolveSteps(p.tree, p.a, p.b, impl.SideB, n)
	if exists := slices.Contains(bothSides, n); ok != exists || wins != exists || loses != exists {
		t.Errorf("the side %d has a tree is %v, wins is %v, and loses is %v", n, ok, wins, loses)
	}
}

func TestWinnersOfManyLogs(t *testing.T) {
	for i, p := range pairings() {
		if i%3 == 0 {
			p.checkWinners(t)
		}
	}
}

func TestClashTextOfManyLogs(t *testing.T) {
	for _, p := range pairings() {
		p.facing.checkText(t)
		p.facing.turned().checkText(t)
	}
	for _, f := range facingLogs() {
		f.checkText(t)
		f.turned().checkText(t)
	}
}

// Conflicts of logs that fit no tree are told, too, as ClashText has none.
var clashTextRows = []struct {
	what, a, b string
	text       string
}{
	{"nothing", "", "", ""},
	{"nothing, and a command", "", "/a - f1", ""},
	{"a command, and nothing", "/a - f1", "", ""},
	{"the same command", "/a - f1", "/a - f1", ""},
	{"the same To with another From", "/a f1 f2", "/a f3 f2", ""},
	{"elsewhere", "/a - f1", "/b - f2", ""},
	{"what takes it back", "/a - f1", "/a f1 -", "/a - f1 | /a f1 -\n"},
	{"all words", "/d/c/b/a f10 d", "/d/c/b/a - f9", "/d/c/b/a f10 d | /d/c/b/a - f9\n"},
	{"one, and all of the other log", "/a d -", "/a/a - f1, /a/b - d, /a/c f1 f2, /a/d/a - f3",
		"/a d - | /a/a - f1\n/a d - | /a/b - d\n/a d - | /a/c f1 f2\n/a d - | /a/d/a - f3\n"},
	{"all of a log, and the only one", "/a/a - f1, /a/b - d, /a/c f1 f2", "/a d -", "/a/a - f1 | /a d -\n/a/b - d | /a d -\n/a/c f1 f2 | /a d -\n"},
	{"the first one with the last one", "/b f1 -, /a f1 -", "/a f1 f2, /b f1 f2", "/b f1 - | /b f1 f2\n/a f1 - | /a f1 f2\n"},
	{"not the first one", "/a - f1, /b - f2, /c - f3", "/a - f1, /b - f4, /d - f1", "/b - f2 | /b - f4\n"},
	{"in both, and in conflict with each other", "/a - f1, /a/b - f2", "/a - f1, /a/b - f2", "/a - f1 | /a/b - f2\n/a/b - f2 | /a - f1\n"},
	{"each one with each one", "/a/a d -, /a d -", "/a/a/a - f1, /a/a/b - d", "/a/a d - | /a/a/a - f1\n/a/a d - | /a/a/b - d\n/a d - | /a/a/a - f1\n/a d - | /a/a/b - d\n"},
	{"all kinds at once", "/d d -, /a - d, /a/a - f1, /b f1 f2, /c - f4", "/d/a f1 -, /a - d, /a/b - f3, /b f1 f9, /d/b - f1", "/d d - | /d/b - f1\n/b f1 f2 | /b f1 f9\n"},
	{"out of order", "/b - f1, /a - f1", "/a - f2", ""},
	{"what ends something behind what does not", "/a - f1, /b f1 -", "/a - f2", ""},
	{"a path twice", "/a - f1, /a f1 f2", "/a - f3", ""},
	{"a path twice, and nothing in the end", "/a - f1, /a f1 -", "/a - f3", ""},
}

func TestClashTextTable(t *testing.T) {
	for _, r := range clashTextRows {
		f := facing{logFrom(r.a), logFrom(r.b)}
		if got := impl.ClashText(f.a, f.b); got != r.text {
			t.Errorf("%s: ClashText of %v is %q", r.what, f, got)
		}
		f.checkText(t)
		f.turned().checkText(t)
	}
	for _, r := range conflictRows {
		f := facing{logFrom(r.a), logFrom(r.b)}
		lines := strings.Split(impl.ClashText(f.a, f.b), "\n")
		var places []impl.Clash
		for _, line := range lines[:len(lines)-1] {
			first, second, _ := strings.Cut(line, " | ")
			places = append(places, impl.Clash{A: slices.Index(f.a, commandFrom(first)), B: slices.Index(f.b, commandFrom(second))})
		}
		if clashLine(places) != r.clashes || lines[len(lines)-1] != "" {
			t.Errorf("%s: ClashText of %v is %q", r.what, f, lines)
		}
		f.checkText(t)
		f.turned().checkText(t)
	}
}

// Logs of all lengths around LogMax: those that are too long have no conflicts.
func TestClashTextOfAllLengths(t *testing.T) {
	for n := range 2 * impl.LogMax {
		for row, f := range logsUnderEachOther(n) {
			f.checkText(t)
			f.turned().checkText(t)
			if got := impl.ClashText(f.a, f.b); n > impl.LogMax && got != "" {
				t.Errorf("%d commands, row %d: ClashText is %q", n, row, got)
			}
		}
		f := facing{sameAt([]string{"/a", "/a/a"}, "d", "-"), sameAt(pathsUnder("/a/a", n), "-", "f2")}
		want := 2 * n
		if n > impl.LogMax {
			want = 0
		}
		if got := impl.ClashText(f.a, f.b); strings.Count(got, "\n") != want || strings.Count(got, " | ") != want {
			t.Errorf("ClashText of %v is %q", f, got)
		}
		f.checkText(t)
		f.turned().checkText(t)
	}
}

// Files of all values, at a path of each depth.
func TestClashTextOfAllValues(t *testing.T) {
	for i, c := range validContents() {
		for k, d := range validContents() {
			p := []string{"/a", "/b/c", "/d/a/b", "/c/c/d/a"}[(i+k)%4]
			first, second := impl.Command{Path: p, From: fileOf(5), To: c}, impl.Command{Path: p, From: c, To: d}
			if !isCommand(first) || !isCommand(second) {
				continue
			}
			f := facing{[]impl.Command{first}, []impl.Command{second}}
			if got := impl.ClashText(f.a, f.b); got != wordsOf(first)+" | "+wordsOf(second)+"\n" {
				t.Errorf("ClashText of %v is %q", f, got)
			}
		}
	}
}
