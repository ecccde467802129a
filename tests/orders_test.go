package tests

import (
	"slices"
	"strings"
	"testing"

	"loop.example/filereconciler/impl"
)

// Of each two commands, the first one must precede the second one.
var precedeRows = []struct{ what, first, second string }{
	{"a directory is removed, and a file in it is", "/a/b f1 -", "/a d -"},
	{"a directory is removed, and a file in it is made", "/a/b - f1", "/a d -"},
	{"a directory is removed, and a file in it changes", "/a/b f1 f2", "/a d -"},
	{"a directory becomes a file, and a file in it is removed", "/a/b f1 -", "/a d f2"},
	{"a directory becomes a file, and a file in it changes", "/a/b f1 f2", "/a d f2"},
	{"a directory becomes a file, and a directory in it is removed", "/a/b d -", "/a d f0"},
	{"a directory becomes a file, and a directory in it does", "/a/b d f1", "/a d f1"},
	{"a directory ends, and what is in it ends", "/a/b d -", "/a d -"},
	{"a directory ends, and one begins in it", "/a/b - d", "/a d -"},
	{"a directory ends, and a file in it becomes one", "/a/b f1 d", "/a d f9"},
	{"a directory ends, and what is two names deeper does", "/a/b/c d -", "/a d -"},
	{"a directory ends, and a file three names deeper is made", "/a/b/c/d - f1", "/a d f1"},
	{"a directory ends, and a file three names deeper changes", "/a/a/a/a f1 f2", "/a d -"},
	{"a directory in a directory ends, and what is in it does", "/d/d/c f1 -", "/d/d d -"},
	{"the deepest directory there is ends, and what is in it does", "/a/b/c/d d -", "/a/b/c d -"},

	{"a directory is made, and a file in it is", "/a - d", "/a/b - f1"},
	{"a directory is made, and a file in it is removed", "/a - d", "/a/b f1 -"},
	{"a directory is made, and a file in it changes", "/a - d", "/a/b f1 f2"},
	{"a file becomes a directory, and a file in it is made", "/a f1 d", "/a/b - f1"},
	{"a file becomes a directory, and a file in it changes", "/a f1 d", "/a/b f1 f2"},
	{"a file becomes a directory, and a directory in it is made", "/a f0 d", "/a/b - d"},
	{"a file becomes a directory, and a file in it does", "/a f1 d", "/a/b f1 d"},
	{"a directory begins, and what is in it begins", "/a - d", "/a/b - d"},
	{"a directory begins, and one ends in it", "/a - d", "/a/b d -"},
	{"a directory begins, and one in it becomes a file", "/a f9 d", "/a/b d f1"},
	{"a directory begins, and what is two names deeper does", "/a - d", "/a/b/c - d"},
	{"a directory begins, and a file three names deeper is removed", "/a f1 d", "/a/b/c/d f1 -"},
	{"a directory begins, and a file three names deeper changes", "/a - d", "/a/a/a/a f1 f2"},
	{"a directory in a directory begins, and what is in it does", "/d/d - d", "/d/d/c - f1"},
	{"the deepest directory there is begins, and what is in it does", "/a/b/c - d", "/a/b/c/d - d"},
}

func TestMustPrecedeTable(t *testing.T) {
	for _, r := range precedeRows {
		first, second := commandFrom(r.first), commandFrom(r.second)
		if !impl.MustPrecede(first, second) || !precedesOf(first, second) {
			t.Errorf("%s: %q need not precede %q", r.what, r.first, r.second)
		}
		if impl.MustPrecede(second, first) || precedesOf(second, first) {
			t.Errorf("%s: %q must precede %q", r.what, r.second, r.first)
		}
	}
}

// Of each two commands, none must precede the other one.
var freeRows = []struct{ what, c, d string }{
	{"two files", "/a - f1", "/b - f1"},
	{"two directories begin", "/a - d", "/b - d"},
	{"two directories end", "/a d -", "/b d -"},
	{"a directory ends, and another one begins", "/a d -", "/b - d"},
	{"a directory begins, and what is beside it changes", "/a/a - d", "/a/b f1 f2"},
	{"a directory ends, and what is beside it ends", "/a/a d -", "/a/b f1 -"},
	{"a directory begins, and what is in one beside it does", "/a - d", "/b/a - f1"},
	{"a directory ends, and what is in one beside it does", "/b d -", "/a/b d -"},
	{"a directory begins, and what is under its name elsewhere does", "/a/b - d", "/b/a - d"},
	{"a directory ends, and what is under its name elsewhere does", "/b/b d f1", "/a/b/b f1 -"},
	{"a directory begins, and the names of its path are those at the end of the other one", "/a/b - d", "/c/a/b/d - f1"},
	{"a directory ends, and the names of its path are those at the end of the other one", "/b d -", "/d/b/b f1 -"},
	{"the longest paths", "/a/b/c/d - d", "/a/b/c/c - d"},
	{"a path and what is not in it", "/a/b/c d -", "/a/b/d/c f1 -"},
	{"a file is made, and what is in it is removed", "/a - f1", "/a/b f1 -"},
	{"a file is removed, and what is in it is made", "/a f1 -", "/a/b - f1"},
	{"a file changes, and what is in it does", "/a f1 f2", "/a/b f1 f2"},
	{"a file changes, and a directory begins in it", "/a f1 f2", "/a/b - d"},
	{"a file changes, and a directory ends in it", "/a f1 f2", "/a/b d -"},
	{"a file changes, and a directory begins much deeper", "/d f1 f2", "/d/d/d/d f1 d"},
	{"a file is made, and a directory ends much deeper", "/d - f2", "/d/d/d/d d f1"},
	{"the same path", "/a - d", "/a d -"},
	{"the same path, the same command", "/a - d", "/a - d"},
	{"the same path, the same end", "/a/b d -", "/a/b d -"},
	{"the same path, another value", "/d f1 f2", "/d f2 f3"},
	{"the same path, a file becomes a directory twice", "/a/b f1 d", "/a/b f2 d"},
}

func TestMustPrecedeOfCommandsThatAreFree(t *testing.T) {
	for _, r := range freeRows {
		c, d := commandFrom(r.c), commandFrom(r.d)
		if impl.MustPrecede(c, d) || precedesOf(c, d) {
			t.Errorf("%s: %q must precede %q", r.what, r.c, r.d)
		}
		if impl.MustPrecede(d, c) || precedesOf(d, c) {
			t.Errorf("%s: %q must precede %q", r.what, r.d, r.c)
		}
	}
}

// aboveAndBelow tells that one command, whatever is done below it, must precede this, must come behind it, or is free.
func aboveAndBelow(t *testing.T, above impl.Command, before, behind bool) {
	t.Helper()
	for _, deeper := range []string{"/a", "/b", "/d/d", "/a/b", "/a/a/a", "/c/b/a"} {
		if !isPath(above.Path + deeper) {
			continue
		}
		for _, below := range slices.Concat(orderCommandsAt(above.Path+deeper), commandsAt(above.Path+deeper)) {
			if got := impl.MustPrecede(above, below); got != before {
				t.Errorf("MustPrecede of %q and %q is %v", wordsOf(above), wordsOf(below), got)
			}
			if got := impl.MustPrecede(below, above); got != behind {
				t.Errorf("MustPrecede of %q and %q is %v", wordsOf(below), wordsOf(above), got)
			}
		}
	}
}

// Only what is done above tells the order, not what is done below.
func TestDirectoriesThatEndAndBegin(t *testing.T) {
	for _, p := range []string{"/a", "/d", "/a/a", "/b/a", "/c/c/c"} {
		for _, x := range endingContents {
			aboveAndBelow(t, impl.Command{Path: p, From: x[0], To: x[1]}, false, true)
		}
		for _, x := range beginningContents {
			aboveAndBelow(t, impl.Command{Path: p, From: x[0], To: x[1]}, true, false)
		}
		for _, x := range otherContents {
			aboveAndBelow(t, impl.Command{Path: p, From: x[0], To: x[1]}, false, false)
		}
	}
}

// checkPair tells promises 68, 69 and 77 of two valid commands.
func checkPair(t *testing.T, c, d impl.Command) {
	t.Helper()
	got := impl.MustPrecede(c, d)
	if got && !isBelow(c.Path, d.Path) && !isBelow(d.Path, c.Path) {
		t.Errorf("%q must precede %q, and no path is under the other one", wordsOf(c), wordsOf(d))
	}
	if want := isBelow(d.Path, c.Path) && c.To == dir || isBelow(c.Path, d.Path) && d.From == dir; got != want {
		t.Errorf("MustPrecede of %q and %q is %v", wordsOf(c), wordsOf(d), got)
	}
	if got && impl.MustPrecede(d, c) {
		t.Errorf("%q and %q must precede each other", wordsOf(c), wordsOf(d))
	}
	if back := impl.MustPrecede(impl.CommandUndo(d), impl.CommandUndo(c)); back != got {
		t.Errorf("MustPrecede of %q and %q is %v, and taken back %v", wordsOf(c), wordsOf(d), got, back)
	}
}

// Promises 68, 69 and 77.
func TestMustPrecedeOfEachTwoPaths(t *testing.T) {
	kinds := [][2]impl.Content{{dir, fileOf(3)}, {none, dir}, {fileOf(1), fileOf(2)}}
	paths := allPaths()[1:]
	for i, p := range paths {
		for j, q := range paths {
			for k, x := range kinds {
				// All kinds of both are for paths of which one is under the other one.
				for l, y := range kinds {
					if isBelow(p, q) || isBelow(q, p) || (i+j+k+l)%9 == 0 {
						checkPair(t, impl.Command{Path: p, From: x[0], To: x[1]}, impl.Command{Path: q, From: y[0], To: y[1]})
					}
				}
			}
		}
	}
}

// Promises 68, 69 and 77.
func TestMustPrecedeOfEachTwoCommands(t *testing.T) {
	var list []impl.Command
	for _, p := range []string{"/a", "/b", "/a/a", "/a/b", "/b/a", "/a/b/a", "/a/b/b", "/a/b/a/a", "/d/d/d/d"} {
		list = append(list, commandsAt(p)...)
	}
	counts := map[bool]int{}
	for _, c := range list {
		for _, d := range list {
			checkPair(t, c, d)
			counts[precedesOf(c, d)]++
		}
	}
	if counts[true] < 1000 || counts[false] < 1000 {
		t.Errorf("there are too few of one kind: %v", counts)
	}
}

// near returns valid commands that end, begin and change something at paths that are near another one, a path or not.
func near(p string) []impl.Command {
	var list []impl.Command
	for _, q := range []string{"/a", "/d/d/d/d", p, p + "/a", p + "/a/b", parentOf(p), strings.TrimRight(p, "/"), p + "a", p[:len(p)/2]} {
		if isPath(q) && q != "/" {
			list = append(list, orderCommandsAt(q)...)
		}
	}
	return list
}

func TestMustPrecedeOfInvalidCommands(t *testing.T) {
	fails := func(c, d impl.Command) {
		if impl.MustPrecede(c, d) {
			t.Errorf("MustPrecede of %.60q and %.60q holds", wordsOf(c), wordsOf(d))
		}
	}
	bad := notCommands()
	for i, c := range bad {
		for _, d := range near(c.Path) {
			fails(c, d)
			fails(d, c)
		}
		fails(c, c)
		fails(c, bad[(i+7)%len(bad)])
		fails(bad[(i+7)%len(bad)], c)
	}
	// What changes nothing, and what is no content, at paths that are under each other.
	var few []impl.Command
	for _, p := range []string{"/", "/a", "/ab", "/a/", "/a/b", "/a/bc", "/a/b/c/d/a"} {
		for _, x := range []impl.Content{none, dir, fileOf(1), badContents[1], badContents[4], badContents[6], badContents[8]} {
			for _, y := range []impl.Content{none, dir, fileOf(1), badContents[1], badContents[4], badContents[6], badContents[8]} {
				few = append(few, impl.Command{Path: p, From: x, To: y})
			}
		}
	}
	for _, c := range few {
		for _, d := range few {
			if !isCommand(c) || !isCommand(d) {
				fails(c, d)
			}
		}
	}
}

// Promise 77.
func TestCommandsThatAreTakenBack(t *testing.T) {
	for _, r := range precedeRows {
		first, second := commandFrom(r.first), commandFrom(r.second)
		if !impl.MustPrecede(impl.CommandUndo(second), impl.CommandUndo(first)) {
			t.Errorf("%s: taken back, %q need not precede %q", r.what, r.second, r.first)
		}
		if impl.MustPrecede(impl.CommandUndo(first), impl.CommandUndo(second)) {
			t.Errorf("%s: taken back, %q must precede %q", r.what, r.first, r.second)
		}
	}
	for _, c := range manyCommands() {
		if below := c.Path + "/a"; isPath(below) {
			for _, d := range orderCommandsAt(below) {
				checkPair(t, c, d)
				checkPair(t, d, c)
			}
		}
	}
}

// The same call gives the same answer each time it is made.
func TestOrdersAreTheSameEachTime(t *testing.T) {
	for i, log := range slices.Concat(orderLogs(), countLogs()) {
		if i%10 != 0 {
			continue
		}
		fits, count := orderFitsOf(log), countOf(log)
		for k := range len(log) + 1 {
			want, fine := swapOf(log, k)
			for range 5 {
				if got, ok := impl.OrderSwap(log, k); ok != fine || !slices.Equal(got, want) {
					t.Fatalf("OrderSwap of %q, %d is %q, %v", lineOf(log), k, lineOf(got), ok)
				}
				if got := impl.OrderFits(log); got != fits {
					t.Fatalf("OrderFits of %q is %v", lineOf(log), got)
				}
				if got := impl.OrdersCount(log); got != count {
					t.Fatalf("OrdersCount of %q is %d", lineOf(log), got)
				}
			}
		}
	}
}
