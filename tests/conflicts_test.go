package tests

import (
	"slices"
	"strings"
	"testing"

	"loop.example/filereconciler/impl"
)

// The first command of each row is at the path of the second one, or above it if one of both is.
var clashRows = []struct {
	what, c, d string
	clash      bool
}{
	{"a file is made twice, with two values", "/a - f1", "/a - f2", true},
	{"a file changes twice", "/a f1 f2", "/a f1 f3", true},
	{"a file changes twice, by the smallest and the largest value", "/a f1 f0", "/a f1 f99", true},
	{"a file changes twice, from other values", "/a f1 f2", "/a f3 f4", true},
	{"a file is removed, and changes", "/a f1 -", "/a f1 f2", true},
	{"a file is removed, and becomes a directory", "/a/b f1 -", "/a/b f1 d", true},
	{"a file and a directory are made", "/a - f1", "/a - d", true},
	{"the smallest file and a directory are made", "/a - f0", "/a - d", true},
	{"a directory is removed, and becomes a file", "/a/b/c/d d -", "/a/b/c/d d f0", true},
	{"a command and what takes it back", "/a - f1", "/a f1 -", true},
	{"a command and what takes it back, a directory", "/a d f1", "/a f1 d", true},
	{"a command and what goes on", "/a f1 f2", "/a f2 f3", true},

	{"the same command, a file", "/a - f1", "/a - f1", false},
	{"the same command, the smallest file", "/a d f0", "/a d f0", false},
	{"the same command, a directory", "/a/b - d", "/a/b - d", false},
	{"the same command, nothing", "/a d -", "/a d -", false},
	{"the same To with another From, a file", "/a f1 f2", "/a f3 f2", false},
	{"the same To with another From, a file from a directory", "/a d f2", "/a f3 f2", false},
	{"the same To with another From, a file from nothing", "/a - f2", "/a d f2", false},
	{"the same To with another From, a directory", "/a - d", "/a f1 d", false},
	{"the same To with another From, nothing", "/a f1 -", "/a d -", false},
	{"the same To with another From, nothing from two files", "/d/d f1 -", "/d/d f2 -", false},

	{"a directory is removed, and a file is made in it", "/a d -", "/a/b - f1", true},
	{"a directory is removed, and a file changes in it", "/a d -", "/a/b f1 f2", true},
	{"a directory is removed, and one is made in it", "/a d -", "/a/b - d", true},
	{"a directory is removed, and one in it becomes a file", "/a d -", "/a/b d f0", true},
	{"a directory is removed, and a file two names deeper is made", "/a d -", "/a/b/c - f1", true},
	{"a directory is removed, and one three names deeper is made", "/a d -", "/a/b/c/d - d", true},
	{"a directory becomes a file, and a file is made in it", "/a d f1", "/a/b - f1", true},
	{"a directory becomes the smallest file, and one is made in it", "/a d f0", "/a/b - d", true},
	{"a file is made, and one under it", "/a - f1", "/a/a - f1", true},
	{"a file is made, and a directory under it", "/a/b - f1", "/a/b/c - d", true},
	{"a file is made, and one three names deeper changes", "/d - f1", "/d/c/b/a f1 f2", true},
	{"a file changes, and one is made under it", "/a f1 f2", "/a/b - f2", true},
	{"a file is removed, and a directory is made under it", "/a f1 -", "/a/b - d", true},
	{"a file is removed, and one under the deepest there is", "/a/b/c f1 -", "/a/b/c/d - f1", true},

	{"a directory is removed, and a file in it", "/a d -", "/a/b f1 -", false},
	{"a directory is removed, and a directory in it", "/a d -", "/a/b d -", false},
	{"a directory is removed, and a file three names deeper", "/a d -", "/a/b/c/d f1 -", false},
	{"a directory becomes a file, and a file in it is removed", "/a d f1", "/a/b f1 -", false},
	{"a directory becomes a file, and a directory two names deeper is removed", "/a d f1", "/a/b/c d -", false},
	{"a file is made, and one under it is removed", "/a - f1", "/a/b f1 -", false},
	{"a file changes, and one under it is removed", "/a f1 f2", "/a/b f1 -", false},
	{"a directory is made, and a file in it", "/a - d", "/a/b - f1", false},
	{"a directory is made, and a directory in it", "/a - d", "/a/b - d", false},
	{"a directory is made, and a file in it is removed", "/a - d", "/a/b f1 -", false},
	{"a directory is made, and a file in it changes", "/a - d", "/a/b f1 f2", false},
	{"a directory is made, and a file three names deeper", "/a - d", "/a/b/c/d - f1", false},
	{"a file becomes a directory, and a file is made in it", "/a f1 d", "/a/b - f1", false},
	{"a file becomes a directory, and one two names deeper does", "/a f1 d", "/a/b/c f1 d", false},

	{"two files beside each other", "/a - f1", "/b - f2", false},
	{"two files in a directory", "/a/a - f1", "/a/b - f2", false},
	{"a directory is removed, and a file is made in one beside it", "/a d -", "/b/a - f1", false},
	{"a directory is removed, and a file is made in one with its name elsewhere", "/b d -", "/a/b/b - f1", false},
	{"a directory becomes a file, and the names of its path are at the end of another one", "/a/b d f1", "/c/a/b/d - f1", false},
	{"a file is made, and one in a directory beside it", "/a/b - f1", "/a/c/b - f1", false},
	{"a file is made, and one whose path has another first name", "/a/b/c - f1", "/b/b/c/d - f1", false},
	{"a file is made, and one whose path has another name between", "/a/b/c - f1", "/a/c/c/d - f1", false},
	{"two files are made at the longest paths", "/a/b/c/d - f1", "/a/b/c/c - f2", false},
	{"both are removed, elsewhere", "/a d -", "/b f1 -", false},
}

func TestCommandsClashTable(t *testing.T) {
	for _, r := range clashRows {
		c, d := commandFrom(r.c), commandFrom(r.d)
		if got := impl.CommandsClash(c, d); got != r.clash {
			t.Errorf("%s: CommandsClash of %q and %q is %v", r.what, r.c, r.d, got)
		}
		if got := impl.CommandsClash(d, c); got != r.clash {
			t.Errorf("%s: CommandsClash of %q and %q is %v", r.what, r.d, r.c, got)
		}
		if got := clashOf(c, d); got != r.clash {
			t.Errorf("%s: clashOf(%q, %q) is %v", r.what, r.c, r.d, got)
		}
	}
}

// checkClash tells promises 78 and 79 of two valid commands.
func checkClash(t *testing.T, c, d impl.Command) bool {
	t.Helper()
	want := c.Path == d.Path && c.To != d.To ||
		isBelow(d.Path, c.Path) && c.To != dir && d.To != none ||
		isBelow(c.Path, d.Path) && d.To != dir && c.To != none
	got, turned := impl.CommandsClash(c, d), impl.CommandsClash(d, c)
	if got != want || turned != want || clashOf(c, d) != want {
		t.Errorf("CommandsClash of %q and %q is %v, and that of both exchanged is %v", wordsOf(c), wordsOf(d), got, turned)
	}
	return want
}

// Promises 78 and 79.
func TestCommandsClashOfEachTwoPaths(t *testing.T) {
	kinds := [][2]impl.Content{{dir, fileOf(3)}, {fileOf(1), none}, {none, dir}, {fileOf(1), fileOf(2)}}
	paths := allPaths()[1:]
	counts := map[bool]int{}
	for i, p := range paths {
		for j, q := range paths {
			under := p == q || strings.HasPrefix(q, p+"/") || strings.HasPrefix(p, q+"/")
			for k, x := range kinds {
				// All kinds of both are for paths that are equal, or of which one is under the other one.
				for l, y := range kinds {
					if under || (i+j)%7 == k+l {
						counts[checkClash(t, impl.Command{Path: p, From: x[0], To: x[1]}, impl.Command{Path: q, From: y[0], To: y[1]})]++
					}
				}
			}
		}
	}
	if counts[true] < 5000 || counts[false] < 5000 {
		t.Errorf("there are too few of one kind: %v", counts)
	}
}

// Promises 78 and 79.
func TestCommandsClashOfEachTwoCommands(t *testing.T) {
	var list []impl.Command
	for _, p := range []string{"/a", "/b", "/a/a", "/a/b", "/b/a", "/a/b/a", "/a/b/b", "/a/b/a/a", "/d/d/d/d"} {
		list = append(list, commandsAt(p)...)
	}
	counts := map[bool]int{}
	for _, c := range list {
		for _, d := range list {
			counts[checkClash(t, c, d)]++
		}
	}
	if counts[true] < 5000 || counts[false] < 5000 {
		t.Errorf("there are too few of one kind: %v", counts)
	}
}

// Promise 78.
func TestNoCommandClashesWithItself(t *testing.T) {
	for _, c := range slices.Concat(manyCommands(), notCommands()) {
		if impl.CommandsClash(c, c) {
			t.Errorf("CommandsClash of %.60q and itself holds", wordsOf(c))
		}
	}
}

func TestCommandsClashOfAllValues(t *testing.T) {
	for _, x := range validContents() {
		for _, y := range validContents() {
			c, d := impl.Command{Path: "/b/c", From: fileOf(5), To: x}, impl.Command{Path: "/b/c", From: fileOf(6), To: y}
			if !isCommand(c) || !isCommand(d) {
				continue
			}
			checkClash(t, c, d)
			// What is below, and what is above.
			d.Path = "/b/c/a"
			checkClash(t, c, d)
			d.Path = "/b"
			checkClash(t, c, d)
		}
	}
}

// Commands that leave the same are in conflict with the same ones, whatever they come from.
func TestFromMakesNoConflict(t *testing.T) {
	paths := []string{"/a", "/a/b", "/a/c", "/a/b/d/d", "/b"}
	contents := append([]impl.Content{fileOf(5), fileOf(50)}, putContents...)
	for _, p := range paths {
		for _, q := range paths {
			for _, x := range putContents {
				for _, y := range putContents {
					seen := map[bool]bool{}
					for _, from := range contents {
						for _, other := range contents {
							c, d := impl.Command{Path: p, From: from, To: x}, impl.Command{Path: q, From: other, To: y}
							if isCommand(c) && isCommand(d) {
								seen[impl.CommandsClash(c, d)] = true
							}
						}
					}
					if len(seen) != 1 {
						t.Errorf("CommandsClash of commands at %s to %v and at %s to %v holds for some", p, x, q, y)
					}
				}
			}
		}
	}
}

// clashFails tells that CommandsClash does not hold, in both directions.
func clashFails(t *testing.T, c, d impl.Command) {
	t.Helper()
	if impl.CommandsClash(c, d) {
		t.Errorf("CommandsClash of %.60q and %.60q holds", wordsOf(c), wordsOf(d))
	}
	if impl.CommandsClash(d, c) {
		t.Errorf("CommandsClash of %.60q and %.60q holds", wordsOf(d), wordsOf(c))
	}
}

func TestInvalidCommandsDoNotClash(t *testing.T) {
	bad := notCommands()
	for i, c := range bad {
		for _, d := range near(c.Path) {
			clashFails(t, c, d)
		}
		clashFails(t, c, bad[(i+7)%len(bad)])
		clashFails(t, c, impl.Command{Path: c.Path, From: c.To, To: c.From})
		clashFails(t, c, impl.Command{Path: c.Path, From: c.From, To: fileOf(33)})
	}
	// The commands of each row, one or both of which are at a path that is none, or change nothing.
	for _, r := range clashRows {
		c, d := commandFrom(r.c), commandFrom(r.d)
		still := func(x impl.Command) impl.Command { return impl.Command{Path: x.Path, From: x.To, To: x.To} }
		deeper := func(x impl.Command) impl.Command {
			return impl.Command{Path: x.Path + "/a/a/a/a", From: x.From, To: x.To}
		}
		slash := func(x impl.Command) impl.Command { return impl.Command{Path: x.Path + "/", From: x.From, To: x.To} }
		root := func(x impl.Command) impl.Command { return impl.Command{Path: "/", From: x.From, To: x.To} }
		for _, f := range []func(impl.Command) impl.Command{still, deeper, slash, root} {
			clashFails(t, f(c), d)
			clashFails(t, c, f(d))
			clashFails(t, f(c), f(d))
		}
	}
}

// A path that the text of another one begins with, but not name by name, is none; it is under nothing.
func TestPathsThatAreABeginningOnly(t *testing.T) {
	few := [][2]impl.Content{{dir, none}, {dir, fileOf(1)}, {none, fileOf(2)}, {none, dir}, {fileOf(1), none}}
	for _, p := range []string{"/a", "/b", "/a/b", "/a/b/c", "/d/d/d/d"} {
		for _, q := range []string{p + "a", p + "b", p + "/", p + "//a", p + "/ab", p + "a/b", p + " ", p + "\x00", p + "/e", p + "/.", p[:len(p)-1], p[1:], ""} {
			for _, x := range few {
				for _, y := range few {
					clashFails(t, impl.Command{Path: p, From: x[0], To: x[1]}, impl.Command{Path: q, From: y[0], To: y[1]})
				}
			}
		}
	}
	// Of two paths, one is under the other one whenever its text goes on where that of the other one ends.
	for _, p := range allPaths()[1:] {
		for n := 1; n < len(p); n++ {
			above, below := impl.Command{Path: p[:n], From: dir, To: none}, impl.Command{Path: p, From: none, To: dir}
			want := n%2 == 0
			if impl.CommandsClash(above, below) != want || impl.CommandsClash(below, above) != want {
				t.Errorf("CommandsClash of %q and %q is not %v", wordsOf(above), wordsOf(below), want)
			}
		}
	}
}

func TestCommandsWithInvalidContentsDoNotClash(t *testing.T) {
	contents := append([]impl.Content{none, dir, fileOf(1)}, badContents...)
	for _, p := range []string{"/a", "/a/b", "/a/b/c/d"} {
		for _, q := range []string{"/a", "/a/b", "/b"} {
			for _, bad := range badContents {
				for _, x := range contents {
					for _, y := range contents {
						clashFails(t, impl.Command{Path: p, From: x, To: bad}, impl.Command{Path: q, From: none, To: y})
						clashFails(t, impl.Command{Path: p, From: bad, To: x}, impl.Command{Path: q, From: y, To: dir})
					}
				}
			}
		}
	}
}

// treesOfFewPaths returns all trees of directories and two files at a few paths that are near each other, and these paths.
func treesOfFewPaths() ([][]impl.Node, []string) {
	paths := []string{"/a", "/a/b", "/a/b/a", "/a/b/a/d", "/b", "/b/b", "/d"}
	lists := [][]impl.Node{nil}
	for _, p := range paths {
		for _, list := range lists {
			for _, c := range []impl.Content{dir, fileOf(7), fileOf(8)} {
				if longer := append(slices.Clone(list), impl.Node{Path: p, Content: c}); impl.TreeValid(longer) {
					lists = append(lists, longer)
				}
			}
		}
	}
	return lists, paths
}

// Promise 80, and also the other way round: a tree has what both leave exactly if they are in no conflict.
func TestTreesThatHaveWhatBothLeave(t *testing.T) {
	trees, paths := treesOfFewPaths()
	type at struct {
		p, q string
		x, y impl.Content
	}
	had := map[at]bool{}
	for _, tree := range trees {
		for _, p := range paths {
			for _, q := range paths {
				had[at{p, q, impl.TreeGet(tree, p), impl.TreeGet(tree, q)}] = true
			}
		}
	}
	contents := []impl.Content{none, dir, fileOf(7), fileOf(8)}
	for _, p := range paths {
		for _, q := range paths {
			for _, x := range contents {
				for _, y := range contents {
					c, d := impl.Command{Path: p, From: fileOf(1), To: x}, impl.Command{Path: q, From: fileOf(2), To: y}
					if got := impl.CommandsClash(c, d); got == had[at{p, q, x, y}] {
						t.Errorf("CommandsClash of %q and %q is %v, and a tree has both is %v", wordsOf(c), wordsOf(d), got, !got)
					}
				}
			}
		}
	}
	if len(trees) < 300 {
		t.Errorf("there are %d trees", len(trees))
	}
}

// Promise 80: what a tree has is in no conflict, also at paths without a node.
func TestWhatATreeHasIsInNoConflict(t *testing.T) {
	for _, tree := range slices.Concat(fewTrees(), nearTrees()) {
		contents := contentsOf(tree)
		var list []impl.Command
		for _, p := range slices.Concat(nearPaths(tree)[1:], []string{"/d/d/d/d", "/a/b/c"}) {
			for _, from := range []impl.Content{none, dir, fileOf(61)} {
				if c := (impl.Command{Path: p, From: from, To: contents[p]}); isCommand(c) {
					list = append(list, c)
				}
			}
		}
		for _, c := range list {
			for _, d := range list {
				if impl.CommandsClash(c, d) {
					t.Errorf("CommandsClash of %q and %q holds, and %v has both", wordsOf(c), wordsOf(d), tree)
				}
			}
		}
	}
}

// For each two commands in no conflict there is a tree: what each one leaves, and the directories above it.
func TestTreesOfCommandsInNoConflict(t *testing.T) {
	n := 0
	for _, r := range clashRows {
		for _, turned := range []bool{false, true} {
			c, d := commandFrom(r.c), commandFrom(r.d)
			if turned {
				c, d = d, c
			}
			contents := leavesOf(c)
			for p, x := range leavesOf(d) {
				contents[p] = x
			}
			tree := nodesOf(contents)
			has := impl.TreeValid(tree) && impl.TreeGet(tree, c.Path) == c.To && impl.TreeGet(tree, d.Path) == d.To
			if has == impl.CommandsClash(c, d) {
				t.Errorf("%s: CommandsClash of %q and %q is %v, and a tree of both is %v", r.what, r.c, r.d, has, tree)
			}
			if has {
				n++
			}
		}
	}
	if n < 20 {
		t.Errorf("only %d trees have what both leave", n)
	}
}
