package tests

import (
	"slices"
	"strings"
	"testing"

	"loop.example/filereconciler/impl"
)

// Without commands, RemoveAll fails.
var removeRows = []struct {
	what, tree, path, log string
}{
	{"the only file", "/a=f4", "/a", "/a f4 -"},
	{"a file with the value 0", "/a=f0", "/a", "/a f0 -"},
	{"the first file", "/a=f1 /b=f2 /c=f3", "/a", "/a f1 -"},
	{"a file between", "/a=f1 /b=f2 /c=f3", "/b", "/b f2 -"},
	{"the last file", "/a=f1 /b=f2 /c=f3", "/c", "/c f3 -"},
	{"a file in a directory", "/a=d /a/b=f2 /a/c=f3", "/a/b", "/a/b f2 -"},
	{"the only directory", "/d=d", "/d", "/d d -"},
	{"an empty directory beside others", "/a=d /a/a=f1 /b=d /c=d", "/b", "/b d -"},
	{"an empty directory in a directory", "/a=d /a/a=d /a/b=f1", "/a/a", "/a/a d -"},
	{"a directory with a file", "/a=d /a/c=f1", "/a", "/a/c f1 -, /a d -"},
	{"a directory with files", "/a=d /a/a=f1 /a/b=f2 /a/d=f0 /b=d", "/a", "/a/d f0 -, /a/b f2 -, /a/a f1 -, /a d -"},
	{"directories in directories", "/a=d /a/a=d /a/a/c=f1 /a/b=d /a/b/a=f2 /b=f3", "/a", "/a/b/a f2 -, /a/b d -, /a/a/c f1 -, /a/a d -, /a d -"},
	{"a directory in between", "/a=d /a/a=d /a/a/c=f1 /a/b=d /a/b/a=f2 /b=f3", "/a/a", "/a/a/c f1 -, /a/a d -"},
	{"files and directories, deep ones ahead of others", "/b=d /b/a=d /b/a/d=d /b/a/d/a=f1 /b/b=f2", "/b", "/b/b f2 -, /b/a/d/a f1 -, /b/a/d d -, /b/a d -, /b d -"},
	{"one name up to the largest depth", "/a=d /a/a=d /a/a/a=d /a/a/a/a=f9", "/a", "/a/a/a/a f9 -, /a/a/a d -, /a/a d -, /a d -"},
	{"one name from the second depth on", "/a=d /a/a=d /a/a/a=d /a/a/a/a=f9", "/a/a", "/a/a/a/a f9 -, /a/a/a d -, /a/a d -"},
	{"one name at the largest depth", "/a=d /a/a=d /a/a/a=d /a/a/a/a=f9", "/a/a/a/a", "/a/a/a/a f9 -"},
	{"a name that is there elsewhere, too", "/a=d /a/b=d /a/b/b=f1 /b=d /b/b=f2", "/b", "/b/b f2 -, /b d -"},
	{"a name that is there elsewhere, down", "/a=d /a/b=d /a/b/b=f1 /b=d /b/b=f2", "/a/b", "/a/b/b f1 -, /a/b d -"},
	{"a directory of a full tree", full, "/a", "/a/c f2 -, /a/b f1 -, /a/a d -, /a d -"},
	{"the last node of a full tree", full, "/d/a", "/d/a f5 -"},
	{"all nodes of a full tree", moveTrees[8], "/c",
		"/c/d d -, /c/c/d f5 -, /c/c d -, /c/b/b f4 -, /c/b/a f3 -, /c/b d -, /c/a/b f2 -, /c/a/a f1 -, /c/a d -, /c d -"},

	{"no node", "", "/a", ""},
	{"the root of an empty tree", "", "/", ""},
	{"the root of a tree", "/a=d /a/b=f1", "/", ""},
	{"the root of a full tree", full, "/", ""},
	{"no node beside others", "/a=f1 /c=f3", "/b", ""},
	{"no node under a file", "/a=f1", "/a/b", ""},
	{"no node in a directory", "/a=d /a/b=f1", "/a/a", ""},
	{"no node below the last one", "/a=d /a/b=d", "/a/b/c", ""},
	{"no node without a parent", "/b=d /b/c=f1", "/c/b", ""},
	{"the beginning of a path with a slash", "/a=d /a/b=f1", "/a/", ""},
	{"no slash in front", "/a=d /a/b=f1", "a", ""},
	{"no text", "/a=d /a/b=f1", "", ""},
	{"a path that is too deep", "/a=d /a/a=d /a/a/a=d /a/a/a/a=d", "/a/a/a/a/a", ""},
}

func TestRemoveAllTable(t *testing.T) {
	for _, r := range removeRows {
		tree := treeFrom(r.tree)
		if !isTree(tree) || strings.Contains(r.what, "full tree") && len(tree) != impl.NodeMax {
			t.Errorf("%s: the tree is %v", r.what, tree)
		}
		if got, ok := impl.RemoveAll(tree, r.path); ok != (r.log != "") || !slices.Equal(got, logFrom(r.log)) {
			t.Errorf("%s: RemoveAll(%v, %q) is %q, %v", r.what, tree, r.path, lineOf(got), ok)
		}
		if got := removeOf(tree, r.path); lineOf(got) != r.log {
			t.Errorf("%s: removeOf(%v, %q) is %q", r.what, tree, r.path, lineOf(got))
		}
	}
}

// Without commands, CopyAll and MoveAll fail.
var copyRows = []struct {
	what, tree, from, to, log string
}{
	{"the only file", "/a=f4", "/a", "/b", "/b - f4"},
	{"a file with the value 0", "/d=f0", "/d", "/a", "/a - f0"},
	{"a file into a directory", "/a=f4 /b=d", "/a", "/b/a", "/b/a - f4"},
	{"a file out of a directory", "/b=d /b/a=f4", "/b/a", "/a", "/a - f4"},
	{"a file from a directory to the next one", "/a=d /a/c=f9 /b=d /b/c=f8", "/a/c", "/b/d", "/b/d - f9"},
	{"a file beside itself", "/a=d /a/a=f1", "/a/a", "/a/b", "/a/b - f1"},
	{"an empty directory", "/a=d", "/a", "/d", "/d - d"},
	{"an empty directory up", "/a=d /a/b=d /a/b/c=d", "/a/b/c", "/c", "/c - d"},
	{"a directory with files", "/a=d /a/a=f1 /a/b=f2 /a/d=f0", "/a", "/c", "/c - d, /c/a - f1, /c/b - f2, /c/d - f0"},
	{"directories in directories", "/b=d /b/a=d /b/a/c=f1 /b/b=d /b/d=f3", "/b", "/a", "/a - d, /a/a - d, /a/a/c - f1, /a/b - d, /a/d - f3"},
	{"files and directories, deep ones ahead of others", "/b=d /b/a=d /b/a/d=d /b/a/d/a=f1 /b/b=f2", "/b", "/a",
		"/a - d, /a/a - d, /a/a/d - d, /a/a/d/a - f1, /a/b - f2"},
	{"a part of a directory", "/b=d /b/a=d /b/a/c=f1 /b/b=d /b/d=f3", "/b/a", "/b/c", "/b/c - d, /b/c/c - f1"},
	{"one name up to the largest depth", "/a=d /a/a=d /a/a/a=d /a/a/a/a=d", "/a", "/b", "/b - d, /b/a - d, /b/a/a - d, /b/a/a/a - d"},
	{"one name, and another one elsewhere", "/a=d /a/a=d /a/a/a=f1 /b=d", "/a", "/b/b", "/b/b - d, /b/b/a - d, /b/b/a/a - f1"},
	{"one name from the end up", "/a=d /a/a=d /a/a/a=d /a/a/a/a=f7", "/a/a/a", "/a/b", "/a/b - d, /a/b/a - f7"},
	{"just deep enough", "/a=d /a/b=d /b=d /b/b=d /b/b/b=d", "/a", "/b/b/c", "/b/b/c - d, /b/b/c/b - d"},
	{"paths of the same names", "/a=d /a/b=d /b=d /b/a=d /b/a/b=f1", "/b/a", "/a/b/a", "/a/b/a - d, /a/b/a/b - f1"},
	{"a path that begins as the other one goes on", "/a=d /a/a=f1 /b=d", "/a", "/b/a", "/b/a - d, /b/a/a - f1"},
	{"the tenth node", "/a=d /a/a=f0 /a/b=f1 /a/c=f2 /a/d=f3 /b=d /b/a=f4 /c=f5 /d=f6", "/d", "/b/b", "/b/b - f6"},
	{"five nodes and five more", "/b=d /b/a=f1 /b/b=f2 /b/c=f3 /b/d=f4", "/b", "/a", "/a - d, /a/a - f1, /a/b - f2, /a/c - f3, /a/d - f4"},

	{"a file over a file", "/a=f1 /b=f2", "/a", "/b", ""},
	{"a file over an equal file", "/a=f1 /b=f1", "/a", "/b", ""},
	{"a file over an empty directory", "/a=f1 /b=d", "/a", "/b", ""},
	{"a directory over an empty directory", "/a=d /a/b=f1 /b=d", "/a", "/b", ""},
	{"a directory over a directory with other files", "/a=d /a/a=f1 /b=d /b/b=f2", "/a", "/b", ""},
	{"a directory over a file", "/a=d /b=f2", "/a", "/b", ""},
	{"nothing at the parent", "/a=f1", "/a", "/b/a", ""},
	{"nothing at the parent, but above it", "/a=f1 /b=d", "/a", "/b/b/a", ""},
	{"a file at the parent", "/a=f1 /b=f2", "/a", "/b/a", ""},
	{"a directory under a file", "/a=d /b=d /b/a=f2", "/a", "/b/a/b", ""},
	{"a file under itself", "/a=f1", "/a", "/a/a", ""},
	{"a file far under itself", "/a=f1", "/a", "/a/b/c", ""},
	{"an empty directory in itself", "/a=d", "/a", "/a/b", ""},
	{"a directory in itself", "/a=d /a/a=f1", "/a", "/a/b", ""},
	{"a directory in its own directory", "/a=d /a/b=d", "/a", "/a/b/c", ""},
	{"a directory far under itself", "/a=d /a/b=d /a/b/c=d", "/a", "/a/b/c/d", ""},
	{"a directory where it has a file", "/a=d /a/b=f1", "/a", "/a/b", ""},
	{"a file over its parent", "/a=d /a/b=f1", "/a/b", "/a", ""},
	{"a directory over its parent", "/a=d /a/a=d /a/a/a=f1", "/a/a", "/a", ""},
	{"a file far above itself", "/a=d /a/b=d /a/b/c=f1", "/a/b/c", "/a", ""},
	{"a file to where it is", "/a=f1", "/a", "/a", ""},
	{"a directory to where it is", "/a=d /a/b=f1", "/a", "/a", ""},
	{"nothing to where it is", "/a=d", "/b", "/b", ""},
	{"no node", "/a=d", "/b", "/c", ""},
	{"no node in an empty tree", "", "/a", "/b", ""},
	{"no node under a file", "/a=f1", "/a/b", "/b", ""},
	{"the root", "/a=d", "/", "/b", ""},
	{"the root of an empty tree", "", "/", "/b", ""},
	{"to the root", "/a=d", "/a", "/", ""},
	{"to the root, from below", "/a=d /a/b=f1", "/a/b", "/", ""},
	{"the root to the root", "/a=d", "/", "/", ""},
	{"one name too deep", "/a=d /a/b=d /b=d /b/b=d /b/b/b=d", "/a", "/b/b/b/b", ""},
	{"the last file too deep", "/a=d /a/a=d /a/a/a=f1 /b=d /b/a=d", "/a", "/b/a/a", ""},
	{"one name up to the largest depth, and one more", "/a=d /a/a=d /a/a/a=d /a/a/a/a=d /b=d", "/a", "/b/a", ""},
	{"a path that is too deep itself", "/a=f1 /b=d /b/b=d /b/b/b=d /b/b/b/b=d", "/a", "/b/b/b/b/b", ""},
	{"the eleventh node", full, "/c", "/d/b", ""},
	{"the first node of a full tree", fullBehind, "/c", "/a", ""},
	{"a directory of a full tree", full, "/a", "/d/b", ""},
	{"the tenth node and one more", "/a=d /a/b=d /a/c=f1 /b=d /b/a=f4 /c=d /c/a=f5 /c/b=f6 /d=f7", "/b", "/c/d", ""},
	{"six nodes and six more", "/a=d /a/a=f1 /a/b=f2 /a/c=f3 /a/d=d /a/d/a=f4", "/a", "/b", ""},
	{"all nodes of a full tree", moveTrees[8], "/c", "/a", ""},
	{"from a path with a slash behind it", "/a=d /a/b=f1", "/a/", "/b", ""},
	{"to a path with a slash behind it", "/a=d /a/b=f1", "/a", "/b/", ""},
	{"from no text", "/a=d /a/b=f1", "", "/b", ""},
	{"to no text", "/a=d /a/b=f1", "/a", "", ""},
	{"to no name", "/a=d /a/b=f1", "/a", "/e", ""},
}

func TestCopyAllAndMoveAllTable(t *testing.T) {
	for _, r := range copyRows {
		m := moved{treeFrom(r.tree), r.from, r.to}
		if !isTree(m.tree) || strings.Contains(r.what, "full tree") && len(m.tree) != impl.NodeMax {
			t.Errorf("%s: the tree is %v", r.what, m.tree)
		}
		if got, ok := impl.CopyAll(m.tree, m.from, m.to); ok != (r.log != "") || !slices.Equal(got, logFrom(r.log)) {
			t.Errorf("%s: CopyAll of %v is %q, %v", r.what, m, lineOf(got), ok)
		}
		if got := copyOf(m.tree, m.from, m.to); lineOf(got) != r.log {
			t.Errorf("%s: copyOf of %v is %q", r.what, m, lineOf(got))
		}
		want := logFrom(r.log)
		if r.log != "" {
			removed, _ := impl.RemoveAll(m.tree, m.from)
			want = append(want, removed...)
		}
		if got, ok := impl.MoveAll(m.tree, m.from, m.to); ok != (r.log != "") || !slices.Equal(got, want) {
			t.Errorf("%s: MoveAll of %v is %q, %v", r.what, m, lineOf(got), ok)
		}
	}
}

func TestMoveAllTable(t *testing.T) {
	for _, r := range []struct{ tree, from, to, log, result string }{
		{"/a=f4", "/a", "/b", "/b - f4, /a f4 -", "/b=f4"},
		{"/b=d", "/b", "/a", "/a - d, /b d -", "/a=d"},
		{"/a=d /a/b=f1 /a/c=f2 /d=f3", "/a", "/b", "/b - d, /b/b - f1, /b/c - f2, /a/c f2 -, /a/b f1 -, /a d -", "/b=d /b/b=f1 /b/c=f2 /d=f3"},
		{"/a=d /a/b=d /a/b/c=d /a/b/c/d=f9", "/a/b", "/b", "/b - d, /b/c - d, /b/c/d - f9, /a/b/c/d f9 -, /a/b/c d -, /a/b d -", "/a=d /b=d /b/c=d /b/c/d=f9"},
		{"/a=d /a/a=d /a/a/a=f1 /b=d", "/a/a", "/b/a", "/b/a - d, /b/a/a - f1, /a/a/a f1 -, /a/a d -", "/a=d /b=d /b/a=d /b/a/a=f1"},
		{"/a=d /a/a=f1 /a/b=f2 /a/c=f3 /a/d=f4", "/a", "/d", "/d - d, /d/a - f1, /d/b - f2, /d/c - f3, /d/d - f4, /a/d f4 -, /a/c f3 -, /a/b f2 -, /a/a f1 -, /a d -", "/d=d /d/a=f1 /d/b=f2 /d/c=f3 /d/d=f4"},
	} {
		m := moved{treeFrom(r.tree), r.from, r.to}
		got, ok := impl.MoveAll(m.tree, m.from, m.to)
		if !ok || lineOf(got) != r.log {
			t.Errorf("MoveAll of %v is %q, %v", m, lineOf(got), ok)
		}
		if after, done := impl.LogApply(m.tree, got); done != len(got) || !sameNodes(after, treeFrom(r.result)) {
			t.Errorf("MoveAll of %v leads to %v, %d", m, after, done)
		}
	}
}

func TestRemoveAllOfManyTrees(t *testing.T) {
	for _, tree := range treesForMoves() {
		for _, p := range allPaths() {
			want := removeOf(tree, p)
			if got, ok := impl.RemoveAll(tree, p); ok != (want != nil) || !slices.Equal(got, want) {
				t.Errorf("RemoveAll(%v, %q) is %q, %v", tree, p, lineOf(got), ok)
			}
		}
	}
}

func TestCopyAllAndMoveAllOfManyPairs(t *testing.T) {
	for _, m := range pairsForMoves() {
		want := copyOf(m.tree, m.from, m.to)
		if got, ok := impl.CopyAll(m.tree, m.from, m.to); ok != (want != nil) || !slices.Equal(got, want) {
			t.Errorf("CopyAll of %v is %q, %v", m, lineOf(got), ok)
		}
		want = moveOf(m.tree, m.from, m.to)
		if got, ok := impl.MoveAll(m.tree, m.from, m.to); ok != (want != nil) || !slices.Equal(got, want) {
			t.Errorf("MoveAll of %v is %q, %v", m, lineOf(got), ok)
		}
	}
}

// All paths there are, not only those that are near, so that many are too deep or have no parent.
func TestCopyAllAndMoveAllOfAllPaths(t *testing.T) {
	for _, line := range append(moveTrees, full, "", "/a=d", "/c=f0") {
		tree := treeFrom(line)
		for _, from := range nearPaths(tree) {
			for _, to := range allPaths() {
				want := moveOf(tree, from, to)
				copied, fine := impl.CopyAll(tree, from, to)
				if got, ok := impl.MoveAll(tree, from, to); ok != (want != nil) || fine != ok || !slices.Equal(got, want) || len(got) < len(copied) {
					t.Errorf("MoveAll of %v is %q, %v, CopyAll %q, %v", moved{tree, from, to}, lineOf(got), ok, lineOf(copied), fine)
				}
			}
		}
	}
}

// Promise 52.
func TestRemoveAllLeavesNothingAtThePath(t *testing.T) {
	removed := map[int]int{}
	for _, tree := range treesForMoves() {
		for _, p := range nearPaths(tree) {
			log, ok := impl.RemoveAll(tree, p)
			if !ok {
				continue
			}
			removed[len(log)]++
			after, done := impl.LogApply(tree, log)
			if done != len(log) || !impl.LogFits(tree, log) || !sameNodes(after, without(tree, p)) {
				t.Errorf("RemoveAll(%v, %q) leads to %v, %d", tree, p, after, done)
			}
			if impl.TreeGet(after, p) != none || len(impl.TreeUnder(after, p)) > 0 {
				t.Errorf("RemoveAll(%v, %q) leaves %v", tree, p, after)
			}
		}
	}
	for _, n := range []int{1, 2, 3, 4, 5, impl.NodeMax} {
		if removed[n] == 0 {
			t.Errorf("%v: there are no %d nodes that are removed", removed, n)
		}
	}
}

// Promise 53.
func TestRemoveAllHasOneCommandForEachPath(t *testing.T) {
	for _, tree := range treesForMoves() {
		contents := contentsOf(tree)
		for _, p := range nearPaths(tree) {
			log, ok := impl.RemoveAll(tree, p)
			if ok != (contents[p] != none) {
				t.Errorf("RemoveAll(%v, %q) is %q, %v", tree, p, lineOf(log), ok)
			}
			if !ok {
				continue
			}
			var paths []string
			for _, c := range log {
				paths = append(paths, c.Path)
				if c.From != contents[c.Path] || c.To != none {
					t.Errorf("RemoveAll(%v, %q) is %q", tree, p, lineOf(log))
				}
			}
			slices.Reverse(paths)
			if !slices.Equal(paths, append([]string{p}, impl.TreeUnder(tree, p)...)) {
				t.Errorf("RemoveAll(%v, %q) is %q", tree, p, lineOf(log))
			}
		}
	}
}

// Promise 54.
func TestCopyAllMakesTheSameAndNothingElse(t *testing.T) {
	paths := allPaths()
	for i, m := range pairsThatCopy() {
		log, ok := impl.CopyAll(m.tree, m.from, m.to)
		after, done := impl.LogApply(m.tree, log)
		if !ok || done != len(log) || !impl.LogFits(m.tree, log) {
			t.Fatalf("CopyAll of %v is %q, %v, and leads to %v, %d", m, lineOf(log), ok, after, done)
		}
		before, contents := contentsOf(m.tree), contentsOf(after)
		for _, n := range after {
			behind, copied := behindPath(n.Path, m.to)
			if copied && n.Content != before[m.from+behind] || !copied && n.Content != before[n.Path] {
				t.Errorf("CopyAll of %v leads to %v: %q is another one", m, after, n.Path)
			}
		}
		for _, n := range m.tree {
			behind, copied := behindPath(n.Path, m.from)
			if copied && contents[m.to+behind] != n.Content || contents[n.Path] != n.Content {
				t.Errorf("CopyAll of %v leads to %v: %q is missing", m, after, n.Path)
			}
		}
		// TreeGet of all paths takes long, so it is asked for a part of the pairs only.
		if i%50 != 0 {
			continue
		}
		for _, p := range paths[1:] {
			want := before[p]
			if behind, copied := behindPath(p, m.to); copied {
				want = before[m.from+behind]
			}
			if got := impl.TreeGet(after, p); got != want {
				t.Errorf("CopyAll of %v leads to %v: TreeGet of %q is %v", m, after, p, got)
			}
		}
	}
}

// Promise 55.
func TestCopyAllMakesEqualSums(t *testing.T) {
	for _, m := range pairsThatCopy() {
		log, ok := impl.CopyAll(m.tree, m.from, m.to)
		after, done := impl.LogApply(m.tree, log)
		first, second := impl.TreeSum(after, m.from), impl.TreeSum(after, m.to)
		if !ok || done != len(log) || first != second || first < 0 || first != plainTreeSum(contentsOf(m.tree), m.from) {
			t.Errorf("CopyAll of %v leads to %v with the sums %d and %d", m, after, first, second)
		}
	}
}

// Promise 56.
func TestMoveAllKeepsSumsAndTheNumberOfNodes(t *testing.T) {
	for _, m := range pairsThatCopy() {
		log, ok := impl.MoveAll(m.tree, m.from, m.to)
		after, done := impl.LogApply(m.tree, log)
		if !ok || done != len(log) || !impl.LogFits(m.tree, log) || len(after) != len(m.tree) {
			t.Fatalf("MoveAll of %v is %q, %v, and leads to %v, %d", m, lineOf(log), ok, after, done)
		}
		if impl.TreeGet(after, m.from) != none || len(impl.TreeUnder(after, m.from)) > 0 {
			t.Errorf("MoveAll of %v leads to %v", m, after)
		}
		if before, sum := impl.TreeSum(m.tree, m.from), impl.TreeSum(after, m.to); sum != before || sum < 0 {
			t.Errorf("MoveAll of %v leads to %v with the sum %d, not %d", m, after, sum, before)
		}
		if !sameNodes(after, renamedTree(m.tree, m.from, m.to)) {
			t.Errorf("MoveAll of %v leads to %v", m, after)
		}
	}
}

// Promise 57.
func TestMoveAllBackLeadsBack(t *testing.T) {
	for _, m := range pairsThatCopy() {
		log, ok := impl.MoveAll(m.tree, m.from, m.to)
		after, _ := impl.LogApply(m.tree, log)
		back, fine := impl.MoveAll(after, m.to, m.from)
		result, done := impl.LogApply(after, back)
		if !ok || !fine || done != len(log) || len(back) != len(log) || !sameNodes(result, m.tree) {
			t.Errorf("MoveAll of %v, and back by %q, %v, leads to %v", m, lineOf(back), fine, result)
		}
	}
}

// The other way to tell what can be copied is right only if there are pairs of all kinds.
func TestPairsThatCopy(t *testing.T) {
	copied, filled, deep, inside := map[int]int{}, 0, 0, 0
	for _, m := range pairsThatCopy() {
		log := copyOf(m.tree, m.from, m.to)
		after, fits := m.after(log)
		if !fits {
			t.Fatalf("copyOf of %v is %q", m, lineOf(log))
		}
		copied[len(log)]++
		if len(after) == impl.NodeMax {
			filled++
		}
		if slices.ContainsFunc(log, func(c impl.Command) bool { return len(c.Path) == 2*impl.DepthMax }) {
			deep++
		}
		if parentOf(m.from) == parentOf(m.to) {
			inside++
		}
	}
	for n := range 5 {
		if copied[n+1] == 0 {
			t.Errorf("%v: there are no %d nodes that are copied", copied, n+1)
		}
	}
	if copied[6] > 0 || filled < 50 || deep < 50 || inside < 50 || len(pairsThatCopy()) < 2000 {
		t.Errorf("%v are copied: %d fill the tree, %d are deep, %d go beside", copied, filled, deep, inside)
	}
}

// As long as nodes are both at the first and at the second path, there must be room for them.
func TestMovesThatHaveNoRoom(t *testing.T) {
	inside := treeFrom("/a=d /a/a=d /a/a/a=d /a/a/a/a=f1 /a/a/b=d /a/b=f2 /a/c=d /a/c/d=f3 /a/d=d /a/d/a=f4")
	beside := treeFrom("/c=f5 /d=d /d/a=d /d/b=f6 /d/c=f7 /d/d=d /d/d/a=f8 /d/d/b=f9")
	for n := 1; n <= impl.NodeMax; n++ {
		for k := range min(impl.NodeMax-n, len(beside)) + 1 {
			m := moved{slices.Concat(inside[:n], beside[:k]), "/a", "/b"}
			room := n+k+n <= impl.NodeMax
			if log, ok := impl.CopyAll(m.tree, m.from, m.to); ok != room || ok != (len(log) == n) {
				t.Errorf("CopyAll of %v is %q, %v", m, lineOf(log), ok)
			}
			if log, ok := impl.MoveAll(m.tree, m.from, m.to); ok != room || ok != (len(log) == 2*n) {
				t.Errorf("MoveAll of %v is %q, %v", m, lineOf(log), ok)
			}
			if log, ok := impl.RemoveAll(m.tree, m.from); !ok || len(log) != n {
				t.Errorf("RemoveAll of %v is %q, %v", m, lineOf(log), ok)
			}
			// There would be room if what is moved were removed first.
			if !isTree(m.tree) || !isTree(renamedTree(m.tree, m.from, m.to)) {
				t.Errorf("%v cannot be moved at all", m)
			}
		}
	}
}

// refused tells that neither of three functions has anything for a tree and two paths.
func refused(t *testing.T, what string, m moved) {
	t.Helper()
	if log, ok := impl.RemoveAll(m.tree, m.from); ok || len(log) > 0 {
		t.Errorf("%.60q: RemoveAll of %v is %q, %v", what, m, lineOf(log), ok)
	}
	copyRefused(t, what, m)
}

func copyRefused(t *testing.T, what string, m moved) {
	t.Helper()
	if log, ok := impl.CopyAll(m.tree, m.from, m.to); ok || len(log) > 0 {
		t.Errorf("%.60q: CopyAll of %v is %q, %v", what, m, lineOf(log), ok)
	}
	if log, ok := impl.MoveAll(m.tree, m.from, m.to); ok || len(log) > 0 {
		t.Errorf("%.60q: MoveAll of %v is %q, %v", what, m, lineOf(log), ok)
	}
}

func TestMovesOfTextsThatAreNoPaths(t *testing.T) {
	for _, line := range append(moveTrees, full, "", "/a=d", "/a=f1") {
		tree := treeFrom(line)
		for _, bad := range append([]string{"/"}, notPaths...) {
			refused(t, "no path", moved{tree, bad, "/b"})
			refused(t, "no path", moved{tree, bad, "/a/d"})
			refused(t, "no path", moved{tree, bad, bad})
			for _, n := range tree {
				refused(t, "no path", moved{tree, bad, n.Path})
				copyRefused(t, "no path", moved{tree, n.Path, bad})
			}
		}
	}
}

func TestMovesInTreesThatAreNone(t *testing.T) {
	for what, tree := range notTrees() {
		froms := []string{"/", "/a", "/a/b", "/b", ""}
		for _, n := range tree[:min(len(tree), 20)] {
			froms = append(froms, n.Path)
		}
		for _, from := range froms {
			for _, to := range []string{"/", "/a", "/c", "/d", "/a/d", "/b/d", "/d/d", "/d/d/d/d", "/e", ""} {
				refused(t, what, moved{tree, from, to})
			}
		}
	}
}

// Calls change neither trees, nor what is behind them, nor each other's results.
func TestMovesShareNoMemory(t *testing.T) {
	for i, m := range slices.Concat(pairsThatCopy(), pairsForMoves()) {
		// All pairs take too long.
		if i%17 != 0 {
			continue
		}
		tree, array := markedNodes(m.tree)
		before := slices.Clone(array)
		for what, call := range map[string]func() ([]impl.Command, bool){
			"RemoveAll": func() ([]impl.Command, bool) { return impl.RemoveAll(tree, m.from) },
			"CopyAll":   func() ([]impl.Command, bool) { return impl.CopyAll(tree, m.from, m.to) },
			"MoveAll":   func() ([]impl.Command, bool) { return impl.MoveAll(tree, m.from, m.to) },
		} {
			first, ok := call()
			want := slices.Clone(first)
			second, _ := call()
			overwriteCommands(first)
			third, fine := call()
			if fine != ok || !slices.Equal(second, want) || !slices.Equal(third, want) {
				t.Fatalf("%s of %v is %q, then %q, then %q", what, m, lineOf(want), lineOf(second), lineOf(third))
			}
			if !slices.Equal(array, before) {
				t.Fatalf("%s of %v has changed the tree: %v", what, m, array)
			}
		}
	}
}

// Trees that are none are left as they are, too.
func TestMovesLeaveTreesThatAreNone(t *testing.T) {
	for _, line := range []string{"/b=d /a=d", "/a/b=f1", "/a=d /a=d", "/=d /a=d", "/a=d /a/b=- /b=f1", full + " /d/b=f1"} {
		tree, array := markedNodes(treeFrom(line))
		before := slices.Clone(array)
		for _, p := range []string{"/a", "/b", "/d", "/"} {
			refused(t, line, moved{tree, p, "/c"})
		}
		if !slices.Equal(array, before) {
			t.Errorf("%q has changed: %v", line, array)
		}
	}
}
