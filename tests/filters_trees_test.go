package tests

import (
	"math/rand"
	"slices"
	"testing"

	"loop.example/filereconciler/impl"
)

// A tree, ignored paths, and the tree without them.
var filterTreeRows = []struct {
	what, tree, ignores, want string
}{
	{"nothing", "", "", ""},
	{"the empty tree", "", "/a /b", ""},
	{"no ignored paths", "/a=d /a/b=f1 /c=f2", "", "/a=d /a/b=f1 /c=f2"},
	{"the only node", "/a=f1", "/a", ""},
	{"another node", "/a=f1", "/b", "/a=f1"},
	{"a file", "/a=d /a/b=f1 /a/c=f2", "/a/b", "/a=d /a/c=f2"},
	{"a directory", "/a=d /b=d /c=d", "/b", "/a=d /c=d"},
	{"a directory with all that is in it", "/a=d /a/b=d /a/b/c=d /a/b/c/d=f1 /b=f2", "/a", "/b=f2"},
	{"a directory in another one", "/a=d /a/b=d /a/b/c=d /a/b/c/d=f1 /b=f2", "/a/b", "/a=d /b=f2"},
	{"the last one of them", "/a=d /a/b=d /a/b/c=d /a/b/c/d=f1 /b=f2", "/a/b/c/d", "/a=d /a/b=d /a/b/c=d /b=f2"},
	{"a path under a file", "/a=f1 /b=f2", "/a/b", "/a=f1 /b=f2"},
	{"a path that is not in the tree", "/a=d /a/b=f1", "/a/c", "/a=d /a/b=f1"},
	{"a path whose parent is not in the tree", "/a=d /a/b=f1", "/b/a", "/a=d /a/b=f1"},
	{"paths that are not in the tree", "/a=d /a/b=f1", "/b /c /d/a /a/a", "/a=d /a/b=f1"},
	{"one in the tree and one that is not", "/a=d /a/b=f1", "/c /a/b", "/a=d"},
	{"names that begin alike", "/a=d /a/b=d /a/b/a=f1 /a/c=d /a/c/b=f1 /b=d /b/a=d /b/a/b=f1 /b/b=f2", "/a/b", "/a=d /a/c=d /a/c/b=f1 /b=d /b/a=d /b/a/b=f1 /b/b=f2"},
	{"the same last names", "/a=f1 /b=d /b/a=f1 /c=d /c/a=d /c/a/a=f2", "/a", "/b=d /b/a=f1 /c=d /c/a=d /c/a/a=f2"},
	{"the first one", "/a=f1 /b=f1 /c=f1", "/a", "/b=f1 /c=f1"},
	{"the last one", "/a=f1 /b=f1 /c=f1", "/c", "/a=f1 /b=f1"},
	{"all of them", "/a=f1 /b=f1 /c=f1 /d=d /d/d=f1", "/d /c /b /a", ""},
	{"under each other", "/a=d /a/b=d /a/b/c=f1 /a/d=f2", "/a/b /a/b/c", "/a=d /a/d=f2"},
	{"under each other, the longest one first", "/a=d /a/b=d /a/b/c=f1 /a/d=f2 /b=d", "/a/b/c /a/b /a", "/b=d"},
	{"beside each other", "/a=d /a/a=f1 /a/b=f2 /a/c=f3 /a/d=f4", "/a/b /a/d", "/a=d /a/a=f1 /a/c=f3"},
	{"all in a directory, but not it", "/a=d /a/a=f1 /a/b=f2 /a/c=f3 /a/d=f4", "/a/a /a/b /a/c /a/d", "/a=d"},
	{"the same path twice", "/a=d /a/a=f1 /b=d", "/a/a /a/a", "/a=d /b=d"},
	{"ten nodes", ten, "/d/d", "/a=f1 /b=f1 /c=f1 /d=d /d/a=f1 /d/b=f1 /d/c=f1"},
	{"ten nodes, and none is left", ten, "/a /b /c /d", ""},
}

func TestFilterTreeTable(t *testing.T) {
	for _, r := range filterTreeRows {
		tree, ignores := treeFrom(r.tree), pathsFrom(r.ignores)
		if !isTree(tree) || !isIgnores(ignores) || !isTree(treeFrom(r.want)) {
			t.Fatalf("%s: %v or %q is invalid", r.what, tree, ignores)
		}
		if got := impl.FilterTree(tree, ignores); !sameNodes(got, treeFrom(r.want)) {
			t.Errorf("%s: FilterTree of %v without %q is %v", r.what, tree, ignores, got)
		}
		checkFilterTree(t, tree, ignores)
		slices.Reverse(ignores)
		checkFilterTree(t, tree, ignores)
	}
}

// listsFor returns paths to ignore that are near those of a tree: each one of them, and a few at once.
func listsFor(r *rand.Rand, tree []impl.Node) [][]string {
	lists := [][]string{nil}
	for _, p := range nearPaths(tree)[1:] {
		lists = append(lists, []string{p})
	}
	var paths []string
	for _, n := range tree {
		paths = append(paths, n.Path)
	}
	for n := range 3 * impl.IgnoreMax {
		lists = append(lists, ignoresNear(r, paths, 1+n%impl.IgnoreMax))
	}
	return lists
}

// Promise 108.
func TestFilterTreeHasWhatIsNotIgnored(t *testing.T) {
	r := rand.New(rand.NewSource(63))
	whole, part, nothing := 0, 0, 0
	for _, tree := range slices.Concat(manyTrees(), nearTrees()) {
		for _, ignores := range listsFor(r, tree) {
			got := impl.FilterTree(tree, ignores)
			if !impl.TreeValid(got) || !isTree(got) {
				t.Errorf("FilterTree of %v without %q is %v, which is no tree", tree, ignores, got)
			}
			n := 0
			for _, node := range tree {
				ignored := slices.ContainsFunc(ignores, func(p string) bool { return isInside(node.Path, p) })
				if slices.Contains(got, node) == ignored {
					t.Errorf("FilterTree of %v without %q is %v: %v is ignored is %v", tree, ignores, got, node, ignored)
				}
				if !ignored {
					n++
				}
			}
			if len(got) != n {
				t.Errorf("FilterTree of %v without %q is %v", tree, ignores, got)
			}
			switch {
			case n == len(tree):
				whole++
			case n == 0:
				nothing++
			default:
				part++
			}
			checkFilterTree(t, tree, ignores)
		}
	}
	if whole < 1000 || part < 1000 || nothing < 100 {
		t.Errorf("%d trees are whole, %d are a part, and %d are empty", whole, part, nothing)
	}
}

func TestFilterTreeWithoutEachPath(t *testing.T) {
	for _, tree := range fewTrees() {
		for _, ignores := range someIgnores() {
			checkFilterTree(t, tree, ignores)
		}
	}
}

// Ignored paths can be taken one after the other, in any order, and once more.
func TestFilterTreeOfATreeThatIsFiltered(t *testing.T) {
	r := rand.New(rand.NewSource(64))
	for _, tree := range manyTrees() {
		for _, ignores := range listsFor(r, tree) {
			want := impl.FilterTree(tree, ignores)
			step := tree
			for k := range ignores {
				step = impl.FilterTree(step, ignores[k:k+1])
			}
			if again := impl.FilterTree(want, ignores); !sameNodes(again, want) || !sameNodes(step, want) {
				t.Errorf("FilterTree of %v without %q is %v, path by path %v, and once more %v", tree, ignores, want, step, again)
			}
		}
	}
}

// What is kept of a log changes nothing that is ignored, so a tree without the ignored paths is what both may differ in.
func TestFilterKeepChangesWhatFilterTreeHas(t *testing.T) {
	for i, l := range logsToFilter() {
		if i%5 > 0 {
			continue
		}
		canon, _ := canonOf(l.log)
		for _, p := range pathsToIgnore(canon) {
			kept := impl.FilterKeep(canon, []string{p})
			after, _ := impl.LogApply(l.tree, kept)
			before, behind := impl.FilterTree(l.tree, []string{p}), impl.FilterTree(after, []string{p})
			if slices.Compare(changedOf(before, behind), changedOf(l.tree, after)) != 0 {
				t.Errorf("%v: what is kept without %q leads from %v to %v", l, p, before, behind)
			}
		}
	}
}

func TestFilterTreeOfWhatIsInvalid(t *testing.T) {
	lists := [][]string{nil, {}, {"/a"}, {"/b"}, {"/a/b"}, {"/d/d/d/d"}, pathsFrom("/a /b /c /d"), {"/"}, {"/e"}, pathsFrom("/a /b /c /d /a/a")}
	for what, tree := range notTrees() {
		for _, ignores := range lists {
			if got := impl.FilterTree(tree, ignores); len(got) > 0 {
				t.Errorf("%.60q: FilterTree without %q is %s", what, ignores, shown(got))
			}
		}
	}
	trees := [][]impl.Node{nil, treeFrom("/a=f1"), treeFrom("/b=d /b/a=f1"), treeFrom(ten), treeFrom("/b=d /a=d")}
	for _, ignores := range notIgnores() {
		for _, tree := range trees {
			if got := impl.FilterTree(tree, ignores); len(got) > 0 {
				t.Errorf("FilterTree of %v without %s is %s", tree, shown(ignores), shown(got))
			}
		}
	}
	// A node that is wrong is one too many, even if it is ignored.
	for _, line := range []string{"/a=d /a/b=- /c=f1", "/a/b=f1 /c=f1", "/a=f1 /a/b=f1 /c=f1", "/c=f1 /a=f1"} {
		if got := impl.FilterTree(treeFrom(line), []string{"/a"}); len(got) > 0 {
			t.Errorf("FilterTree of %s is %v", line, got)
		}
	}
}

// The same call gives the same answer each time it is made.
func TestFilterTreeIsTheSameEachTime(t *testing.T) {
	r := rand.New(rand.NewSource(65))
	for i, tree := range manyTrees() {
		if i%3 > 0 {
			continue
		}
		for _, ignores := range listsFor(r, tree) {
			for range 3 {
				checkFilterTree(t, tree, ignores)
				if got := impl.FilterTree(tree, append([]string{"/"}, ignores...)); len(got) > 0 {
					t.Errorf("FilterTree of %v without the root is %v", tree, got)
				}
			}
		}
	}
}

// Calls change neither trees and paths, nor what is behind them, nor each other's results.
func TestFilterTreeSharesNoMemory(t *testing.T) {
	r := rand.New(rand.NewSource(66))
	for _, tree := range append(manyTrees(), treeFrom("/b=d /a=d"), treeFrom("/a=- /b=d")) {
		for _, list := range append(listsFor(r, tree), []string{"/"}, []string{"/a", "/e"}) {
			nodes, array := markedNodes(tree)
			ignores, texts := markedTexts(list)
			arrayBefore, textsBefore := slices.Clone(array), slices.Clone(texts)
			want := slices.Clone(impl.FilterTree(slices.Clone(tree), slices.Clone(list)))
			first, second := impl.FilterTree(nodes, ignores), impl.FilterTree(nodes, ignores)
			overwriteNodes(first)
			if !sameNodes(second, want) {
				t.Fatalf("FilterTree of %v without %q is %v", tree, list, second)
			}
			if !slices.Equal(array, arrayBefore) || !slices.Equal(texts, textsBefore) {
				t.Fatalf("%v or %q has changed: %v, %q", tree, list, array, texts)
			}
			overwriteNodes(nodes)
			if !sameNodes(second, want) {
				t.Fatalf("FilterTree of %v without %q has changed: %v", tree, list, second)
			}
		}
	}
}
