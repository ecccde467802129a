package tests

import (
	"math/rand"
	"testing"

	"loop.example/filereconciler/impl"
)

func TestNodeMax(t *testing.T) {
	if impl.NodeMax != 10 {
		t.Errorf("NodeMax is %d", impl.NodeMax)
	}
}

func TestTreesThatAreValid(t *testing.T) {
	lists := [][]impl.Node{nil, {}, make([]impl.Node, 0, 5)}
	for _, line := range append(fullTrees,
		"/a=d", "/a=f0", "/d=f99", "/a=f1 /b=f1", "/a=d /a/b=d", "/a=d /a/b=f1 /b=d", "/a=d /b=d /b/a=f0", "/a=d /a/d=f1 /b=f1",
		"/a=d /a/a=d /a/a/a=d /a/a/a/a=d", "/d=d /d/d=d /d/d/d=d /d/d/d/d=f99", "/a=f1 /b=d /b/a=d /c=f1 /d=d",
	) {
		lists = append(lists, treeFrom(line))
	}
	for _, list := range lists {
		if !impl.TreeValid(list) {
			t.Errorf("TreeValid(%v) does not hold", list)
		}
	}
}

func TestListsThatAreNoTrees(t *testing.T) {
	for what, list := range notTrees() {
		if isTree(list) {
			t.Errorf("%.60q is a tree", what)
		}
		if impl.TreeValid(list) {
			t.Errorf("%.60q: TreeValid holds", what)
		}
		for _, p := range []string{"/", "/a", "/b", "/a/b", "/d", "/d/d/d/d", ""} {
			if c := impl.TreeGet(list, p); c != none {
				t.Errorf("%.60q: TreeGet of %q is %v", what, p, c)
			}
			if paths := impl.TreeUnder(list, p); len(paths) > 0 {
				t.Errorf("%.60q: TreeUnder of %q is %v", what, p, paths)
			}
			for _, c := range []impl.Content{none, dir, fileOf(1)} {
				if result, ok := impl.TreePut(list, p, c); ok || len(result) > 0 {
					t.Errorf("%.60q: TreePut of %v at %q is %v, %v", what, c, p, result, ok)
				}
			}
		}
	}
}

// Every list of up to three nodes of a few, good and bad ones, in any order.
func TestTreeValidTellsTrees(t *testing.T) {
	pool := append(treeFrom("/=d /a=d /a=f1 /a=- /a/b=d /a/b=f2 /a/b/c=d /a/b/c=f3 /a/c=f0 /b=d /b/a=d /b/b=- /d=f99"),
		impl.Node{Path: "/a/", Content: dir}, impl.Node{Path: "", Content: dir}, impl.Node{Path: "/ab", Content: dir},
		impl.Node{Path: "/a", Content: impl.Content{Kind: impl.KindDir, Value: 1}}, impl.Node{Path: "/c", Content: fileOf(100)},
		impl.Node{Path: "/b", Content: impl.Content{Kind: 3}}, impl.Node{})
	lists, longest := [][]impl.Node{nil}, [][]impl.Node{nil}
	for range 3 {
		var next [][]impl.Node
		for _, list := range longest {
			for _, n := range pool {
				next = append(next, append(append([]impl.Node{}, list...), n))
			}
		}
		lists, longest = append(lists, next...), next
	}
	for _, list := range lists {
		if got := impl.TreeValid(list); got != isTree(list) {
			t.Errorf("TreeValid(%v) is %v", list, got)
		}
	}
}

// Trees of all sizes with a node left out, put twice, moved or changed.
func TestTreeValidOfDisturbedTrees(t *testing.T) {
	r := rand.New(rand.NewSource(5))
	paths := allPaths()
	for i := range 30000 {
		list := grownTree(r, 1+i%11)
		k, other := r.Intn(len(list)), r.Intn(len(list))
		switch r.Intn(6) {
		case 0:
			list = append(list[:k], list[k+1:]...)
		case 1:
			list = append(list, list[k])
		case 2:
			list[k], list[other] = list[other], list[k]
		case 3:
			list[k].Path = paths[r.Intn(len(paths))]
		case 4:
			list[k].Content = []impl.Content{none, dir, fileOf(0), fileOf(100), {Kind: 1, Value: 1}}[r.Intn(5)]
		}
		if got := impl.TreeValid(list); got != isTree(list) {
			t.Errorf("TreeValid(%v) is %v", list, got)
		}
	}
}

// Promise 14.
func TestGetIsTheContentOfTheNode(t *testing.T) {
	paths := allPaths()
	for _, list := range manyTrees() {
		contents := contentsOf(list)
		contents["/"] = dir
		for _, p := range paths {
			if c := impl.TreeGet(list, p); c != contents[p] {
				t.Errorf("TreeGet(%v, %q) is %v", list, p, c)
			}
		}
	}
	for _, list := range fewTrees() {
		for _, p := range notPaths {
			if c := impl.TreeGet(list, p); c != none {
				t.Errorf("TreeGet(%v, %.50q) is %v", list, p, c)
			}
		}
	}
}

// Promise 15.
func TestParentsAreDirectories(t *testing.T) {
	paths := allPaths()[1:]
	for _, list := range manyTrees() {
		for _, p := range paths {
			if impl.TreeGet(list, p) != none && impl.TreeGet(list, parentOf(p)) != dir {
				t.Errorf("%v has %q and no directory above it", list, p)
			}
		}
	}
}

func TestTreePutTable(t *testing.T) {
	rows := []struct {
		tree, path, text string
		ok               bool
		result           string
	}{
		{"", "/a", "d", true, "/a=d"}, {"", "/d", "f0", true, "/d=f0"}, {"", "/a", "-", true, ""}, {"", "/a/b", "-", true, ""},
		{"", "/a/b", "d", false, ""}, {"", "/a/b/c/d", "f1", false, ""}, {"", "/a/b/c/d", "-", true, ""},
		{"/b=d", "/a", "f1", true, "/a=f1 /b=d"}, {"/b=d", "/c", "f1", true, "/b=d /c=f1"}, {"/b=d", "/b/a", "f1", true, "/b=d /b/a=f1"},
		{"/a=d /b=f1", "/a/d", "d", true, "/a=d /a/d=d /b=f1"}, {"/a=d /a/d=d /b=f1", "/a/c", "f2", true, "/a=d /a/c=f2 /a/d=d /b=f1"},
		{"/a=d /a/b=d /a/b/c=d", "/a/b/c/d", "f1", true, "/a=d /a/b=d /a/b/c=d /a/b/c/d=f1"},

		// An empty directory becomes anything; one that is not empty stays a directory.
		{"/a=d", "/a", "f1", true, "/a=f1"}, {"/a=d", "/a", "-", true, ""}, {"/a=d", "/a", "d", true, "/a=d"},
		{"/a=d /a/b=f1", "/a", "f1", false, ""}, {"/a=d /a/b=f1", "/a", "-", false, ""}, {"/a=d /a/b=f1", "/a", "d", true, "/a=d /a/b=f1"},
		{"/a=d /a/b=d", "/a", "f1", false, ""}, {"/a=d /a/b=d", "/a", "-", false, ""}, {"/a=d /a/b=d", "/a", "d", true, "/a=d /a/b=d"},
		{"/a=d /a/b=d", "/a/b", "f1", true, "/a=d /a/b=f1"}, {"/a=d /a/b=d", "/a/b", "-", true, "/a=d"},
		{"/a=d /a/b=d /a/b/c=f1", "/a/b", "-", false, ""}, {"/a=d /a/b=d /a/b/c=f1", "/a", "-", false, ""},
		{"/a=d /a/b=d /a/b/c=f1", "/a/b", "f0", false, ""}, {"/a=d /a/b=d /a/b/c=f1", "/a/b/c", "-", true, "/a=d /a/b=d"},
		{"/a=d /b=d /b/a=f1", "/a", "-", true, "/b=d /b/a=f1"}, {"/a=d /a/b=f1 /b=d", "/b", "f1", true, "/a=d /a/b=f1 /b=f1"},

		// Files have other values, become directories, and have nothing under them.
		{"/a=f1", "/a", "f2", true, "/a=f2"}, {"/a=f1", "/a", "f1", true, "/a=f1"}, {"/a=f1", "/a", "d", true, "/a=d"}, {"/a=f1", "/a", "-", true, ""},
		{"/a=f1", "/a/b", "d", false, ""}, {"/a=f1", "/a/b", "f1", false, ""}, {"/a=f1", "/a/b", "-", true, "/a=f1"}, {"/a=f1", "/a/b/c", "-", true, "/a=f1"},
		{"/a=d", "/a/b/c", "f1", false, ""}, {"/a=d", "/b/a", "d", false, ""}, {"/a=d", "/b/a", "-", true, "/a=d"},

		// The root is no place for a content, not even for the one that it has.
		{"", "/", "d", false, ""}, {"", "/", "-", false, ""}, {"/a=d", "/", "d", false, ""}, {"/a=d", "/", "f1", false, ""}, {"/a=d", "/", "-", false, ""},
	}
	for _, r := range rows {
		list, c := treeFrom(r.tree), treeFrom("/=" + r.text)[0].Content
		got, ok := impl.TreePut(list, r.path, c)
		if ok != r.ok || !sameNodes(got, treeFrom(r.result)) {
			t.Errorf("TreePut(%v, %q, %v) is %v, %v", list, r.path, c, got, ok)
		}
	}
}

func TestPutIntoFullTrees(t *testing.T) {
	for _, line := range fullTrees {
		full := treeFrom(line)
		if len(full) != impl.NodeMax {
			t.Fatalf("%v has %d nodes", full, len(full))
		}
		for _, p := range allPaths()[1:] {
			before := impl.TreeGet(full, p)
			for _, c := range []impl.Content{dir, fileOf(0), fileOf(99)} {
				result, ok := impl.TreePut(full, p, c)
				if before == none && (ok || len(result) > 0) {
					t.Errorf("TreePut(%v, %q, %v) is %v, %v", full, p, c, result, ok)
				}
				if before.Kind == impl.KindFile && !(ok && len(result) == impl.NodeMax) {
					t.Errorf("TreePut(%v, %q, %v) is %v, %v", full, p, c, result, ok)
				}
			}
			if result, ok := impl.TreePut(full, p, none); before == none && !(ok && sameNodes(result, full)) {
				t.Errorf("TreePut of nothing in %v at %q is %v, %v", full, p, result, ok)
			}
			if result, ok := impl.TreePut(full, p, before); !ok || !sameNodes(result, full) {
				t.Errorf("TreePut(%v, %q, %v) is %v, %v", full, p, before, result, ok)
			}
		}
	}
	nine := treeFrom(fullTrees[0])[:9]
	if result, ok := impl.TreePut(nine, "/d", dir); !ok || len(result) != impl.NodeMax {
		t.Errorf("TreePut of the tenth node is %v, %v", result, ok)
	}
}

func TestPutOfInvalidArguments(t *testing.T) {
	for _, list := range fewTrees() {
		for _, p := range append([]string{"/", "/a", "/d"}, notPaths...) {
			for _, c := range append([]impl.Content{none, dir, fileOf(5)}, badContents...) {
				if isPath(p) && p != "/" && isContent(c) {
					continue
				}
				if result, ok := impl.TreePut(list, p, c); ok || len(result) > 0 {
					t.Errorf("TreePut(%v, %.50q, %v) is %v, %v", list, p, c, result, ok)
				}
			}
		}
	}
}

var putContents = []impl.Content{none, dir, fileOf(0), fileOf(7), fileOf(99)}

// Promise 16.
func TestPutChangesOneContent(t *testing.T) {
	paths := allPaths()
	for _, list := range fewTrees() {
		for _, p := range paths {
			for _, c := range putContents {
				result, ok := impl.TreePut(list, p, c)
				if !ok {
					continue
				}
				if !impl.TreeValid(result) || !isTree(result) || impl.TreeGet(result, p) != c {
					t.Errorf("TreePut(%v, %q, %v) is %v", list, p, c, result)
				}
				contents := contentsOf(list)
				contents[p] = c
				if !sameNodes(result, nodesOf(contents)) {
					t.Errorf("TreePut(%v, %q, %v) is %v", list, p, c, result)
				}
			}
		}
	}
	for _, list := range fewTrees()[6:9] {
		for _, p := range paths {
			for _, c := range []impl.Content{none, dir} {
				result, ok := impl.TreePut(list, p, c)
				for _, other := range paths {
					if ok && other != p && impl.TreeGet(result, other) != impl.TreeGet(list, other) {
						t.Errorf("TreePut(%v, %q, %v) is %v: the content of %q has changed", list, p, c, result, other)
					}
				}
			}
		}
	}
}

// Promise 17.
func TestPuttingBackLeadsBack(t *testing.T) {
	paths := allPaths()
	for _, list := range append(fewTrees(), smallTrees()...) {
		for _, p := range paths {
			before := impl.TreeGet(list, p)
			for _, c := range putContents[:3] {
				result, ok := impl.TreePut(list, p, c)
				if !ok {
					continue
				}
				if back, ok := impl.TreePut(result, p, before); !ok || !sameNodes(back, list) {
					t.Errorf("TreePut(%v, %q, %v) is %v, %v", result, p, before, back, ok)
				}
			}
		}
	}
}

// Promise 18.
func TestWhenPutSucceeds(t *testing.T) {
	paths := allPaths()[1:]
	succeeded, failed := 0, 0
	for _, list := range append(fewTrees(), smallTrees()...) {
		contents := contentsOf(list)
		contents["/"] = dir
		full := map[string]bool{}
		for _, n := range list {
			for p := parentOf(n.Path); p != "/"; p = parentOf(p) {
				full[p] = true
			}
		}
		for _, p := range paths {
			for _, c := range putContents[:3] {
				hasPlace := contents[parentOf(p)] == dir || c == none
				keepsOthers := !full[p] || c == dir
				hasRoom := len(list) < 10 || contents[p] != none || c == none
				want := hasPlace && keepsOthers && hasRoom
				result, ok := impl.TreePut(list, p, c)
				if ok != want {
					t.Errorf("TreePut(%v, %q, %v) is %v, %v", list, p, c, result, ok)
				}
				if other, fine := putOf(list, p, c); ok != fine || !sameNodes(result, other) {
					t.Errorf("TreePut(%v, %q, %v) is %v, not %v", list, p, c, result, other)
				}
				if ok {
					succeeded++
				} else {
					failed++
				}
			}
		}
	}
	if succeeded < 1000 || failed < 1000 {
		t.Errorf("%d succeeded, %d failed", succeeded, failed)
	}
}

func TestTreeUnderTable(t *testing.T) {
	tree := treeFrom("/a=d /a/a=f1 /a/b=d /a/b/a=f1 /a/c=d /b=d /b/a=d /b/a/b=d /b/a/b/d=f1 /d=f9")
	for p, want := range map[string][]string{
		"/":        {"/a", "/a/a", "/a/b", "/a/b/a", "/a/c", "/b", "/b/a", "/b/a/b", "/b/a/b/d", "/d"},
		"/a":       {"/a/a", "/a/b", "/a/b/a", "/a/c"},
		"/a/b":     {"/a/b/a"},
		"/b":       {"/b/a", "/b/a/b", "/b/a/b/d"},
		"/b/a/b":   {"/b/a/b/d"},
		"/b/a/b/d": nil, "/a/a": nil, "/a/c": nil, "/d": nil, "/c": nil, "/d/a": nil, "/c/a/b/d": nil,
		"": nil, "/a/": nil, "//": nil, "/e": nil, "a": nil, "/a/b/": nil, "/ab": nil, "/a/b/a/b/a": nil,
	} {
		if got := impl.TreeUnder(tree, p); !sameTexts(got, want) {
			t.Errorf("TreeUnder of %q is %v, not %v", p, got, want)
		}
	}
}

// Promise 19.
func TestUnderHasThePathsBelow(t *testing.T) {
	paths := allPaths()
	for _, list := range manyTrees() {
		for _, p := range paths {
			var want, known []string
			for _, n := range list {
				if isBelow(n.Path, p) {
					want = append(want, n.Path)
				}
				if impl.PathUnder(p, n.Path) {
					known = append(known, n.Path)
				}
			}
			if got := impl.TreeUnder(list, p); !sameTexts(got, want) || !sameTexts(got, known) {
				t.Errorf("TreeUnder(%v, %q) is %v", list, p, got)
			}
		}
	}
	for _, list := range fewTrees() {
		for _, p := range notPaths {
			if got := impl.TreeUnder(list, p); len(got) > 0 {
				t.Errorf("TreeUnder(%v, %.50q) is %v", list, p, got)
			}
		}
	}
}

// Promise 20.
func TestOnlyDirectoriesHaveSomethingUnderThem(t *testing.T) {
	paths := append(allPaths(), notPaths[:20]...)
	for _, list := range manyTrees() {
		found := 0
		for _, p := range paths {
			if len(impl.TreeUnder(list, p)) == 0 {
				continue
			}
			found++
			if c := impl.TreeGet(list, p); c != dir {
				t.Errorf("TreeUnder(%v, %q) is not empty, and TreeGet is %v", list, p, c)
			}
		}
		if (found > 0) != (len(list) > 0) {
			t.Errorf("%d paths of %v have something under them", found, list)
		}
	}
}

// Promise 21.
func TestTreesWithoutTheLastNodeAndWithNothing(t *testing.T) {
	for _, list := range manyTrees() {
		for k := range list {
			if !impl.TreeValid(list[:k]) {
				t.Errorf("TreeValid(%v) does not hold", list[:k])
			}
			changed := append([]impl.Node{}, list...)
			changed[k].Content = none
			if impl.TreeValid(changed) {
				t.Errorf("TreeValid(%v) holds", changed)
			}
		}
		contents := contentsOf(list)
		for _, p := range allPaths()[1:] {
			if len(list) == 10 || contents[p] != none {
				continue
			}
			contents[p] = dir
			longer := nodesOf(contents)
			for k := range longer {
				if longer[k].Path == p {
					longer[k].Content = none
				}
			}
			if impl.TreeValid(longer) {
				t.Errorf("TreeValid(%v) holds", longer)
			}
			delete(contents, p)
		}
	}
}

// Promise 22.
func TestTreesWithANodeTwice(t *testing.T) {
	for _, list := range manyTrees() {
		for k, n := range list {
			for at := range len(list) + 1 {
				twice := append(append(append([]impl.Node{}, list[:at]...), n), list[at:]...)
				if impl.TreeValid(twice) {
					t.Errorf("TreeValid(%v) holds, with node %d twice", twice, k)
				}
			}
		}
	}
}

// Calls change neither their arguments, nor what is behind them, nor each other's results.
func TestTreesShareNoMemory(t *testing.T) {
	mark := impl.Node{Path: "mark", Content: impl.Content{Kind: 77, Value: 77}}
	for _, tree := range manyTrees() {
		before := append(append([]impl.Node{}, tree...), mark, mark, mark)
		array := append([]impl.Node{}, before...)
		list := array[:len(tree)]
		for _, p := range []string{"/", "/a", "/a/b", "/b", "/d", "/d/d", "/e"} {
			impl.TreeValid(list)
			impl.TreeGet(list, p)
			first, second := impl.TreeUnder(list, p), impl.TreeUnder(list, p)
			first = first[:cap(first)]
			for i := range first {
				first[i] = "overwritten"
			}
			if third := impl.TreeUnder(tree, p); !sameTexts(second, third) {
				t.Errorf("TreeUnder(%v, %q) is %v, then %v", tree, p, second, third)
			}
			for _, c := range putContents {
				first, _ := impl.TreePut(list, p, c)
				second, _ := impl.TreePut(list, p, c)
				first = first[:cap(first)]
				for i := range first {
					first[i] = mark
				}
				if want, _ := putOf(tree, p, c); !sameNodes(second, want) {
					t.Errorf("TreePut(%v, %q, %v) is %v", tree, p, c, second)
				}
			}
			if !sameNodes(array, before) {
				t.Fatalf("%v has changed: %v", before, array)
			}
		}
	}
}
