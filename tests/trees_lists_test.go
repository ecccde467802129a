package tests

import (
	"fmt"
	"math"
	"math/rand"
	"path"
	"sort"
	"strings"

	"loop.example/filereconciler/impl"
)

var (
	none = impl.Content{}
	dir  = impl.Content{Kind: impl.KindDir}
)

func fileOf(value int) impl.Content {
	return impl.Content{Kind: impl.KindFile, Value: value}
}

// treeFrom makes nodes from a line such as "/a=d /a/b=f3", with ContentParse for the contents.
func treeFrom(line string) []impl.Node {
	var list []impl.Node
	for _, word := range strings.Fields(line) {
		where, text, _ := strings.Cut(word, "=")
		c, ok := impl.ContentParse(text)
		if !ok {
			panic("no content: " + word)
		}
		list = append(list, impl.Node{Path: where, Content: c})
	}
	return list
}

func parentOf(s string) string {
	return path.Dir(s)
}

// isBelow tells without PathUnder whether a path is under another one.
func isBelow(s, above string) bool {
	for s != "/" {
		s = parentOf(s)
		if s == above {
			return true
		}
	}
	return false
}

// contentsOf returns the contents of nodes by their paths.
func contentsOf(list []impl.Node) map[string]impl.Content {
	contents := map[string]impl.Content{}
	for _, n := range list {
		contents[n.Path] = n.Content
	}
	return contents
}

// nodesOf returns the nodes of contents that are not nothing, in ascending order.
func nodesOf(contents map[string]impl.Content) []impl.Node {
	var list []impl.Node
	for p, c := range contents {
		if c.Kind != impl.KindNone {
			list = append(list, impl.Node{Path: p, Content: c})
		}
	}
	sort.Slice(list, func(i, j int) bool { return list[i].Path < list[j].Path })
	return list
}

// isTree tells without TreeValid whether nodes are a tree, from what is known of each of them alone.
func isTree(list []impl.Node) bool {
	contents := contentsOf(list)
	contents["/"] = dir
	for i, n := range list {
		if i > 0 && strings.Compare(list[i-1].Path, n.Path) >= 0 {
			return false
		}
		if !isPath(n.Path) || n.Path == "/" || !isContent(n.Content) || n.Content == none {
			return false
		}
		if contents[parentOf(n.Path)] != dir {
			return false
		}
	}
	return len(list) <= 10
}

// putOf is TreePut of a valid tree by another way: contents by paths, and isTree.
func putOf(list []impl.Node, where string, c impl.Content) ([]impl.Node, bool) {
	if !isPath(where) || where == "/" || !isContent(c) {
		return nil, false
	}
	contents := contentsOf(list)
	contents[where] = c
	result := nodesOf(contents)
	if !isTree(result) {
		return nil, false
	}
	return result, true
}

func sameNodes(a, b []impl.Node) bool {
	if len(a) != len(b) {
		return false
	}
	for i := range a {
		if a[i] != b[i] {
			return false
		}
	}
	return true
}

func sameTexts(a, b []string) bool {
	if len(a) != len(b) {
		return false
	}
	for i := range a {
		if a[i] != b[i] {
			return false
		}
	}
	return true
}

// smallTrees returns all trees of directories and equal files at a few paths that are near each other.
func smallTrees() [][]impl.Node {
	paths := []string{"/a", "/a/b", "/a/b/a", "/a/b/a/d", "/b", "/b/b", "/d"}
	lists := [][]impl.Node{nil}
	for _, p := range paths {
		for _, list := range lists {
			for _, c := range []impl.Content{dir, fileOf(7)} {
				longer := append(append([]impl.Node{}, list...), impl.Node{Path: p, Content: c})
				if isTree(longer) {
					lists = append(lists, longer)
				}
			}
		}
	}
	return lists
}

// grownTree returns a tree of up to n nodes at any places.
func grownTree(r *rand.Rand, n int) []impl.Node {
	contents := map[string]impl.Content{}
	dirs := []string{""}
	for range 5 * n {
		if len(contents) == n {
			break
		}
		p := dirs[r.Intn(len(dirs))] + "/" + string("abcd"[r.Intn(4)])
		if contents[p] != none || len(p) > 8 {
			continue
		}
		contents[p] = fileOf(r.Intn(100))
		if r.Intn(5) > 1 {
			contents[p] = dir
			dirs = append(dirs, p)
		}
	}
	return nodesOf(contents)
}

var fullTrees = []string{
	"/a=d /a/a=d /a/b=d /a/c=d /a/d=d /b=d /b/a=d /b/b=d /b/c=d /b/d=d",
	"/a=d /a/a=f0 /a/b=f1 /a/c=f2 /a/d=f99 /b=d /b/a=f3 /b/b=f4 /c=f5 /d=f6",
	"/a=d /a/a=d /a/a/a=d /a/a/a/a=f1 /a/a/a/b=d /d=d /d/d=d /d/d/d=d /d/d/d/c=d /d/d/d/d=f9",
	"/a=d /b=d /c=d /c/a=d /c/a/a=d /c/b=d /c/d=d /d=d /d/a=d /d/a/a=f50",
}

// manyTrees returns trees: those of smallTrees, full ones, and grown ones of all sizes.
func manyTrees() [][]impl.Node {
	lists := smallTrees()
	for _, line := range fullTrees {
		lists = append(lists, treeFrom(line))
	}
	r := rand.New(rand.NewSource(3))
	for i := range 150 {
		lists = append(lists, grownTree(r, i%11))
	}
	return lists
}

// fewTrees returns trees of all sizes, as few as can be held against each path.
func fewTrees() [][]impl.Node {
	lists := [][]impl.Node{nil, {}, treeFrom("/a=d"), treeFrom("/a=f1"), treeFrom("/b=d /b/a=d /b/a/a=f0")}
	for _, line := range fullTrees {
		lists = append(lists, treeFrom(line))
	}
	r := rand.New(rand.NewSource(4))
	for i := range 16 {
		lists = append(lists, grownTree(r, 10-i%11))
	}
	return lists
}

var badContents = []impl.Content{
	{Kind: impl.KindFile, Value: -1}, {Kind: impl.KindFile, Value: 100}, {Kind: impl.KindFile, Value: math.MinInt},
	{Kind: impl.KindFile, Value: math.MaxInt}, {Kind: impl.KindDir, Value: 1}, {Kind: impl.KindDir, Value: -1},
	{Kind: impl.KindNone, Value: 1}, {Kind: impl.KindNone, Value: -1}, {Kind: 3}, {Kind: -1}, {Kind: math.MinInt}, {Kind: math.MaxInt, Value: 5},
}

// notTrees returns lists of nodes that are no trees, by what is wrong with them.
func notTrees() map[string][]impl.Node {
	eleven := append(treeFrom(fullTrees[1]), treeFrom("/d/a=f1")...)
	eleven[9].Content = dir
	lists := map[string][]impl.Node{
		"out of order":                  treeFrom("/b=d /a=d"),
		"out of order at the end":       treeFrom("/a=d /a/b=f1 /a/a=f1"),
		"a node ahead of its parent":    treeFrom("/a/b=f1 /a=d"),
		"a node behind its parent's":    treeFrom("/a=d /b=d /a/b=f1"),
		"a path twice":                  treeFrom("/a=d /a=d"),
		"a path with two contents":      treeFrom("/a=d /a=f1"),
		"a path twice at the end":       treeFrom("/a=d /a/b=f1 /a/b=f1"),
		"a path twice apart":            treeFrom("/a=d /b=d /a=d"),
		"the root alone":                treeFrom("/=d"),
		"the root first":                treeFrom("/=d /a=d"),
		"the root last":                 treeFrom("/a=d /=d"),
		"the root as a file":            treeFrom("/=f1"),
		"nothing at a path":             treeFrom("/a=-"),
		"nothing at the root":           treeFrom("/=-"),
		"nothing at the end":            treeFrom("/a=d /a/b=f1 /c=-"),
		"nothing between":               treeFrom("/a=d /b=- /c=f1"),
		"a path behind nothing":         treeFrom("/a=- /a/b=f1"),
		"no parent":                     treeFrom("/a/b=f1"),
		"no parent at the end":          treeFrom("/a=d /b/a=f1"),
		"no parent, its own one":        treeFrom("/a=d /a/b/c=f1"),
		"no parent, another one's":      treeFrom("/a=d /a/b=d /a/c/a=d"),
		"no parent of the longest path": treeFrom("/a=d /a/b=d /a/b/c/d=d"),
		"a parent that is a file":       treeFrom("/a=f1 /a/b=f1"),
		"a parent that is a file, down": treeFrom("/a=d /a/b=f0 /a/b/c=d"),
		"a path that goes on":           treeFrom("/a=d /a/b=d /a/b/c=d /a/b/c/d=d /a/b/c/d/a=d"),
		"eleven nodes":                  eleven,
		"too many nodes":                make([]impl.Node, 100000),
	}
	for _, p := range notPaths {
		lists["the path "+p] = []impl.Node{{Path: p, Content: dir}}
		lists["the last path "+p] = append(treeFrom("/a=d /a/b=d"), impl.Node{Path: p, Content: dir})
		lists["the path under a directory "+p] = append(treeFrom("/a=d"), impl.Node{Path: "/a" + p + "/", Content: dir})
	}
	for _, c := range badContents {
		name := fmt.Sprint(c)
		lists["the content "+name] = []impl.Node{{Path: "/a", Content: c}}
		lists["the last content "+name] = append(treeFrom("/a=d"), impl.Node{Path: "/a/a", Content: c})
		lists["the content of a parent "+name] = []impl.Node{{Path: "/a", Content: c}, {Path: "/a/b", Content: dir}}
	}
	return lists
}
