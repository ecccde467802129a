package tests

import (
	"fmt"
	"slices"
	"strings"
	"sync"

	"loop.example/filereconciler/impl"
)

const names = "abcd"

// makesFrom returns the commands that make a node and what is behind it elsewhere: its own one, then those of each name.
func makesFrom(contents map[string]impl.Content, from, to string) []impl.Command {
	if contents[from] == none {
		return nil
	}
	list := []impl.Command{{Path: to, From: none, To: contents[from]}}
	for _, name := range names {
		behind := "/" + string(name)
		list = append(list, makesFrom(contents, from+behind, to+behind)...)
	}
	return list
}

// removeOf is RemoveAll of a valid tree by another way: each name from the last one on, and then the node itself.
func removeOf(tree []impl.Node, p string) []impl.Command {
	contents := contentsOf(tree)
	if contents[p] == none {
		return nil
	}
	var list []impl.Command
	for i := range names {
		list = append(list, removeOf(tree, p+"/"+names[3-i:4-i])...)
	}
	return append(list, impl.Command{Path: p, From: contents[p], To: none})
}

// copyOf is CopyAll of a valid tree by another way: the contents that there would be, and isTree. There are none if it fails.
func copyOf(tree []impl.Node, from, to string) []impl.Command {
	contents := contentsOf(tree)
	if !isPath(to) || contents[to] != none || isBelow(to, from) {
		return nil
	}
	list := makesFrom(contents, from, to)
	for _, c := range list {
		contents[c.Path] = c.To
	}
	if !isTree(nodesOf(contents)) {
		return nil
	}
	return list
}

// moveOf is MoveAll of a valid tree by another way.
func moveOf(tree []impl.Node, from, to string) []impl.Command {
	list := copyOf(tree, from, to)
	if list == nil {
		return nil
	}
	return append(list, removeOf(tree, from)...)
}

// renamedTree returns the nodes of a tree with another path in place of one, at the beginning of each path that is this one or under it.
func renamedTree(tree []impl.Node, from, to string) []impl.Node {
	contents := map[string]impl.Content{}
	for _, n := range tree {
		if n.Path == from || isBelow(n.Path, from) {
			n.Path = to + n.Path[len(from):]
		}
		contents[n.Path] = n.Content
	}
	return nodesOf(contents)
}

// without returns the nodes of a tree that are neither at a path nor under it.
func without(tree []impl.Node, p string) []impl.Node {
	return slices.DeleteFunc(slices.Clone(tree), func(n impl.Node) bool {
		return n.Path == p || isBelow(n.Path, p)
	})
}

// moved is a tree, and two paths of it.
type moved struct {
	tree     []impl.Node
	from, to string
}

func (m moved) String() string {
	return fmt.Sprintf("%.50q to %.50q in %s", m.from, m.to, shown(m.tree))
}

// after returns the tree after commands, which fit it by the other way.
func (m moved) after(log []impl.Command) ([]impl.Node, bool) {
	result, done := logApplyOf(m.tree, log)
	return result, done == len(log)
}

// The trees for moves: one name up to the largest depth, all in one directory, room for one node, two or five, and none.
var moveTrees = []string{
	"/a=d /a/a=d /a/a/a=d /a/a/a/a=d",
	"/d=d /d/d=d /d/d/d=d /d/d/d/d=f99",
	"/b=d /b/b=d /b/b/b=d /c=d /c/b=d",
	"/a=d /a/a=f1 /a/b=f2 /a/c=f3 /a/d=f4",
	"/a=d /a/a=f1 /a/b=f2 /a/c=f3 /a/d=f4 /b=d",
	"/a=d /a/b=d /a/b/a=f1 /b=d /b/a=f1 /b/b=d /b/b/a=f2 /c=f0",
	"/a=d /a/b=f1 /b=d /b/a=d /b/a/c=f3 /c=d /c/c=d /c/c/c=f3 /d=f9",
	"/d=d /d/a=d /d/a/a=d /d/a/a/a=f1 /d/b=d /d/b/b=f2 /d/c=d /d/c/c=f3 /d/d=d",
	"/c=d /c/a=d /c/a/a=f1 /c/a/b=f2 /c/b=d /c/b/a=f3 /c/b/b=f4 /c/c=d /c/c/d=f5 /c/d=d",
}

// treesForMoves returns small trees, those above, full ones and grown ones.
func treesForMoves() [][]impl.Node {
	lists := slices.Concat(smallTrees(), fewTrees())
	for _, line := range append(moveTrees, full, fullBehind) {
		lists = append(lists, treeFrom(line))
	}
	return lists
}

// Pairs are many, so they are made once, and no test may change them.
var (
	pairsForMoves = sync.OnceValue(makePairsForMoves)
	pairsThatCopy = sync.OnceValue(findPairsThatCopy)
)

// makePairsForMoves returns each two paths that are near a tree.
func makePairsForMoves() []moved {
	var list []moved
	for _, tree := range treesForMoves() {
		paths := nearPaths(tree)
		for _, from := range paths {
			for _, to := range paths {
				list = append(list, moved{tree, from, to})
			}
		}
	}
	return list
}

// findPairsThatCopy returns the pairs of which the first path can be copied to the second one.
func findPairsThatCopy() []moved {
	return slices.DeleteFunc(slices.Clone(pairsForMoves()), func(m moved) bool {
		return copyOf(m.tree, m.from, m.to) == nil
	})
}

// behindPath returns what is behind a path, at the end of another one, and whether this one is the path or under it.
func behindPath(p, above string) (string, bool) {
	if p == above {
		return "", true
	}
	behind, ok := strings.CutPrefix(p, above+"/")
	return "/" + behind, ok
}
