package tests

import (
	"math/rand"
	"slices"
	"strings"

	"loop.example/filereconciler/impl"
)

// plainTreeSum is TreeSum of a path by another way: from the root of contents down.
func plainTreeSum(contents map[string]impl.Content, p string) int {
	c := contents[p]
	if p == "/" {
		c = dir
	}
	sum := 1 + 200*c.Kind + c.Value
	for number, name := range "abcd" {
		behind := strings.TrimSuffix(p, "/") + "/" + string(name)
		if contents[behind] != none {
			sum = (31*sum + 7*number + 100*plainTreeSum(contents, behind) + 3) % 9973
		}
	}
	return sum
}

// changedOf is TreeChanged of valid trees by another way: all paths there are, one by one.
func changedOf(a, b []impl.Node) []string {
	before, after := contentsOf(a), contentsOf(b)
	var paths []string
	for _, p := range allPaths() {
		if before[p] != after[p] {
			paths = append(paths, p)
		}
	}
	slices.Sort(paths)
	return paths
}

// nearPaths returns the root, the paths of a tree, and those one name deeper, which have no node for the most part.
func nearPaths(list []impl.Node) []string {
	paths := []string{"/"}
	for _, n := range append([]impl.Node{{}}, list...) {
		for _, name := range []string{"", "/a", "/b", "/c", "/d"} {
			if p := n.Path + name; isPath(p) && !slices.Contains(paths, p) {
				paths = append(paths, p)
			}
		}
	}
	return paths
}

// pairsOfTrees returns pairs of trees that are equal, near each other, and far from each other.
func pairsOfTrees() [][2][]impl.Node {
	var pairs [][2][]impl.Node
	few, small := fewTrees(), smallTrees()
	for _, a := range few {
		for _, b := range few {
			pairs = append(pairs, [2][]impl.Node{a, b})
		}
	}
	r := rand.New(rand.NewSource(10))
	for _, a := range small {
		pairs = append(pairs, [2][]impl.Node{a, slices.Clone(a)})
		for range 10 {
			pairs = append(pairs, [2][]impl.Node{a, small[r.Intn(len(small))]})
		}
	}
	for i := range 400 {
		a := grownTree(r, i%11)
		pairs = append(pairs, [2][]impl.Node{a, changedTree(r, a)})
	}
	return pairs
}

// changedTree returns a tree after a few puts at paths that are near.
func changedTree(r *rand.Rand, list []impl.Node) []impl.Node {
	for range r.Intn(6) {
		paths := nearPaths(list)
		if result, ok := putOf(list, paths[r.Intn(len(paths))], putContents[r.Intn(len(putContents))]); ok {
			list = result
		}
	}
	return list
}

// markedNodes returns a copy of nodes that has spare capacity, and the whole array behind it.
func markedNodes(list []impl.Node) ([]impl.Node, []impl.Node) {
	nodeMark := impl.Node{Path: "mark", Content: impl.Content{Kind: mark, Value: mark}}
	array := append(slices.Clone(list), nodeMark, nodeMark, nodeMark)
	return array[:len(list)], array
}
