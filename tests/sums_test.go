package tests

import (
	"slices"
	"testing"

	"loop.example/filereconciler/impl"
)

// The sums here are worked out by hand.
func TestTreeSumTable(t *testing.T) {
	deepDirs := "/a=d /a/a=d /a/a/a=d /a/a/a/a=d"
	lastDirs := "/d=d /d/d=d /d/d/d=d /d/d/d/d=d"
	lastFile := "/d=d /d/d=d /d/d/d=d /d/d/d/d=f99"
	rows := []struct {
		tree, path string
		sum        int
	}{
		// Paths without a node, and contents with nothing behind them.
		{"", "/", 201}, {"", "/a", 1}, {"", "/d/c/b/a", 1},
		{"/a=f0", "/a", 401}, {"/a=f1", "/a", 402}, {"/d=f99", "/d", 500}, {"/a=d", "/a", 201}, {"/a=d /a/b=f7", "/a/b", 408},
		{"/a=f5", "/b", 1}, {"/a=f5", "/a/a", 1}, {"/a=f5", "/a/a/b/c", 1}, {"/a=d", "/a/d", 1}, {"/a=d", "/b/a", 1},
		{"/a=d /a/b=f7", "/a/b/c", 1}, {"/a=d /a/b=f7", "/a/a", 1}, {"/a=d /a/b=f7", "/a/c/d", 1},

		// A directory with one name, and with all of them.
		{"/a=f0", "/", 6442}, {"/b=f0", "/", 6449}, {"/c=f0", "/", 6456}, {"/d=f0", "/", 6463}, {"/a=f99", "/", 6369},
		{"/a=d", "/", 6388}, {"/b=d", "/", 6395}, {"/c=d", "/", 6402}, {"/d=d", "/", 6409},
		{"/c=d /c/a=f0", "/c", 6442}, {"/c=d /c/b=f0", "/c", 6449}, {"/c=d /c/c=f0", "/c", 6456}, {"/c=d /c/d=f0", "/c", 6463},
		{"/a=f0 /b=f0", "/", 460}, {"/a=f0 /b=f0 /c=f0", "/", 4512}, {"/a=f0 /b=f0 /c=f0 /d=f0", "/", 482},
		{"/b=d /b/a=f0 /b/b=f0 /b/c=f0 /b/d=f0", "/b", 482}, {"/b=d /b/a=f0 /b/b=f0 /b/c=f0 /b/d=f0", "/b/d", 401},

		// Two names exchanged.
		{"/a=f1 /b=f2", "/", 3760}, {"/a=f2 /b=f1", "/", 6760},

		// Directories of the greatest depth.
		{deepDirs, "/a/a/a/a", 201}, {deepDirs, "/a/a/a", 6388}, {deepDirs, "/a/a", 6762}, {deepDirs, "/a", 4270}, {deepDirs, "/", 4395},
		{deepDirs, "/a/a/a/b", 1}, {deepDirs, "/a/a/b", 1}, {deepDirs, "/b/a/a/a", 1},
		{lastDirs, "/d/d/d/d", 201}, {lastDirs, "/d/d/d", 6409}, {lastDirs, "/d/d", 8883}, {lastDirs, "/d", 6958}, {lastDirs, "/", 3945},
		{lastFile, "/d/d/d/d", 500}, {lastFile, "/d/d/d", 6390}, {lastFile, "/d/d", 6983}, {lastFile, "/d", 6445}, {lastFile, "/", 2510},
	}
	for _, r := range rows {
		list := treeFrom(r.tree)
		if got := impl.TreeSum(list, r.path); got != r.sum {
			t.Errorf("TreeSum(%v, %q) is %d, not %d", list, r.path, got, r.sum)
		}
		if got := plainTreeSum(contentsOf(list), r.path); got != r.sum {
			t.Errorf("plainTreeSum(%v, %q) is %d, not %d", list, r.path, got, r.sum)
		}
	}
}

func TestTreeSumOfAllPaths(t *testing.T) {
	for _, list := range manyTrees() {
		contents := contentsOf(list)
		for _, p := range allPaths() {
			if got := impl.TreeSum(list, p); got != plainTreeSum(contents, p) {
				t.Errorf("TreeSum(%v, %q) is %d, not %d", list, p, got, plainTreeSum(contents, p))
			}
			if got := impl.TreeSum(list, p); p != "/" && contents[p] == none && got != 1 {
				t.Errorf("TreeSum(%v, %q) is %d without a node", list, p, got)
			}
		}
	}
}

// Another name, or two names exchanged, are told by the sums in all of these.
func TestSumsOfOtherNames(t *testing.T) {
	sums := map[int]string{}
	for _, line := range []string{
		"", "/a=f3", "/b=f3", "/c=f3", "/d=f3", "/a=d", "/b=d", "/c=d", "/d=d",
		"/a=d /a/a=f3", "/a=d /a/b=f3", "/a=d /a/c=f3", "/a=d /a/d=f3", "/b=d /b/a=f3", "/b=d /b/b=f3",
		"/a=f3 /b=d", "/a=d /b=f3", "/a=f3 /c=d", "/a=d /c=f3", "/b=f3 /d=d", "/b=d /d=f3",
		"/a=f1 /b=f2 /c=f3", "/a=f2 /b=f1 /c=f3", "/a=f3 /b=f2 /c=f1", "/a=f1 /b=f3 /c=f2",
	} {
		sum := impl.TreeSum(treeFrom(line), "/")
		if other, ok := sums[sum]; ok {
			t.Errorf("%d is the sum of %q and of %q", sum, line, other)
		}
		sums[sum] = line
	}
}

func TestSumsOfInvalidTrees(t *testing.T) {
	trees := fewTrees()
	for what, list := range notTrees() {
		for _, p := range append([]string{"/", "/a", "/b", "/a/b", "/d", "/d/d/d/d"}, notPaths[:20]...) {
			if got := impl.TreeSum(list, p); got != -1 {
				t.Errorf("%.60q: TreeSum of %q is %d", what, p, got)
			}
		}
		if got := impl.TreeSums(list); len(got) > 0 {
			t.Errorf("%.60q: TreeSums is %v", what, got)
		}
		for _, other := range append([][]impl.Node{list, treeFrom("/a=d /b=d /a=d")}, trees...) {
			if got := impl.TreeChanged(list, other); len(got) > 0 {
				t.Errorf("%.60q: TreeChanged of it and %.100s is %v", what, shown(other), got)
			}
			if got := impl.TreeChanged(other, list); len(got) > 0 {
				t.Errorf("%.60q: TreeChanged of %.100s and it is %v", what, shown(other), got)
			}
		}
	}
}

func TestSumsOfInvalidPaths(t *testing.T) {
	for _, list := range fewTrees() {
		for _, p := range notPaths {
			if got := impl.TreeSum(list, p); got != -1 {
				t.Errorf("TreeSum(%v, %.50q) is %d", list, p, got)
			}
		}
	}
	for _, s := range manyTexts() {
		if got := impl.TreeSum(treeFrom("/a=d /a/d=f1"), s); (got != -1) != isPath(s) {
			t.Errorf("TreeSum of %.50q is %d", s, got)
		}
	}
}

// putsAt checks promise 31 for all contents at one path of a tree.
func putsAt(t *testing.T, list []impl.Node, where string) int {
	succeeded := 0
	for _, c := range putContents {
		result, ok := impl.TreePut(list, where, c)
		if !ok {
			continue
		}
		succeeded++
		for _, p := range nearPaths(list) {
			before, after := impl.TreeSum(list, p), impl.TreeSum(result, p)
			if before < 0 || before > 9972 || after < 0 || after > 9972 {
				t.Errorf("TreeSum(%v, %q) is %d, then %d", list, p, before, after)
			}
			if p != where && !isBelow(where, p) && before != after {
				t.Errorf("TreeSum(%v, %q) is %d, then %d with %v at %q", list, p, before, after, c, where)
			}
		}
	}
	return succeeded
}

// Promise 31.
func TestSumsStayAfterPutsElsewhere(t *testing.T) {
	succeeded := 0
	for _, list := range append(fewTrees(), smallTrees()[:60]...) {
		for _, where := range nearPaths(list) {
			succeeded += putsAt(t, list, where)
		}
	}
	if succeeded < 1000 {
		t.Errorf("%d puts succeeded", succeeded)
	}
	for _, list := range manyTrees() {
		for _, p := range nearPaths(list) {
			if sum := impl.TreeSum(list, p); sum < 0 || sum > 9972 {
				t.Errorf("TreeSum(%v, %q) is %d", list, p, sum)
			}
		}
	}
}

// Promise 32.
func TestSumsOfFilesTellTheValue(t *testing.T) {
	for _, list := range manyTrees() {
		for k, n := range list {
			if n.Content.Kind != impl.KindFile {
				continue
			}
			values := map[int]int{}
			for value := range impl.ValueMax + 1 {
				other := slices.Clone(list)
				other[k].Content.Value = value
				values[impl.TreeSum(other, n.Path)]++
			}
			if len(values) != impl.ValueMax+1 || values[-1] > 0 {
				t.Errorf("%v has %d sums at %q", list, len(values), n.Path)
			}
		}
	}
}

// Promise 33.
func TestSumsOfTheNodesInOrder(t *testing.T) {
	lengths := map[int]bool{}
	for _, list := range manyTrees() {
		sums := impl.TreeSums(list)
		if len(sums) != len(list) {
			t.Fatalf("TreeSums(%v) is %v", list, sums)
		}
		for k, n := range list {
			if want := impl.TreeSum(list, n.Path); sums[k] != want || want != plainTreeSum(contentsOf(list), n.Path) {
				t.Errorf("TreeSums(%v) is %v, and TreeSum of %q is %d", list, sums, n.Path, want)
			}
		}
		lengths[len(list)] = true
	}
	for n := range impl.NodeMax + 1 {
		if !lengths[n] {
			t.Errorf("no tree has %d nodes", n)
		}
	}
}

func TestTreeChangedTable(t *testing.T) {
	rows := []struct {
		a, b string
		want []string
	}{
		{"", "", nil}, {"/a=d", "/a=d", nil}, {fullTrees[1], fullTrees[1], nil},
		{"", "/a=d", []string{"/a"}}, {"/a=f1", "/a=d", []string{"/a"}}, {"/a=f0", "/a=f1", []string{"/a"}},
		{"/a=d /d=f1", "/b=f2 /c=d", []string{"/a", "/b", "/c", "/d"}},
		{"/b=d /b/a=f1", "/a=d /a/b=f1", []string{"/a", "/a/b", "/b", "/b/a"}},
		{"/a=d /b=f1", "/a=f1 /b=f1", []string{"/a"}}, {"/a=d /b=f1", "/a=d /b=f2", []string{"/b"}},
		{"/a=d /b=d /c=d", "/a=d /c=d", []string{"/b"}}, {"/a=d /b=d", "/a=d /b=d /c=d", []string{"/c"}},
		{"/b=d /c=d", "/a=f9 /b=d /c=d", []string{"/a"}}, {"/a=d /a/b=f1", "/a=d", []string{"/a/b"}},
		{"/a=d /a/d=f1 /c=d", "/a=d /a/c=f1 /b=d", []string{"/a/c", "/a/d", "/b", "/c"}},
		{"/a=d /a/a=d /a/a/a=d /a/a/a/a=f1", "/a=f1", []string{"/a", "/a/a", "/a/a/a", "/a/a/a/a"}},
		{"/d=d /d/d=d /d/d/d=d /d/d/d/d=f1", "/d=d /d/d=d /d/d/d=d /d/d/d/d=f2", []string{"/d/d/d/d"}},
		{fullTrees[2], fullTrees[3], []string{"/a/a", "/a/a/a", "/a/a/a/a", "/a/a/a/b", "/b", "/c", "/c/a", "/c/a/a", "/c/b", "/c/d",
			"/d/a", "/d/a/a", "/d/d", "/d/d/d", "/d/d/d/c", "/d/d/d/d"}},
	}
	for _, r := range rows {
		a, b := treeFrom(r.a), treeFrom(r.b)
		if got := impl.TreeChanged(a, b); !slices.Equal(got, r.want) {
			t.Errorf("TreeChanged(%v, %v) is %v", a, b, got)
		}
		if got := impl.TreeChanged(b, a); !slices.Equal(got, r.want) {
			t.Errorf("TreeChanged(%v, %v) is %v", b, a, got)
		}
	}
}

// Promise 34.
func TestChangedHasThePathsThatDiffer(t *testing.T) {
	for _, pair := range pairsOfTrees() {
		got := impl.TreeChanged(pair[0], pair[1])
		if !slices.Equal(got, changedOf(pair[0], pair[1])) {
			t.Errorf("TreeChanged(%v, %v) is %v", pair[0], pair[1], got)
		}
		for _, p := range append(nearPaths(pair[0]), nearPaths(pair[1])...) {
			differ := impl.TreeGet(pair[0], p) != impl.TreeGet(pair[1], p)
			if slices.Contains(got, p) != differ {
				t.Errorf("TreeChanged(%v, %v) is %v, and %q differs: %v", pair[0], pair[1], got, p, differ)
			}
		}
	}
}

// Promise 35.
func TestChangedIsEmptyForEqualTrees(t *testing.T) {
	equal := 0
	for _, pair := range pairsOfTrees() {
		got, back := impl.TreeChanged(pair[0], pair[1]), impl.TreeChanged(pair[1], pair[0])
		same := sameNodes(pair[0], pair[1])
		if (len(got) == 0) != same || !slices.Equal(got, back) {
			t.Errorf("TreeChanged(%v, %v) is %v, and for both exchanged %v", pair[0], pair[1], got, back)
		}
		if !same {
			continue
		}
		equal++
		for _, p := range nearPaths(pair[0]) {
			if impl.TreeSum(pair[0], p) != impl.TreeSum(pair[1], p) {
				t.Errorf("TreeSum(%v, %q) is not what it is for the same tree", pair[0], p)
			}
		}
	}
	if equal < 100 {
		t.Errorf("%d pairs are equal", equal)
	}
}

// Promise 36.
func TestChangedAfterAPut(t *testing.T) {
	for _, list := range fewTrees() {
		for _, p := range allPaths() {
			for _, c := range putContents {
				result, ok := impl.TreePut(list, p, c)
				if !ok {
					continue
				}
				var want []string
				if impl.TreeGet(list, p) != c {
					want = []string{p}
				}
				if got := impl.TreeChanged(list, result); !slices.Equal(got, want) {
					t.Errorf("TreeChanged(%v, %v) is %v, after a put at %q", list, result, got, p)
				}
			}
		}
	}
}

// Calls change neither trees, nor what is behind them, nor each other's results.
func TestSumsShareNoMemory(t *testing.T) {
	for _, pair := range pairsOfTrees() {
		a, arrayA := markedNodes(pair[0])
		b, arrayB := markedNodes(pair[1])
		beforeA, beforeB := slices.Clone(arrayA), slices.Clone(arrayB)
		for _, p := range []string{"/", "/a", "/d/d", "/e"} {
			impl.TreeSum(a, p)
		}
		sums, others := impl.TreeSums(a), impl.TreeSums(a)
		overwrite(sums)
		if !slices.Equal(others, impl.TreeSums(pair[0])) {
			t.Errorf("TreeSums(%v) is %v", pair[0], others)
		}
		first, second := impl.TreeChanged(a, b), impl.TreeChanged(a, b)
		first = first[:cap(first)]
		for i := range first {
			first[i] = "overwritten"
		}
		if !slices.Equal(second, changedOf(pair[0], pair[1])) {
			t.Errorf("TreeChanged(%v, %v) is %v", pair[0], pair[1], second)
		}
		if !slices.Equal(arrayA, beforeA) || !slices.Equal(arrayB, beforeB) {
			t.Fatalf("%v and %v have changed: %v and %v", beforeA, beforeB, arrayA, arrayB)
		}
	}
}
