package tests

import (
	"strings"
	"testing"

	"loop.example/filereconciler/impl"
)

// Trees with eight, nine and ten nodes, and room for more in /d/d.
const (
	eight = "/a=f1 /b=f1 /c=f1 /d=d /d/a=f1 /d/b=f1 /d/c=f1 /d/d=d"
	nine  = eight + " /d/d/a=f1"
	ten   = nine + " /d/d/b=f1"
)

const (
	fails = "fails"
	same  = "same"
)

// A tree and both logs; by what the tree of the first side, that of the second one and the common one differ from the tree; and where both sides differ.
var pairRows = []struct {
	what, tree, a, b      string
	first, second, common string
	apart                 string
}{
	{"nothing", "", "", "", "", same, same, ""},
	{"nothing is done", "/a=d /a/b=f1", "", "", "", same, same, ""},
	{"one side makes a file", "", "/a - f1", "", "/a=f1", same, same, ""},
	{"the other side makes a file", "", "", "/a - f1", "/a=f1", same, same, ""},
	{"one side removes all", "/a=d /a/b=f1", "/a/b f1 -, /a d -", "", "/a=- /a/b=-", same, same, ""},
	{"the other side removes all", "/a=d /a/b=f1", "", "/a/b f1 -, /a d -", "/a=- /a/b=-", same, same, ""},
	{"both do the same", "", "/a - f1", "/a - f1", "/a=f1", same, same, ""},
	{"both do the same of all kinds", "/a=f1 /b=d /b/a=f2", "/b/a f2 -, /b d -, /a f1 f3, /c - d", "/b/a f2 -, /b d -, /a f1 f3, /c - d", "/a=f3 /b=- /b/a=- /c=d", same, same, ""},
	{"nothing in common", "", "/a - f1", "/b - f2", "/a=f1 /b=f2", same, same, ""},
	{"nothing in common, of all kinds", "/a=d /a/a=f1 /b=f1 /c=f1 /d=d", "/a/a f1 -, /a d f4, /b f1 f2", "/d d -, /c f1 d, /c/a - f3", "/a/a=- /a=f4 /b=f2 /c=d /c/a=f3 /d=-", same, same, ""},
	{"some in common", "/a=f1", "/a f1 -, /b - d, /b/a - f1", "/a f1 -, /b - d, /b/b - f1", "/a=- /b=d /b/a=f1 /b/b=f1", same, same, ""},
	{"all of the first one in common", "", "/a - d, /b - f1", "/a - d, /a/b - f1, /b - f1, /c - d", "/a=d /a/b=f1 /b=f1 /c=d", same, same, ""},
	{"a directory in common, and what is in it is safe", "", "/a - d", "/a - d, /a/b - d, /a/b/c - f1", "/a=d /a/b=d /a/b/c=f1", same, same, ""},
	{"a directory is safe, and what is in it", "/b=f1", "/b f1 -", "/a - d, /a/b - d, /a/b/c - f1", "/a=d /a/b=d /a/b/c=f1 /b=-", same, same, ""},
	{"a file is removed in common, and its directory is safe", "/a=d /a/b=f1", "/a/b f1 -", "/a/b f1 -, /a d -", "/a=- /a/b=-", same, same, ""},
	{"one file is removed in common, and a directory becomes a file", "/a=d /a/b=f1 /a/c=f2", "/a/b f1 -", "/a/c f2 -, /a/b f1 -, /a d f3", "/a=f3 /a/b=- /a/c=-", same, same, ""},
	{"each removes another file of a directory", "/a=d /a/b=f1 /a/c=f2", "/a/b f1 -", "/a/c f2 -", "/a/b=- /a/c=-", same, same, ""},
	{"a directory ends, and nothing in it stays", "/a=d /a/b=f1 /a/c=f2", "/a/c f2 -, /a/b f1 -, /a d -", "/a/c f2 -", "/a=- /a/b=- /a/c=-", same, same, ""},

	{"two values", "/a=f1", "/a f1 f2", "/a f1 f3", "/a=f2", "/a=f3", "", "/a"},
	{"two values of a file that is made", "", "/a - f2", "/a - f3", "/a=f2", "/a=f3", "", "/a"},
	{"removed, and changed", "/a=f1", "/a f1 -", "/a f1 f3", "/a=-", "/a=f3", "", "/a"},
	{"a file, and a directory", "", "/a - f1", "/a - d", "/a=f1", "/a=d", "", "/a"},
	{"a file, and a directory with something in it", "", "/a - f1", "/a - d, /a/b - d, /a/b/c - f2", "/a=f1", "/a=d /a/b=d /a/b/c=f2", "", "/a /a/b /a/b/c"},
	{"a file in a directory that both make", "/b=f1", "/a - d, /a/b - f1", "/b f1 -, /a - d, /a/b - f2", "/b=- /a=d /a/b=f1", "/b=- /a=d /a/b=f2", "/b=- /a=d", "/a/b"},
	{"a directory ends, and something is made in it", "/a=d /a/b=d", "/a/b d -, /a d -", "/a/b/c - f1", "/a=- /a/b=-", "/a/b/c=f1", "", "/a /a/b /a/b/c"},
	{"a directory ends, and one of two files in it is changed", "/a=d /a/b=f1 /a/c=f1", "/a/c f1 -, /a/b f1 -, /a d -", "/a/b f1 f2", "/a=- /a/b=- /a/c=-", "/a/b=f2 /a/c=-", "/a/c=-", "/a /a/b"},
	{"a directory becomes a file, and a file in it is changed", "/a=d /a/b=f1", "/a/b f1 -, /a d f3", "/a/b f1 f2", "/a=f3 /a/b=-", "/a/b=f2", "", "/a /a/b"},
	{"a directory ends, one file is removed in common, and one is made", "/a=d /a/b=f1", "/a/b f1 -, /a d -", "/a/b f1 -, /a/c - f1", "/a=- /a/b=-", "/a/b=- /a/c=f1", "/a/b=-", "/a /a/c"},
	{"one conflict, and much else", "/a=f1 /b=d /c=f1", "/b d -, /a f1 f2", "/c f1 -, /a f1 f3, /d - f4", "/a=f2 /b=- /c=- /d=f4", "/a=f3 /b=- /c=- /d=f4", "/b=- /c=- /d=f4", "/a"},
	{"conflicts at several paths", "/a=f1 /b=f1 /c=f1 /d=f1", "/b f1 -, /a f1 f2, /d f1 f2", "/c f1 -, /a f1 f3, /b f1 d, /d f1 f4", "/a=f2 /b=- /c=- /d=f2", "/a=f3 /b=d /c=- /d=f4", "/c=-", "/a /b /d"},
	{"conflicts at paths under each other", "/a=d /a/b=d /a/b/c=f1", "/a/b/c f1 -, /a/b d -, /a d -", "/a/b/c f1 f2, /a/b/d - f3",
		"/a=- /a/b=- /a/b/c=-", "/a/b/c=f2 /a/b/d=f3", "", "/a /a/b /a/b/c /a/b/d"},
	{"each command in conflict", "/a=f1 /b=d /b/a=f1", "/b/a f1 -, /b d -, /a f1 f2", "/a f1 d, /b/a f1 d, /b/a/b - f1", "/a=f2 /b=- /b/a=-", "/a=d /b/a=d /b/a/b=f1", "", "/a /b /b/a /b/a/b"},
	{"each command in conflict with each one", "/a=d", "/a d f1", "/a/a - f1, /a/b - d, /a/b/c - f3", "/a=f1", "/a/a=f1 /a/b=d /a/b/c=f3", "", "/a /a/a /a/b /a/b/c"},
	{"each command in conflict with another one", "/a=f1 /b=f1 /c=f1", "/c f1 -, /a f1 f2, /b f1 d", "/b f1 -, /a f1 f3, /c f1 f4", "/a=f2 /b=d /c=-", "/a=f3 /b=- /c=f4", "", "/a /b /c"},

	{"ten, and nothing is done", ten, "", "", "", same, same, ""},
	{"ten, and both change a value", ten, "/a f1 f2", "/b f1 f2", "/a=f2 /b=f2", same, same, ""},
	{"ten, and one makes room for itself", ten, "/a f1 -, /d/d/c - f2", "", "/a=- /d/d/c=f2", same, same, ""},
	{"ten, and one makes room for the other one, which has none", ten, "/a f1 -", "/d/d/c - f2", fails, fails, fails, ""},
	{"ten, and each makes room for itself", ten, "/a f1 -, /d/d/c - f2", "/b f1 -, /d/d/d - f2", "/a=- /b=- /d/d/c=f2 /d/d/d=f2", same, same, ""},
	{"ten, and both make the same room for different nodes", ten, "/a f1 -, /d/d/c - f2", "/a f1 -, /d/d/d - f2", fails, fails, fails, ""},
	{"ten, and both make the same room for the same node", ten, "/a f1 -, /d/d/c - f2", "/a f1 -, /d/d/c - f2", "/a=- /d/d/c=f2", same, same, ""},
	{"ten, and two values", ten, "/a f1 f2", "/a f1 f3", "/a=f2", "/a=f3", "", "/a"},
	{"ten, and two nodes in the room of another one", ten, "/a f1 -, /d/d/c - f2", "/a f1 -, /d/d/c - f3", "/a=- /d/d/c=f2", "/a=- /d/d/c=f3", "/a=-", "/d/d/c"},
	{"ten, and one order only", ten, "/a f1 -, /d/d/c - f2", "/a f1 f2", "/a=- /d/d/c=f2", fails, fails, ""},
	{"ten, and the other order only", ten, "/a f1 f2", "/a f1 -, /d/d/c - f2", fails, "/a=- /d/d/c=f2", fails, ""},

	{"nine, and one makes a node", nine, "/d/d/c - f2", "", "/d/d/c=f2", same, same, ""},
	{"nine, and both make the same node", nine, "/d/d/c - f2", "/d/d/c - f2", "/d/d/c=f2", same, same, ""},
	{"nine, and each makes another node", nine, "/d/d/c - f2", "/d/d/d - f3", fails, fails, fails, ""},
	{"nine, and each makes another value of a node", nine, "/d/d/c - f2", "/d/d/c - f3", "/d/d/c=f2", "/d/d/c=f3", "", "/d/d/c"},
	{"nine, and one makes room for the other one", nine, "/a f1 -", "/d/d/c - f2", "/a=- /d/d/c=f2", same, same, ""},
	{"nine, and one makes room for itself, which the other one takes", nine, "/a f1 -, /d/d/d - f3", "/d/d/c - f2", "/a=- /d/d/c=f2 /d/d/d=f3", same, same, ""},
	{"nine, and there is room at one side only", nine, "/a f1 -, /d/d/d - f3", "/a f1 f2, /d/d/c - f2", "/a=- /d/d/c=f2 /d/d/d=f3", fails, fails, ""},
	{"nine, one order only, and a common tree", nine, "/a f1 -, /d/d/c - f2, /d/d/d - f3", "/b f1 -, /a f1 f9, /d/d/c - d, /d/d/c/a - f1", "/a=- /b=- /d/d/c=f2 /d/d/d=f3", fails, "/b=- /d/d/d=f3", ""},
	{"nine, the other order only, and a common tree", nine, "/b f1 -, /a f1 f9, /d/d/c - d, /d/d/c/a - f1", "/a f1 -, /d/d/c - f2, /d/d/d - f3", fails, "/a=- /b=- /d/d/c=f2 /d/d/d=f3", "/b=- /d/d/d=f3", ""},
	{"nine, both orders, and no common tree", nine, "/a f1 -, /b f1 f2, /d/d/c - f1", "/b f1 -, /a f1 f2, /d/d/d - f1", "/a=- /b=f2 /d/d/c=f1 /d/d/d=f1", "/a=f2 /b=- /d/d/c=f1 /d/d/d=f1", fails, "/a /b"},

	{"eight, and each makes another node", eight, "/d/d/c - f2", "/d/d/d - f3", "/d/d/c=f2 /d/d/d=f3", same, same, ""},
	{"eight, and one makes two nodes, and the other one another one", eight, "/d/d/b - f2, /d/d/c - f2", "/d/d/d - f3", fails, fails, fails, ""},
	{"eight, and one makes two nodes, and the other one one of these", eight, "/d/d/b - f2, /d/d/c - f2", "/d/d/c - f2", "/d/d/b=f2 /d/d/c=f2", same, same, ""},
	{"eight, and each makes two of three nodes", eight, "/d/d/b - f2, /d/d/c - f2", "/d/d/c - f2, /d/d/d - f3", fails, fails, fails, ""},
	{"eight, and each makes two nodes, one with two values", eight, "/d/d/b - f2, /d/d/c - f2", "/d/d/c - f3, /d/d/d - f3", fails, fails, "/d/d/b=f2 /d/d/d=f3", ""},
	{"eight, and a node has two values", eight, "/d/d/b - f2, /d/d/c - f2", "/d/d/c - f3", "/d/d/b=f2 /d/d/c=f2", "/d/d/b=f2 /d/d/c=f3", "/d/d/b=f2", "/d/d/c"},
}

func TestPairsTable(t *testing.T) {
	for _, r := range pairRows {
		p := pairingFrom(r.tree, r.a, r.b)
		if !isTree(p.tree) || !isCanon(p.a) || !isCanon(p.b) {
			t.Fatalf("%s: %v is no tree with canonical logs", r.what, p)
		}
		p.hasTree(t, r.what, impl.PairTree, r.first, r.first)
		p.turned().hasTree(t, r.what, impl.PairTree, r.second, r.first)
		p.hasTree(t, r.what, impl.PairBase, r.common, r.first)
		p.turned().hasTree(t, r.what, impl.PairBase, r.common, r.first)
		if got := impl.PairApart(p.tree, p.a, p.b); strings.Join(got, " ") != r.apart {
			t.Errorf("%s: PairApart of %v is %v", r.what, p, got)
		}
		p.check(t)
	}
}

// hasTree tells that a function returns the tree with the differences of a line, those of the first one if this is the same, or none.
func (p pairing) hasTree(t *testing.T, what string, function func(tree []impl.Node, a, b []impl.Command) ([]impl.Node, bool), line, first string) {
	t.Helper()
	if line == same {
		line = first
	}
	got, ok := function(p.tree, p.a, p.b)
	if line == fails {
		if ok || len(got) > 0 {
			t.Errorf("%s: of %v, there is %v, %v", what, p, got, ok)
		}
		return
	}
	if want := edited(p.tree, line); !ok || !sameNodes(got, want) || !impl.PairFits(p.tree, p.a, p.b) {
		t.Errorf("%s: of %v, there is %v, %v, not %v", what, p, got, ok, want)
	}
}

// Both halves of one of the trees with NodeMax nodes.
const (
	fiveB = "/b=d /b/a=f1 /b/b=d /b/b/c=d /b/b/c/d=f0"
	fiveC = "/c=d /c/a=d /c/a/a=f5 /c/b=f99 /c/d=d"
)

// Three trees: what both sides begin with, and what each of them makes of it; and the tree that both have afterwards.
var pairTreeRows = []struct {
	what, tree, x, y string
	result           string
}{
	{"LogMax commands of one side", apartTrees[2], apartTrees[0], apartTrees[2], apartTrees[0]},
	{"LogMax commands of the other side", apartTrees[2], apartTrees[2], apartTrees[1], apartTrees[1]},
	{"the same LogMax commands of both sides", apartTrees[2], apartTrees[0], apartTrees[0], apartTrees[0]},
	{"LogMax commands of each side, without room", apartTrees[2], apartTrees[0], apartTrees[1], fails},
	{"all is removed by both", apartTrees[2], "", "", ""},
	{"all is removed by one side", apartTrees[2], "", apartTrees[2], ""},
	{"all is removed by both, and LogMax commands of one side", apartTrees[2], "", apartTrees[0], apartTrees[0]},
	{"LogMax commands together, of which half are in common", apartTrees[2], fiveB, fiveC, fiveB + " " + fiveC},
	{"one more", apartTrees[2], fiveB, "/a=f1 " + fiveC, fails},
	{"one more, of another tree", apartTrees[0], fiveB + " /d=f1", fiveC, fails},
	{"five of the tree stay, and five are made", fiveB, fiveB + " " + fiveC, fiveB, fiveB + " " + fiveC},
	{"five are made by each side, of nothing", "", fiveB, fiveC, fiveB + " " + fiveC},
	{"six and five are made, of nothing", "", fiveB + " /d=f1", fiveC, fails},
	{"NodeMax are made by one side, of nothing", "", apartTrees[1], "", apartTrees[1]},
	{"NodeMax are made by both, of nothing", "", apartTrees[1], apartTrees[1], apartTrees[1]},
	{"NodeMax are made by one side, and five of these by the other one", "", apartTrees[1], fiveC, apartTrees[1]},
	{"NodeMax are made by one side, and one more by the other one", "", apartTrees[1], "/d=d", fails},
}

func TestPairTreesTable(t *testing.T) {
	for _, r := range pairTreeRows {
		p := pairingOf(treeFrom(r.tree), treeFrom(r.x), treeFrom(r.y))
		if !isTree(p.tree) || !p.fits() || strings.HasPrefix(r.what, "LogMax") && max(len(p.a), len(p.b)) < 15 {
			t.Fatalf("%s: %v does not fit", r.what, p)
		}
		for _, pair := range []pairing{p, p.turned()} {
			if !impl.PairFits(pair.tree, pair.a, pair.b) {
				t.Errorf("%s: PairFits of %v does not hold", r.what, pair)
			}
			for i, function := range []func(tree []impl.Node, a, b []impl.Command) ([]impl.Node, bool){impl.PairTree, impl.PairBase} {
				if got, ok := function(pair.tree, pair.a, pair.b); ok != (r.result != fails) || ok && !sameNodes(got, treeFrom(r.result)) || !ok && len(got) > 0 {
					t.Errorf("%s: tree %d of %v is %v, %v", r.what, i, pair, got, ok)
				}
			}
		}
		p.check(t)
	}
}

func TestPairsOfManyLogs(t *testing.T) {
	for _, p := range pairings() {
		p.check(t)
	}
}

// What is said of many pairings is right only if there are those of all kinds.
func TestPairings(t *testing.T) {
	counts, lengths := map[string]int{}, map[int]int{}
	for _, p := range pairings() {
		lengths[len(p.a)]++
		o := p.wanted()
		x, okX, y, okY, common, okBase := o.first, o.okFirst, o.second, o.okSecond, o.common, o.okCommon
		safe, agreed, left := p.parted()
		if !o.fitting {
			t.Fatalf("%v does not fit", p)
		}
		both := okX && okY
		for word, holds := range map[string]bool{
			"no conflicts, both differ":      both && len(left) == 0 && len(safe) > 0 && len(safe) < len(p.b),
			"some conflicts":                 both && len(left) > 0 && len(safe) > 0,
			"only conflicts":                 both && len(left) > 0 && len(left) == len(p.b),
			"all three":                      both && len(left) > 0 && len(safe) > 0 && len(agreed) > 0,
			"equal logs":                     both && len(agreed) > 1 && len(agreed) == len(p.b) && len(p.a) == len(p.b),
			"nothing in common":              both && len(safe) > 0 && len(safe) == len(p.b) && len(p.a) > 0,
			"ten at once":                    both && len(p.tree) < 10 && len(common) == 10,
			"ten at one side":                both && okBase && len(x) == 10 && len(common) < 10,
			"ten of ten":                     both && len(p.tree) == 10 && len(common) == 10 && len(p.a) > 1 && len(p.b) > 1 && len(safe) > 0,
			"the first one makes room":       both && len(p.tree)+len(safe) > 10 && len(x) == 10 && len(p.a) > 0,
			"no order, no common tree":       !okX && !okY && !okBase,
			"no order, a common tree":        !okX && !okY && okBase,
			"one order, no common tree":      okX && !okY && !okBase,
			"one order, a common tree":       okX && !okY && okBase,
			"the other order, a common tree": !okX && okY && okBase,
			"both orders, no common tree":    both && !okBase,
			"apart at several paths":         both && len(changedOf(x, y)) > 3,
		} {
			if holds {
				counts[word]++
			}
			counts[word] += 0
		}
	}
	for word, n := range counts {
		if n < 10 {
			t.Errorf("there are too few of one kind, %s: %v", word, counts)
		}
	}
	for n := range impl.LogMax + 1 {
		if lengths[n] < 10 {
			t.Errorf("%v: there are too few logs of %d commands", lengths, n)
		}
	}
}
