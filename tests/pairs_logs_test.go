package tests

import (
	"math"
	"runtime"
	"slices"
	"sync"
	"testing"

	"loop.example/filereconciler/impl"
)

// Promise 88: a canonical log that breaks at the first, a middle or the last command, as the first log, the second one, and both.
func TestPairsOfLogsThatBreak(t *testing.T) {
	counts := map[string]int{}
	for i, p := range pairings() {
		if i%40 > 0 {
			continue
		}
		for k := range len(p.a) + 1 {
			for n, broken := range brokenAt(p.tree, p.a, k) {
				switch {
				case k == len(broken)-1:
					counts["last"]++
				case k == 0:
					counts["first"]++
				default:
					counts["between"]++
				}
				if n%5 == 0 {
					pairing{p.tree, facing{broken, p.b}}.hasNoPair(t)
				}
				if n%20 == 0 {
					pairing{p.tree, facing{broken, nil}}.hasNoPair(t)
					pairing{p.tree, facing{broken, p.a}}.hasNoPair(t)
					pairing{p.tree, facing{broken, broken}}.hasNoPair(t)
				}
			}
		}
	}
	for _, word := range []string{"first", "between", "last"} {
		if counts[word] < 300 {
			t.Errorf("there are too few of one kind: %v", counts)
		}
	}
}

var unfitRows = []struct {
	what, tree, a, b string
}{
	{"another value", "/a=f1", "/a f2 f3", "/b - f1"},
	{"another value, and the same To", "/a=f1", "/a f2 f3", "/a f1 f3"},
	{"no node", "", "/a f1 -", ""},
	{"a node that is there", "/a=f1", "/a - f1", ""},
	{"a node that the other side makes", "", "/a f1 f2", "/a - f1"},
	{"no parent", "", "/a/b - f1", ""},
	{"a parent that the other side makes", "", "/a/b - f1", "/a - d"},
	{"a parent that is a file", "/a=f1", "/a/b - f1", "/b - f1"},
	{"a parent that the other side makes of a file", "/a=f1", "/a/b - f1", "/a f1 d"},
	{"a directory that is not empty", "/a=d /a/b=f1", "/a d -", "/b - f1"},
	{"a directory that the other side empties", "/a=d /a/b=f1", "/a d -", "/a/b f1 -"},
	{"a directory that becomes a file, and is not empty", "/a=d /a/b=f1", "/a d f1", "/a/b f1 -"},
	{"no room", ten, "/d/d/c - f1", ""},
	{"room that the other side makes", ten, "/d/d/c - f1", "/a f1 -"},
	{"room for one of two", nine, "/d/d/c - f1, /d/d/d - f1", "/a f1 -"},
	{"what is in conflict", "/a=f1", "/a f2 f3", "/a f1 f4"},
	{"both", "/a=f1", "/a f2 f3", "/b f2 f3"},
	{"both the same", "/a=f1", "/a f2 f3", "/a f2 f3"},
	{"the first one of three", "/b=f1", "/a f1 -, /b f1 f2, /c - f1", "/b f1 f2"},
	{"the middle one of three", "/b=f1", "/b f1 -, /a f1 f2, /c - f1", "/b f1 f2"},
	{"the last one of three", "/b=f1", "/b f1 -, /a - f2, /c f2 f1", "/b f1 f2"},
	{"out of order", "", "/b - f1, /a - f1", "/c - f1"},
	{"what ends something behind what does not", "/b=f1", "/a - f1, /b f1 -", ""},
	{"a path twice", "", "/a - f1, /a f1 f2", "/c - f1"},
	{"a path twice, and nothing in the end", "", "/a - f1, /a f1 -", ""},
	{"files ahead of their directory, which would fit", "/a=d /a/b=f1 /a/c=f1", "/a/b f1 -, /a/c f1 -, /a d -", ""},
}

func TestPairsTableOfLogsThatDoNotFit(t *testing.T) {
	for _, r := range unfitRows {
		p := pairingFrom(r.tree, r.a, r.b)
		if !isTree(p.tree) || p.fits() || !isLog(p.a) || !isLog(p.b) {
			t.Fatalf("%s: %v fits, or is no tree with logs", r.what, p)
		}
		p.hasNoPair(t)
		pairing{p.tree, facing{p.a, p.a}}.hasNoPair(t)
		pairing{p.tree, facing{p.a, nil}}.hasNoPair(t)
	}
}

// Promise 88: logs that fit the tree, and are not canonical.
func TestPairsOfLogsThatAreNotCanonical(t *testing.T) {
	n := 0
	for i, l := range logsThatFit() {
		if i%6 > 0 || isCanon(l.log) {
			continue
		}
		canon, ok := canonOf(l.log)
		if _, done := logApplyOf(l.tree, canon); !ok || done < len(canon) {
			t.Fatalf("the canonical log of %v is %q", l, lineOf(canon))
		}
		for _, f := range []facing{{l.log, nil}, {l.log, canon}, {l.log, l.log}} {
			pairing{l.tree, f}.hasNoPair(t)
		}
		n++
	}
	if n < 500 {
		t.Errorf("only %d logs are not canonical", n)
	}
	for i, bad := range notCanonical() {
		tree := [][]impl.Node{nil, treeFrom("/a=d"), treeFrom("/a=f1 /b=f1"), treeFrom("/a=d /a/b=f1 /b=f1")}[i%4]
		pairing{tree, facing{bad, nil}}.hasNoPair(t)
		pairing{tree, facing{bad, bad}}.hasNoPair(t)
		if tree != nil {
			pairing{tree, facing{bad, diffOf(tree, nil)}}.hasNoPair(t)
		}
	}
}

// Trees that are none, and logs that would do with them.
func TestPairsOfTreesThatAreNone(t *testing.T) {
	logs := []facing{{nil, nil}, {[]impl.Command{}, nil}, {logFrom("/c - f1"), nil}, {logFrom("/c - f1"), logFrom("/c - f1")}, {logFrom("/c - f1"), logFrom("/c - f2")},
		{logFrom("/a d -"), nil}, {logFrom("/a d -"), logFrom("/a/c - f1")}, {logFrom("/a d f1"), logFrom("/b - f1, /d - d")}, {sameAt(pathsUnder("/c", 20), "-", "d"), nil}}
	for what, bad := range notTrees() {
		if isTree(bad) {
			t.Fatalf("%.60q: %s is a tree", what, shown(bad))
		}
		for _, f := range logs {
			pairing{bad, f}.hasNoPair(t)
		}
	}
	for _, line := range []string{"/b=f1 /a=f1", "/a=f1 /a=f1", "/a/b=f1", "/b=f1 /b/a=f1", ten + " /d/d/c=f1"} {
		pairing{treeFrom(line), facing{logFrom("/a f1 -"), logFrom("/b f1 f2")}}.hasNoPair(t)
		pairing{treeFrom(line), facing{logFrom("/a f1 -"), nil}}.hasNoPair(t)
		pairing{treeFrom(line), facing{logFrom("/d/d/c f1 -"), nil}}.hasNoPair(t)
	}
}

// Trees, logs and both that are invalid in other ways: too long ones, and those with numbers and texts at the ends.
func TestPairsOfWhatIsInvalid(t *testing.T) {
	tree, good := treeFrom("/a=d /a/b=f3 /b=f1"), logFrom("/a/b f3 -, /a d -, /b f1 f2")
	for i, bad := range notLogs() {
		pairing{tree, facing{bad, good}}.hasNoPair(t)
		if i%4 == 0 {
			pairing{tree, facing{bad, nil}}.hasNoPair(t)
			pairing{nil, facing{bad, bad}}.hasNoPair(t)
		}
	}
	far := impl.Content{Kind: math.MaxInt, Value: math.MinInt}
	for _, c := range []impl.Command{{}, {Path: "/a", From: far, To: dir}, {Path: "/a", From: dir, To: far}, {Path: "/", From: dir}, {Path: "\xff/a", From: dir}, {Path: "/b", From: fileOf(1), To: fileOf(1)}} {
		for k := range len(good) + 1 {
			bad := slices.Insert(slices.Clone(good), k, c)
			pairing{tree, facing{bad, good}}.hasNoPair(t)
			pairing{tree, facing{bad, bad}}.hasNoPair(t)
		}
	}
	many := slices.Repeat(logFrom("/a - f1"), 100000)
	pairing{nil, facing{many, many}}.hasNoPair(t)
	pairing{make([]impl.Node, 100000), facing{many, nil}}.hasNoPair(t)
}

// Logs of LogMax commands, which fit a tree with NodeMax nodes only if all of these end; and logs of one command more.
func TestPairsOfLogsWithLogMaxCommands(t *testing.T) {
	for i, line := range apartTrees {
		tree, other := treeFrom(line), treeFrom(apartTrees[(i+1)%len(apartTrees)])
		log := diffOf(tree, other)
		if len(log) != impl.LogMax {
			t.Fatalf("%q has %d commands", lineOf(log), len(log))
		}
		for k := range len(log) + 1 {
			// The first commands of one side, which has all others to do, and all of them of the other side.
			p := pairing{tree, facing{log[:k], log}}
			if got, ok := impl.PairTree(p.tree, p.a, p.b); !ok || !sameNodes(got, other) {
				t.Errorf("PairTree of %v is %v, %v", p, got, ok)
			}
			if got, ok := impl.PairBase(p.tree, p.a, p.b); !ok || !sameNodes(got, other) {
				t.Errorf("PairBase of %v is %v, %v", p, got, ok)
			}
			p.check(t)
		}
		for _, c := range logFrom("/a - f1, /c f1 f2, /d/d/d/d - d, /d/d/d/d f1 -") {
			if len(onPath(log, c.Path)) == 0 {
				long := orderedOf(append(slices.Clone(log), c))
				pairing{tree, facing{long, log}}.hasNoPair(t)
				pairing{tree, facing{long, nil}}.hasNoPair(t)
			}
		}
	}
}

// Files of all values: the value is all that both sides have different.
func TestPairsOfAllValues(t *testing.T) {
	for _, c := range validContents() {
		for _, d := range []impl.Content{none, dir, fileOf(0), fileOf(1), fileOf(50), fileOf(98), fileOf(99)} {
			for _, tree := range [][]impl.Node{nil, treeFrom("/b/d=f7")[:0], treeFrom("/b=f7"), treeFrom("/b=d")} {
				x, okX := putOf(tree, "/b", c)
				y, okY := putOf(tree, "/b", d)
				if p := pairingOf(tree, x, y); !okX || !okY {
					t.Fatalf("%v and %v can not be put into %v", c, d, tree)
				} else {
					p.check(t)
				}
			}
		}
	}
}

// The same call gives the same answer each time it is made, however many goroutines run at once.
func TestPairsAreTheSameEachTime(t *testing.T) {
	defer runtime.GOMAXPROCS(runtime.GOMAXPROCS(0))
	for _, n := range []int{1, 2, 8} {
		runtime.GOMAXPROCS(n)
		for _, p := range fewPairings() {
			p.check(t)
		}
	}
}

// Calls with the same arguments that are made at the same time do not disturb each other.
func TestPairsAtTheSameTime(t *testing.T) {
	for _, p := range append(fewPairings(), pairingFrom("/a=f1", "/a f2 f3", "/a f1 f2"), pairingFrom("/b=d /a=d", "", "/c - d")) {
		tree, _ := markedNodes(p.tree)
		a, _ := markedCommands(p.a)
		b, _ := markedCommands(p.b)
		var calls sync.WaitGroup
		for range 4 {
			calls.Go(func() { pairing{tree, facing{a, b}}.check(t) })
			calls.Go(func() { pairing{tree, facing{b, a}}.check(t) })
		}
		calls.Wait()
	}
}

// All goroutines of a call have ended with it, or will in a moment.
func TestPairsLeaveNoGoroutines(t *testing.T) {
	before := runtime.NumGoroutine()
	p, bad := pairingFrom(nine, "/a f1 -, /d/d/d - f3", "/a f1 f2, /d/d/c - f2"), pairingFrom("", "/a f2 f3", "/a - f2")
	for range 200 {
		p.check(t)
		bad.hasNoPair(t)
	}
	goroutinesEnd(t, before)
}

// Calls change neither a tree, nor logs, nor what is behind them, nor each other's results.
func TestPairsShareNoMemory(t *testing.T) {
	list := slices.Concat(fewPairings(), []pairing{{treeFrom("/b=d /a=d"), facing{}}, {make([]impl.Node, 30), facing{logFrom("/a - f1"), nil}}})
	for _, r := range pairRows {
		list = append(list, pairingFrom(r.tree, r.a, r.b))
	}
	for _, r := range unfitRows {
		list = append(list, pairingFrom(r.tree, r.a, r.b), pairingFrom(r.tree, r.b, r.a))
	}
	functions := []func(tree []impl.Node, a, b []impl.Command) ([]impl.Node, bool){impl.PairTree, impl.PairBase}
	for _, p := range list {
		tree, array := markedNodes(p.tree)
		a, arrayA := markedCommands(p.a)
		b, arrayB := markedCommands(p.b)
		before, beforeA, beforeB := slices.Clone(array), slices.Clone(arrayA), slices.Clone(arrayB)
		for k, function := range functions {
			got, _ := function(p.tree, p.a, p.b)
			want := slices.Clone(got)
			first, ok := function(tree, a, b)
			second, fine := function(tree, a, b)
			overwriteNodes(first)
			if !sameNodes(second, want) || ok != fine {
				t.Fatalf("function %d of %s is %v, %v", k, shown(p), second, fine)
			}
			overwriteNodes(second)
		}
		want := slices.Clone(impl.PairApart(p.tree, p.a, p.b))
		first, second := impl.PairApart(tree, a, b), impl.PairApart(tree, a, b)
		clear(first[:cap(first)])
		if !slices.Equal(second, want) || impl.PairFits(tree, a, b) != p.fits() {
			t.Fatalf("PairApart of %s is %v", shown(p), second)
		}
		clear(second[:cap(second)])
		if !sameNodes(array, before) || !slices.Equal(arrayA, beforeA) || !slices.Equal(arrayB, beforeB) {
			t.Fatalf("%s has changed: %v, %s, %s", shown(p), array, shown(arrayA), shown(arrayB))
		}
	}
}

// Both logs may be one, or parts of one that is longer.
func TestPairsOfPartsOfOneLog(t *testing.T) {
	tree := treeFrom("/a=d /a/a=f1 /b=f1 /d=f1")
	log := logFrom("/d f1 -, /a/a f1 -, /a d f4, /b f1 d, /b/c - d, /b/c/a - f2, /c - d")
	whole, array := markedCommands(log)
	before := slices.Clone(array)
	for i := range len(whole) + 1 {
		for k := i; k <= len(whole); k++ {
			for _, f := range []facing{{whole[:k], whole[i:]}, {whole[i:k], whole[i:k]}, {whole[:i], whole[:k]}} {
				p := pairing{tree, f}
				p.check(t)
				got, _ := impl.PairTree(p.tree, p.a, p.b)
				overwriteNodes(got)
				got, _ = impl.PairBase(p.tree, p.a, p.b)
				overwriteNodes(got)
				if !slices.Equal(array, before) || len(tree) != 4 || !isTree(tree) {
					t.Fatalf("%q has changed: %q, or %v", lineOf(log), lineOf(whole), tree)
				}
			}
		}
	}
}
