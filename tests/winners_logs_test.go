package tests

import (
	"math"
	"runtime"
	"slices"
	"sync"
	"testing"

	"loop.example/filereconciler/impl"
)

func TestWinnersTableOfLogsThatDoNotFit(t *testing.T) {
	for _, r := range unfitRows {
		p := pairingFrom(r.tree, r.a, r.b)
		p.hasNoWinner(t)
		pairing{p.tree, facing{p.a, p.a}}.hasNoWinner(t)
		pairing{p.tree, facing{p.a, nil}}.hasNoWinner(t)
		// There may be conflicts of such logs, if they are canonical.
		p.facing.checkText(t)
		p.facing.turned().checkText(t)
	}
}

// A canonical log that breaks at the first, a middle or the last command, as the first log, the second one, and both.
func TestWinnersOfLogsThatBreak(t *testing.T) {
	n := 0
	for i, p := range pairings() {
		if i%100 > 0 {
			continue
		}
		for k := range len(p.a) + 1 {
			for j, broken := range brokenAt(p.tree, p.a, k) {
				if j%10 == 0 {
					pairing{p.tree, facing{broken, p.b}}.hasNoWinner(t)
					facing{broken, p.b}.checkText(t)
					n++
				}
				if j%40 == 0 {
					pairing{p.tree, facing{broken, nil}}.hasNoWinner(t)
					pairing{p.tree, facing{broken, broken}}.hasNoWinner(t)
				}
			}
		}
	}
	if n < 300 {
		t.Errorf("only %d logs break", n)
	}
}

// Logs that are not canonical, of which some fit the tree.
func TestWinnersOfLogsThatAreNotCanonical(t *testing.T) {
	good := []facing{{nil, nil}, {logFrom("/a - f1"), nil}, {logFrom("/a - f3, /b - f3"), nil}, {sameAt(pathsUnder("/a", impl.LogMax), "f1", "f2"), nil}}
	for i, bad := range notCanonical() {
		if impl.CanonValid(bad) {
			t.Fatalf("CanonValid of %s holds", shown(bad))
		}
		tree := [][]impl.Node{nil, treeFrom("/a=d"), treeFrom("/a=f1 /b=f1"), treeFrom("/a=d /a/b=f1 /b=f1")}[i%4]
		pairing{tree, facing{bad, nil}}.hasNoWinner(t)
		pairing{tree, facing{bad, bad}}.hasNoWinner(t)
		facing{bad, bad}.hasNoText(t)
		for _, f := range good {
			facing{bad, f.a}.hasNoText(t)
		}
		if canon, ok := canonOf(bad); ok {
			facing{bad, canon}.hasNoText(t)
			facing{bad, contraryLog(canon)}.hasNoText(t)
		}
	}
	n := 0
	for i, l := range logsThatFit() {
		if i%12 > 0 || isCanon(l.log) {
			continue
		}
		canon, _ := canonOf(l.log)
		for _, f := range []facing{{l.log, nil}, {l.log, canon}, {l.log, l.log}, {l.log, contraryLog(canon)}} {
			pairing{l.tree, f}.hasNoWinner(t)
			f.hasNoText(t)
		}
		n++
	}
	if n < 300 {
		t.Errorf("only %d logs are not canonical", n)
	}
}

// Logs that are invalid, at either side and at both: too long ones, and those with a command that is invalid.
func TestWinnersOfWhatIsInvalid(t *testing.T) {
	tree, good := treeFrom("/a=d /a/b=f3 /b=f1"), logFrom("/a/b f3 -, /a d -, /b f1 f2")
	for i, bad := range notLogs() {
		facing{bad, good}.hasNoText(t)
		facing{bad, nil}.hasNoText(t)
		facing{bad, bad}.hasNoText(t)
		if i%2 == 0 {
			pairing{tree, facing{bad, good}}.hasNoWinner(t)
		}
		if i%8 == 0 {
			pairing{tree, facing{bad, nil}}.hasNoWinner(t)
			pairing{nil, facing{bad, bad}}.hasNoWinner(t)
		}
	}
	far := impl.Content{Kind: math.MaxInt, Value: math.MinInt}
	for _, c := range []impl.Command{{}, {Path: "/a", From: far, To: dir}, {Path: "/a", From: dir, To: far}, {Path: "/", From: dir}, {Path: "\xff/a", From: dir}, {Path: "/b", From: fileOf(1), To: fileOf(1)}} {
		for k := range len(good) + 1 {
			bad := slices.Insert(slices.Clone(good), k, c)
			pairing{tree, facing{bad, good}}.hasNoWinner(t)
			pairing{tree, facing{bad, bad}}.hasNoWinner(t)
			facing{bad, logFrom("/a/b f3 f4, /b f1 f4")}.hasNoText(t)
		}
	}
	many := slices.Repeat(logFrom("/a - f1"), 100000)
	facing{many, many}.hasNoText(t)
	facing{many, logFrom("/a - f2")}.hasNoText(t)
	pairing{nil, facing{many, many}}.hasNoWinner(t)
	pairing{make([]impl.Node, 100000), facing{many, nil}}.hasNoWinner(t)
}

// Trees that are none, and logs that would do with them.
func TestWinnersOfTreesThatAreNone(t *testing.T) {
	logs := []facing{{nil, nil}, {[]impl.Command{}, nil}, {logFrom("/c - f1"), nil}, {logFrom("/c - f1"), logFrom("/c - f2")}, {logFrom("/a d -"), logFrom("/a/c - f1")}, {logFrom("/a d f1"), logFrom("/b - f1, /d - d")}}
	for what, bad := range notTrees() {
		if isTree(bad) {
			t.Fatalf("%.60q: %s is a tree", what, shown(bad))
		}
		for _, f := range logs {
			pairing{bad, f}.hasNoWinner(t)
		}
	}
	for _, line := range []string{"/b=f1 /a=f1", "/a=f1 /a=f1", "/a/b=f1", "/b=f1 /b/a=f1", ten + " /d/d/c=f1"} {
		pairing{treeFrom(line), facing{logFrom("/a f1 -"), logFrom("/a f1 f2")}}.hasNoWinner(t)
		pairing{treeFrom(line), facing{nil, nil}}.hasNoWinner(t)
	}
}

// The same call gives the same answer each time it is made, however many goroutines run at once.
func TestWinnersAreTheSameEachTime(t *testing.T) {
	defer runtime.GOMAXPROCS(runtime.GOMAXPROCS(0))
	for _, n := range []int{1, 2, 8} {
		runtime.GOMAXPROCS(n)
		for i, p := range fewPairings() {
			if i%3 == 0 {
				p.checkWinners(t)
			}
		}
	}
}

// Calls with the same arguments that are made at the same time do not disturb each other.
func TestWinnersAtTheSameTime(t *testing.T) {
	list := []pairing{pairingFrom("/a=f1", "/a f2 f3", "/a f1 f2"), pairingFrom("/b=d /a=d", "", "/c - d"), pairingFrom(ten, "/a f1 -, /d/d/c - f2", "/a f1 f2")}
	for i, p := range fewPairings() {
		if i%5 == 0 {
			list = append(list, p)
		}
	}
	for _, p := range list {
		tree, _ := markedNodes(p.tree)
		a, _ := markedCommands(p.a)
		b, _ := markedCommands(p.b)
		var calls sync.WaitGroup
		for range 3 {
			calls.Go(func() { pairing{tree, facing{a, b}}.checkWinners(t) })
			calls.Go(func() { pairing{tree, facing{b, a}}.checkWinners(t) })
		}
		calls.Wait()
	}
}

// All goroutines of a call have ended with it, or will in a moment.
func TestWinnersLeaveNoGoroutines(t *testing.T) {
	before := runtime.NumGoroutine()
	p, bad := pairingFrom(nine, "/a f1 -, /d/d/d - f3", "/a f1 f2, /d/d/c - f2"), pairingFrom("", "/a f2 f3", "/a - f2")
	for range 50 {
		p.checkWinners(t)
		bad.hasNoWinner(t)
	}
	goroutinesEnd(t, before)
}

// Calls change neither a tree, nor logs, nor what is behind them, nor each other's results.
func TestWinnersShareNoMemory(t *testing.T) {
	list := slices.Concat(fewPairings(), []pairing{{treeFrom("/b=d /a=d"), facing{}}, {make([]impl.Node, 30), facing{logFrom("/a - f1"), nil}}})
	for _, r := range winnerRows {
		list = append(list, pairingFrom(r.tree, r.a, r.b))
	}
	for _, r := range unfitRows {
		list = append(list, pairingFrom(r.tree, r.a, r.b), pairingFrom(r.tree, r.b, r.a))
	}
	for _, p := range list {
		tree, array := markedNodes(p.tree)
		a, arrayA := markedCommands(p.a)
		b, arrayB := markedCommands(p.b)
		before, beforeA, beforeB := slices.Clone(array), slices.Clone(arrayA), slices.Clone(arrayB)
		marked, wanted := pairing{tree, facing{a, b}}, p.wanted()
		for _, side := range []int{0, 1, 2} {
			marked.treesAreApart(t, wanted, side)
			for _, at := range []int{1, 2, 3} {
				marked.stepsAreApart(t, wanted, side, at)
			}
		}
		if got := impl.ClashText(a, b); got != p.facing.clashWords() {
			t.Fatalf("ClashText of %s is %q", shown(p), got)
		}
		if !sameNodes(array, before) || !slices.Equal(arrayA, beforeA) || !slices.Equal(arrayB, beforeB) {
			t.Fatalf("%s has changed: %v, %s, %s", shown(p), array, shown(arrayA), shown(arrayB))
		}
	}
}

// treesAreApart overwrites the trees of two calls one after the other: the other one stays as it is to be.
func (p pairing) treesAreApart(t *testing.T, wanted outcome, side int) {
	t.Helper()
	want, fine := wanted.wins(side)
	first, ok := impl.ResolveTree(p.tree, p.a, p.b, side)
	second, okSecond := impl.ResolveTree(p.tree, p.a, p.b, side)
	overwriteNodes(first)
	if !sameNodes(second, want) || ok != fine || okSecond != fine {
		t.Fatalf("ResolveTree of %s for %d is %v, %v", shown(p), side, second, ok)
	}
	overwriteNodes(second)
}

// stepsAreApart overwrites the steps of two calls one after the other: the other ones stay as they are to be.
func (p pairing) stepsAreApart(t *testing.T, wanted outcome, side, at int) {
	t.Helper()
	want, fine := wanted.steps(side, at)
	first, ok := impl.ResolveSteps(p.tree, p.a, p.b, side, at)
	second, okSecond := impl.ResolveSteps(p.tree, p.a, p.b, side, at)
	overwriteCommands(first)
	if !slices.Equal(second, want) || ok != fine || okSecond != fine {
		t.Fatalf("ResolveSteps of %s for %d at %d is %q, %v", shown(p), side, at, lineOf(second), ok)
	}
	overwriteCommands(second)
}

// Both logs may be one, or parts of one that is longer.
func TestWinnersOfPartsOfOneLog(t *testing.T) {
	tree := treeFrom("/a=d /a/a=f1 /b=f1 /d=f1")
	log := logFrom("/d f1 -, /a/a f1 -, /a d f4, /b f1 d, /b/c - d, /b/c/a - f2, /c - d")
	whole, array := markedCommands(log)
	before := slices.Clone(array)
	for i := range len(whole) + 1 {
		for k := i; k <= len(whole); k++ {
			for _, f := range []facing{{whole[:k], whole[i:]}, {whole[i:k], whole[i:k]}, {whole[:i], whole[:k]}} {
				p := pairing{tree, f}
				p.checkWinners(t)
				for _, side := range bothSides {
					got, _ := impl.ResolveTree(p.tree, p.a, p.b, side)
					overwriteNodes(got)
					steps, _ := impl.ResolveSteps(p.tree, p.a, p.b, side, impl.SideA)
					overwriteCommands(steps)
				}
				if !slices.Equal(array, before) || len(tree) != 4 || !isTree(tree) {
					t.Fatalf("%q has changed: %q, or %v", lineOf(log), lineOf(whole), tree)
				}
			}
		}
	}
}
