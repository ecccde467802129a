package tests

import (
	"slices"
	"strings"
	"sync"
	"testing"

	"loop.example/filereconciler/impl"
)

// verdict is an outcome whose trees are those that ResolveTree returns, and what each side has to do if each one wins, if there is an answer.
type verdict struct {
	outcome
	steps   map[[2]int][]impl.Command
	okSteps map[[2]int]bool
}

// verdicts has what the functions return for all pairings.
var verdicts = sync.OnceValue(func() []verdict {
	var list []verdict
	for _, p := range pairings() {
		v := verdict{outcome{pairing: p}, map[[2]int][]impl.Command{}, map[[2]int]bool{}}
		v.first, v.okFirst = impl.ResolveTree(p.tree, p.a, p.b, impl.SideA)
		v.second, v.okSecond = impl.ResolveTree(p.tree, p.a, p.b, impl.SideB)
		for _, side := range bothSides {
			for _, at := range bothSides {
				v.steps[[2]int{side, at}], v.okSteps[[2]int{side, at}] = impl.ResolveSteps(p.tree, p.a, p.b, side, at)
			}
		}
		list = append(list, v)
	}
	return list
})

// Promise 98.
func TestResolveTreeHasWhatTheWinnerLeaves(t *testing.T) {
	counts := map[bool]int{}
	for _, v := range verdicts() {
		for _, side := range bothSides {
			own, other := v.a, v.b
			if side == impl.SideB {
				own, other = v.b, v.a
			}
			got, ok := v.wins(side)
			want, fine := impl.PairTree(v.tree, own, other)
			if ok != fine || !sameNodes(got, want) {
				t.Errorf("%v: ResolveTree for %d is %v, %v, and PairTree is %v, %v", v.pairing, side, got, ok, want, fine)
			}
			counts[ok]++
			if !ok {
				continue
			}
			for _, c := range own {
				if content := impl.TreeGet(got, c.Path); content != c.To {
					t.Errorf("%v: ResolveTree for %d is %v, and has %v at %s", v.pairing, side, got, content, c.Path)
				}
			}
			if !isTree(got) || !impl.TreeValid(got) {
				t.Errorf("%v: ResolveTree for %d is %v, which is no tree", v.pairing, side, got)
			}
		}
	}
	if counts[true] < 5000 || counts[false] < 500 {
		t.Errorf("there are too few of one kind: %v", counts)
	}
}

// Promise 99.
func TestWinnersAreEqualWithoutConflicts(t *testing.T) {
	counts := map[bool]int{}
	for _, v := range verdicts() {
		if !v.okFirst || !v.okSecond {
			continue
		}
		agree := len(impl.ClashesOf(v.a, v.b)) == 0
		if sameNodes(v.first, v.second) != agree || agree != (impl.ClashText(v.a, v.b) == "") {
			t.Errorf("%v: ResolveTree is %v and %v, and ClashText is %q", v.pairing, v.first, v.second, impl.ClashText(v.a, v.b))
		}
		counts[agree]++
	}
	if counts[true] < 1000 || counts[false] < 1000 {
		t.Errorf("there are too few of one kind: %v", counts)
	}
}

// Promise 100, and that what is to be done is the same, too.
func TestWinnersOfBothLogsExchanged(t *testing.T) {
	for _, v := range verdicts() {
		for _, side := range bothSides {
			want, fine := v.wins(side)
			if got, ok := impl.ResolveTree(v.tree, v.b, v.a, 3-side); ok != fine || !sameNodes(got, want) {
				t.Errorf("%v: ResolveTree for %d is %v, %v, and exchanged %v, %v", v.pairing, side, want, fine, got, ok)
			}
			for _, at := range bothSides {
				want, fine := v.steps[[2]int{side, at}], v.okSteps[[2]int{side, at}]
				if got, ok := impl.ResolveSteps(v.tree, v.b, v.a, 3-side, 3-at); ok != fine || !slices.Equal(got, want) {
					t.Errorf("%v: ResolveSteps for %d at %d is %q, %v, and exchanged %q, %v", v.pairing, side, at, lineOf(want), fine, lineOf(got), ok)
				}
			}
		}
	}
}

// Promise 101.
func TestResolveStepsLeadToTheWinner(t *testing.T) {
	counts := map[bool]int{}
	for _, v := range verdicts() {
		for _, side := range bothSides {
			for _, at := range bothSides {
				steps, ok := v.steps[[2]int{side, at}], v.okSteps[[2]int{side, at}]
				own, okOwn := v.wins(at)
				wanted, okWanted := v.wins(side)
				if ok != (okOwn && okWanted) || !ok && len(steps) > 0 {
					t.Errorf("%v: ResolveSteps for %d at %d is %q, %v, and the sides are %v, %v", v.pairing, side, at, lineOf(steps), ok, okWanted, okOwn)
				}
				if !ok {
					continue
				}
				got, done := impl.LogApply(own, steps)
				if done != len(steps) || !impl.LogFits(own, steps) || !sameNodes(got, wanted) {
					t.Errorf("%v: ResolveSteps for %d at %d is %q, and leads from %v to %v, not %v", v.pairing, side, at, lineOf(steps), own, got, wanted)
				}
				if !impl.CanonValid(steps) || !isCanon(steps) || !slices.Equal(steps, diffOf(own, wanted)) {
					t.Errorf("%v: ResolveSteps for %d at %d is %q", v.pairing, side, at, lineOf(steps))
				}
				counts[len(steps) > 1]++
			}
		}
	}
	if counts[true] < 1000 || counts[false] < 1000 {
		t.Errorf("there are too few of one kind: %v", counts)
	}
}

// Promise 102, and the other way round: with conflicts, the other side has something to do.
func TestResolveStepsOfTheWinnerAreNone(t *testing.T) {
	counts := map[string]int{}
	for _, v := range verdicts() {
		agree := len(impl.ClashesOf(v.a, v.b)) == 0
		for _, side := range bothSides {
			_, fine := v.wins(side)
			if steps, ok := v.steps[[2]int{side, side}], v.okSteps[[2]int{side, side}]; ok != fine || len(steps) > 0 {
				t.Errorf("%v: ResolveSteps for %d at itself is %q, %v", v.pairing, side, lineOf(steps), ok)
			}
			steps, ok := v.steps[[2]int{side, 3 - side}], v.okSteps[[2]int{side, 3 - side}]
			if ok && agree != (len(steps) == 0) || ok != (v.okFirst && v.okSecond) {
				t.Errorf("%v: ResolveSteps for %d at the other one is %q, %v, and no conflicts is %v", v.pairing, side, lineOf(steps), ok, agree)
			}
			switch {
			case fine && !ok:
				counts["of itself only"]++
			case ok && agree:
				counts["no conflicts"]++
			case ok:
				counts["conflicts"]++
			}
		}
	}
	for _, word := range []string{"of itself only", "no conflicts", "conflicts"} {
		if counts[word] < 100 {
			t.Errorf("there are too few of one kind: %v", counts)
		}
	}
}

// What one side has to do takes back what the other one has to do.
func TestResolveStepsOfTheOtherWinner(t *testing.T) {
	for _, v := range verdicts() {
		there, back := v.steps[[2]int{impl.SideA, impl.SideB}], v.steps[[2]int{impl.SideB, impl.SideA}]
		if !sameCommands(there, logUndoOf(back)) {
			t.Errorf("%v: ResolveSteps is %q and %q", v.pairing, lineOf(there), lineOf(back))
		}
		// Both sides differ at these paths only.
		if apart := impl.PairApart(v.tree, v.a, v.b); !slices.Equal(pathsOf(there), apart) {
			t.Errorf("%v: ResolveSteps is %q, and PairApart is %v", v.pairing, lineOf(there), apart)
		}
	}
}

// Promise 103.
func TestClashTextHasALineForEachConflict(t *testing.T) {
	counts := map[int]int{}
	list := facingLogs()
	for _, p := range pairings() {
		list = append(list, p.facing)
	}
	for _, f := range list {
		clashes, text := impl.ClashesOf(f.a, f.b), impl.ClashText(f.a, f.b)
		lines := strings.SplitAfter(text, "\n")
		if len(lines) != len(clashes)+1 || lines[len(clashes)] != "" {
			t.Fatalf("ClashText of %v is %q, and ClashesOf is %v", f, text, clashLine(clashes))
		}
		for k, x := range clashes {
			if want := impl.CommandText(f.a[x.A]) + " | " + impl.CommandText(f.b[x.B]) + "\n"; lines[k] != want {
				t.Errorf("ClashText of %v is %q, and the line %d is not %q", f, text, k, want)
			}
			if !strings.HasPrefix(lines[k], wordsOf(f.a[x.A])+" | ") || !strings.HasSuffix(lines[k], " | "+wordsOf(f.b[x.B])+"\n") {
				t.Errorf("ClashText of %v is %q, and the line %d has other commands", f, text, k)
			}
		}
		counts[min(len(clashes), 5)]++
	}
	for n := range 6 {
		if counts[n] < 50 {
			t.Errorf("there are too few with %d conflicts: %v", n, counts)
		}
	}
}

// Both sides have NodeMax nodes, and none of them in common: as many steps as there can be.
func TestResolveStepsWithLogMaxCommands(t *testing.T) {
	p := pairingOf(treeFrom("/a=d /a/a=f1 /b=d /b/a=f1"),
		treeFrom("/b=d /b/a=f2 /b/b=d /b/b/a=d /b/b/b=f3 /b/c=d /b/c/a=d /b/c/a/a=f9 /b/c/d=f0 /b/d=f99"),
		treeFrom("/a=d /a/a=f3 /a/b=d /a/b/a=d /a/b/b=f3 /a/c=d /a/c/a=d /a/c/a/a=f9 /a/c/d=f0 /a/d=f99"))
	for _, x := range []pairing{p, p.turned()} {
		for _, side := range bothSides {
			steps, ok := impl.ResolveSteps(x.tree, x.a, x.b, side, 3-side)
			if !ok || len(steps) != impl.LogMax || !impl.CanonValid(steps) {
				t.Errorf("ResolveSteps of %v for %d is %q, %v", x, side, lineOf(steps), ok)
			}
			own, _ := impl.ResolveTree(x.tree, x.a, x.b, 3-side)
			wanted, _ := impl.ResolveTree(x.tree, x.a, x.b, side)
			if got, done := impl.LogApply(own, steps); done != len(steps) || !sameNodes(got, wanted) || len(own) != impl.NodeMax || len(got) != impl.NodeMax {
				t.Errorf("ResolveSteps of %v for %d leads from %v to %v", x, side, own, got)
			}
		}
	}
	p.checkWinners(t)
}

// Each side makes some files, of which one has two values: as many nodes as there can be, one less, and one more.
func TestWinnersAroundNodeMax(t *testing.T) {
	free := places()
	succeeded := map[int]int{}
	for files := range impl.NodeMax {
		for more := range impl.NodeMax - files {
			first := orderedOf(append(sameAt(free[:files], "-", "f2"), impl.Command{Path: "/d", To: fileOf(1)}))
			second := orderedOf(append(sameAt(free[files:files+more], "-", "f2"), impl.Command{Path: "/d", To: fileOf(2)}))
			p := pairing{treeFrom("/a=d /b=d /c=d"), facing{first, second}}
			p.checkWinners(t)
			n := 4 + files + more
			fit := n <= impl.NodeMax
			for _, side := range bothSides {
				got, ok := impl.ResolveTree(p.tree, p.a, p.b, side)
				if ok != fit || ok && len(got) != n {
					t.Errorf("ResolveTree of %v for %d is %v, %v", p, side, got, ok)
				}
				want := "/d f2 f1"
				if side == impl.SideB {
					want = "/d f1 f2"
				}
				if steps, ok := impl.ResolveSteps(p.tree, p.a, p.b, side, 3-side); ok != fit || ok && lineOf(steps) != want {
					t.Errorf("ResolveSteps of %v for %d is %q, %v", p, side, lineOf(steps), ok)
				}
			}
			if fit {
				succeeded[n]++
			}
		}
	}
	for n := 4; n <= impl.NodeMax; n++ {
		if succeeded[n] == 0 {
			t.Errorf("%v: there are none with %d nodes", succeeded, n)
		}
	}
}
