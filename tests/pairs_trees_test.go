package tests

import (
	"slices"
	"testing"

	"loop.example/filereconciler/impl"
)

// Promise 88, of logs that fit; those that do not are below.
func TestPairFitsIsThatOfBothLogs(t *testing.T) {
	for _, p := range pairings() {
		both := impl.CanonValid(p.a) && impl.CanonValid(p.b) && impl.LogFits(p.tree, p.a) && impl.LogFits(p.tree, p.b)
		if there, back := impl.PairFits(p.tree, p.a, p.b), impl.PairFits(p.tree, p.b, p.a); there != both || back != both {
			t.Errorf("PairFits of %v is %v, and exchanged %v", p, there, back)
		}
	}
}

// Promise 89.
func TestPairTreeDoesWhatIsSafe(t *testing.T) {
	counts := map[bool]int{}
	for _, o := range bothWays() {
		after, n := impl.LogApply(o.tree, o.a)
		safe := impl.SafeOf(o.a, o.b)
		whole, full := o.whole(o.a, safe)
		if n != len(o.a) || o.okFirst != full {
			t.Errorf("%v: PairTree is %v, %v, and the tree has room is %v", o.pairing, o.first, o.okFirst, full)
		}
		got, done := impl.LogApply(after, safe)
		if fits := impl.LogFits(after, safe); fits != o.okFirst || fits != (done == len(safe)) {
			t.Errorf("%v: PairTree is %v, %v, and %d of %q are done", o.pairing, o.first, o.okFirst, done, lineOf(safe))
		}
		if o.okFirst && (!sameNodes(got, o.first) || !sameNodes(whole, o.first)) {
			t.Errorf("%v: PairTree is %v, and not %v", o.pairing, o.first, got)
		}
		// What breaks has found NodeMax nodes, and makes one more.
		if !o.okFirst && (len(got) != impl.NodeMax || safe[done].From != none || len(o.first) > 0) {
			t.Errorf("%v: %q breaks at %v", o.pairing, wordsOf(safe[done]), got)
		}
		counts[o.okFirst]++
	}
	if counts[false] < 500 {
		t.Errorf("there are too few of one kind: %v", counts)
	}
}

// Promise 90.
func TestWhatIsLeftBreaks(t *testing.T) {
	n := 0
	for _, o := range bothWays() {
		if !o.okFirst {
			continue
		}
		for _, c := range impl.LeftOf(o.b, o.a) {
			if got, ok := impl.CommandApply(o.first, c); ok || !sameNodes(got, o.first) {
				t.Errorf("%v: PairTree is %v, and %q leads to %v, %v", o.pairing, o.first, wordsOf(c), got, ok)
			}
			n++
		}
	}
	if n < 2000 {
		t.Errorf("only %d commands are left", n)
	}
}

// Promise 91.
func TestPairTreeHasWhatBothLogsLeave(t *testing.T) {
	for _, o := range bothWays() {
		if !o.okFirst {
			continue
		}
		want := contentsOf(o.tree)
		for _, c := range slices.Concat(impl.SafeOf(o.a, o.b), o.a) {
			want[c.Path] = c.To
		}
		paths := append(pathsOf(slices.Concat(o.a, o.b)), nearPaths(o.tree)[1:]...)
		for _, p := range paths {
			if got := impl.TreeGet(o.first, p); got != want[p] {
				t.Errorf("%v: PairTree is %v, and has %v at %s, not %v", o.pairing, o.first, got, p, want[p])
			}
		}
		if !impl.TreeValid(o.first) || !sameNodes(nodesOf(want), o.first) {
			t.Errorf("%v: PairTree is %v", o.pairing, o.first)
		}
	}
}

// Promise 92.
func TestSidesWithoutConflictsAreEqual(t *testing.T) {
	counts := map[bool]int{}
	for _, o := range bothWays() {
		if len(impl.ClashesOf(o.a, o.b)) > 0 {
			continue
		}
		// Without conflicts, all three are made of the same commands, so there is room for all of them or for none.
		if o.okFirst != o.okSecond || o.okFirst != o.okCommon {
			t.Errorf("%v: there are %v, %v, %v", o.pairing, o.okFirst, o.okSecond, o.okCommon)
		}
		if o.okFirst && (!sameNodes(o.first, o.second) || !sameNodes(o.first, o.common)) {
			t.Errorf("%v: the trees are %v, %v, %v", o.pairing, o.first, o.second, o.common)
		}
		counts[o.okFirst]++
	}
	if counts[true] < 1000 || counts[false] < 200 {
		t.Errorf("there are too few of one kind: %v", counts)
	}
}

// Promise 93.
func TestPairBaseHasWhatIsInNoConflict(t *testing.T) {
	for _, o := range outcomes() {
		if back, ok := impl.PairBase(o.tree, o.b, o.a); ok != o.okCommon || !sameNodes(back, o.common) {
			t.Errorf("%v: PairBase is %v, %v, and exchanged %v, %v", o.pairing, o.common, o.okCommon, back, ok)
		}
		if !o.okCommon {
			continue
		}
		left := slices.Concat(impl.LeftOf(o.a, o.b), impl.LeftOf(o.b, o.a))
		want := contentsOf(o.tree)
		for _, log := range [][]impl.Command{o.a, o.b} {
			for _, c := range log {
				if slices.Contains(left, c) {
					continue
				}
				if got := impl.TreeGet(o.common, c.Path); got != c.To {
					t.Errorf("%v: PairBase is %v, and has %v at %s", o.pairing, o.common, got, c.Path)
				}
				want[c.Path] = c.To
			}
		}
		if !impl.TreeValid(o.common) || !sameNodes(nodesOf(want), o.common) {
			t.Errorf("%v: PairBase is %v", o.pairing, o.common)
		}
	}
}

// Promise 94.
func TestWhatIsLeftLeadsToTheSide(t *testing.T) {
	n := 0
	for _, o := range bothWays() {
		if !o.okCommon || !o.okFirst {
			continue
		}
		left := impl.LeftOf(o.a, o.b)
		got, done := impl.LogApply(o.common, left)
		if done != len(left) || !impl.LogFits(o.common, left) || !sameNodes(got, o.first) {
			t.Errorf("%v: PairBase is %v, and %q leads to %v, %d, not %v", o.pairing, o.common, lineOf(left), got, done, o.first)
		}
		if len(left) > 1 {
			n++
		}
	}
	if n < 500 {
		t.Errorf("only %d have more than one command that is left", n)
	}
}

// Promises 95 and 96.
func TestSidesAreApartWhereSomethingIsLeft(t *testing.T) {
	counts := map[int]int{}
	for _, o := range outcomes() {
		if back := impl.PairApart(o.tree, o.b, o.a); !slices.Equal(back, o.apart) {
			t.Errorf("%v: PairApart is %v, and exchanged %v", o.pairing, o.apart, back)
		}
		left := pathsOf(slices.Concat(impl.LeftOf(o.a, o.b), impl.LeftOf(o.b, o.a)))
		for i, p := range o.apart {
			if !slices.Contains(left, p) || i > 0 && o.apart[i-1] >= p {
				t.Errorf("%v: PairApart is %v, and what is left is at %v", o.pairing, o.apart, left)
			}
		}
		if !o.okFirst || !o.okSecond {
			if len(o.apart) > 0 {
				t.Errorf("%v: PairApart is %v, and the sides are %v, %v", o.pairing, o.apart, o.okFirst, o.okSecond)
			}
			counts[-1]++
			continue
		}
		if clashes := impl.ClashesOf(o.a, o.b); (len(clashes) > 0) != (len(o.apart) > 0) {
			t.Errorf("%v: PairApart is %v, and ClashesOf is %v", o.pairing, o.apart, clashLine(clashes))
		}
		if want := impl.TreeChanged(o.first, o.second); !slices.Equal(want, o.apart) || !slices.Equal(changedOf(o.first, o.second), o.apart) {
			t.Errorf("%v: PairApart is %v, and not %v", o.pairing, o.apart, want)
		}
		counts[len(o.apart)]++
	}
	for n := -1; n < 6; n++ {
		if counts[n] < 30 {
			t.Errorf("there are too few that differ at %d paths: %v", n, counts)
		}
	}
}

// Promise 97.
func TestPairsASecondTime(t *testing.T) {
	counts := map[bool]int{}
	for _, o := range bothWays() {
		if !o.okCommon {
			continue
		}
		again := pairing{o.common, facing{impl.LeftOf(o.a, o.b), impl.LeftOf(o.b, o.a)}}
		if there, back := impl.SafeOf(again.a, again.b), impl.SafeOf(again.b, again.a); len(there) > 0 || len(back) > 0 {
			t.Errorf("%v: of what is left, %q and %q are safe", o.pairing, lineOf(there), lineOf(back))
		}
		got, ok := impl.PairBase(again.tree, again.a, again.b)
		// Both logs lead to the sides, so there is a common tree again exactly if there are both of these.
		if ok != (o.okFirst && o.okSecond) || ok && !sameNodes(got, o.common) || !ok && len(got) > 0 {
			t.Errorf("%v: PairBase of %v is %v, %v", o.pairing, again, got, ok)
		}
		first, fine := impl.PairTree(again.tree, again.a, again.b)
		if fine != ok || ok && !sameNodes(first, o.first) {
			t.Errorf("%v: PairTree of %v is %v, %v, not %v", o.pairing, again, first, fine, o.first)
		}
		if apart := impl.PairApart(again.tree, again.a, again.b); ok && !slices.Equal(apart, o.apart) || !ok && len(apart) > 0 {
			t.Errorf("%v: PairApart of %v is %v, not %v", o.pairing, again, apart, o.apart)
		}
		counts[ok]++
	}
	if counts[true] < 1000 || counts[false] < 200 {
		t.Errorf("there are too few of one kind: %v", counts)
	}
}

// places returns the paths of all names in the directories /a, /b, /c and /d.
func places() []string {
	return slices.DeleteFunc(allPaths(), func(p string) bool { return len(p) != len("/a/a") })
}

// Each side makes some files, of which some are the same, and one of both makes room: as many nodes as there can be, one less, and one more.
func TestPairsAroundNodeMax(t *testing.T) {
	free := places()
	succeeded := map[int]int{}
	for files := range impl.NodeMax - 3 {
		tree := treeFrom("/a=d /b=d /c=d /d=d")
		for _, p := range free[:files] {
			tree, _ = putOf(tree, p, fileOf(1))
		}
		for room := range files + 1 {
			for more := range impl.NodeMax + 2 - len(tree) + room {
				for others := range impl.NodeMax + 2 - len(tree) {
					for common := range min(more, others) + 1 {
						made := sameAt(free[files:files+more], "-", "f2")
						p := pairing{tree, facing{orderedOf(append(made, sameAt(free[:room], "f1", "-")...)), sameAt(free[files+more-common:files+more-common+others], "-", "f2")}}
						n := len(tree) - room + more + others - common
						fit := len(tree)-room+more <= impl.NodeMax && len(tree)+others <= impl.NodeMax
						if p.hasRoom(t, fit, fit && n <= impl.NodeMax) {
							succeeded[n]++
						}
					}
				}
			}
		}
	}
	for n := 4; n <= impl.NodeMax; n++ {
		if succeeded[n] == 0 || len(succeeded) != impl.NodeMax-3 {
			t.Errorf("%v: there are too few with %d nodes", succeeded, n)
		}
	}
}

// hasRoom tells that both logs fit if this is said, and that there are all trees or none, and returns whether there are.
func (p pairing) hasRoom(t *testing.T, fit, room bool) bool {
	t.Helper()
	for _, x := range []pairing{p, p.turned()} {
		if got := impl.PairFits(x.tree, x.a, x.b); got != fit {
			t.Errorf("PairFits of %v is %v", x, got)
		}
		want, _ := x.whole(x.a, x.b)
		if !room {
			want = nil
		}
		if got, ok := impl.PairTree(x.tree, x.a, x.b); ok != room || !sameNodes(got, want) {
			t.Errorf("PairTree of %v is %v, %v", x, got, ok)
		}
		if got, ok := impl.PairBase(x.tree, x.a, x.b); ok != room || !sameNodes(got, want) {
			t.Errorf("PairBase of %v is %v, %v", x, got, ok)
		}
		if got := impl.PairApart(x.tree, x.a, x.b); len(got) > 0 {
			t.Errorf("PairApart of %v is %v", x, got)
		}
	}
	return room
}
