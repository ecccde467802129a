package tests

import (
	"math/rand"
	"slices"
	"testing"

	"loop.example/filereconciler/impl"
)

// What is said of many logs is right only if there are logs of all kinds.
func TestIgnorings(t *testing.T) {
	lengths, ignores, kinds := map[int]int{}, map[int]int{}, map[string]int{}
	for _, f := range ignorings() {
		if !isLog(f.log) || !isIgnores(f.ignores) {
			t.Fatalf("%v is invalid", f)
		}
		lengths[len(f.log)]++
		ignores[len(f.ignores)]++
		kept, held := f.parted()
		above := func(c impl.Command) bool {
			return slices.ContainsFunc(f.ignores, func(p string) bool { return isBelow(p, c.Path) })
		}
		for word, holds := range map[string]bool{
			"all kept":    len(held) == 0 && len(f.ignores) > 0 && len(f.log) > 1,
			"all held":    len(kept) == 0 && len(f.log) > 1,
			"both":        len(kept) > 1 && len(held) > 1,
			"first held":  len(kept) > 0 && len(held) > 0 && held[0] == f.log[0],
			"first kept":  len(kept) > 0 && len(held) > 0 && kept[0] == f.log[0],
			"above, kept": slices.ContainsFunc(kept, above),
			"above, held": slices.ContainsFunc(held, above),
			"path twice":  len(slices.Compact(slices.Sorted(slices.Values(f.ignores)))) < len(f.ignores),
			"under others": slices.ContainsFunc(f.ignores, func(p string) bool {
				return slices.ContainsFunc(f.ignores, func(q string) bool { return isBelow(p, q) })
			}),
		} {
			if holds {
				kinds[word]++
			}
		}
	}
	for n := range impl.LogMax + 1 {
		if lengths[n] < 100 {
			t.Errorf("there are too few logs of %d commands: %v", n, lengths)
		}
	}
	for n := range impl.IgnoreMax + 1 {
		if ignores[n] < 1000 {
			t.Errorf("there are too few lists of %d paths: %v", n, ignores)
		}
	}
	for _, word := range []string{"all kept", "all held", "both", "first held", "first kept", "above, kept", "above, held", "path twice", "under others"} {
		if kinds[word] < 300 {
			t.Errorf("there are too few of one kind, %s: %v", word, kinds)
		}
	}
}

// Promise 104.
func TestFilterKeepTouchesNoIgnoredPath(t *testing.T) {
	for _, f := range ignorings() {
		for _, c := range impl.FilterKeep(f.log, f.ignores) {
			for _, p := range f.ignores {
				if c.Path == p || isBelow(c.Path, p) || impl.PathUnder(p, c.Path) {
					t.Errorf("FilterKeep of %v has %q, which is at or under %q", f, wordsOf(c), p)
				}
				if (isBelow(p, c.Path) || impl.PathUnder(c.Path, p)) && c.To != dir {
					t.Errorf("FilterKeep of %v has %q, which leaves no directory above %q", f, wordsOf(c), p)
				}
			}
		}
	}
}

// Promise 105.
func TestEachCommandIsKeptOrHeld(t *testing.T) {
	for _, f := range ignorings() {
		kept, held := impl.FilterKeep(f.log, f.ignores), impl.FilterHold(f.log, f.ignores)
		if len(kept)+len(held) != len(f.log) || !sameCommands(slices.Concat(kept, held), f.log) {
			t.Errorf("FilterKeep of %v is %q, and FilterHold is %q", f, lineOf(kept), lineOf(held))
		}
		for _, c := range f.log {
			if slices.Contains(kept, c) == slices.Contains(held, c) {
				t.Errorf("FilterKeep of %v is %q, and FilterHold is %q: %q is in both or in none", f, lineOf(kept), lineOf(held), wordsOf(c))
			}
		}
		for _, part := range [][]impl.Command{kept, held} {
			if !isPartInOrder(part, f.log) {
				t.Errorf("%v: %q is out of order", f, lineOf(part))
			}
		}
	}
}

// isPartInOrder tells whether commands are some of a log, in its order.
func isPartInOrder(part, log []impl.Command) bool {
	for _, c := range log {
		if len(part) > 0 && part[0] == c {
			part = part[1:]
		}
	}
	return len(part) == 0
}

// Promise 107, and that ignored paths can be taken one after the other, in any order.
func TestMoreIgnoredPathsKeepNoMore(t *testing.T) {
	r := rand.New(rand.NewSource(62))
	fewer := 0
	for _, f := range ignorings() {
		for _, ignores := range [][]string{nil, {}} {
			if kept, held := impl.FilterKeep(f.log, ignores), impl.FilterHold(f.log, ignores); !slices.Equal(kept, f.log) || len(held) > 0 {
				t.Errorf("FilterKeep of %q without ignored paths is %q, and FilterHold is %q", lineOf(f.log), lineOf(kept), lineOf(held))
			}
		}
		last := f.log
		for k := range len(f.ignores) + 1 {
			kept := impl.FilterKeep(f.log, f.ignores[:k])
			if len(kept) > len(last) || !isPartInOrder(kept, last) {
				t.Errorf("FilterKeep of %v, the first %d of them, is %q, and without the last one it is %q", f, k, lineOf(kept), lineOf(last))
			}
			if k > 0 && !slices.Equal(kept, impl.FilterKeep(last, f.ignores[k-1:k])) {
				t.Errorf("FilterKeep of %v, the first %d of them, is %q, and that of %q is another one", f, k, lineOf(kept), lineOf(last))
			}
			if len(kept) < len(last) {
				fewer++
			}
			last = kept
		}
		other := slices.Clone(f.ignores)
		r.Shuffle(len(other), func(i, j int) { other[i], other[j] = other[j], other[i] })
		if got := impl.FilterKeep(f.log, other); !slices.Equal(got, last) {
			t.Errorf("FilterKeep of %v is %q, and in another order %q", f, lineOf(last), lineOf(got))
		}
	}
	if fewer < 1000 {
		t.Errorf("only %d times less was kept", fewer)
	}
}

// What is kept is kept once more, and what is held is held.
func TestFiltersOfWhatIsFiltered(t *testing.T) {
	for i, f := range ignorings() {
		if i%3 > 0 {
			continue
		}
		kept, held := impl.FilterKeep(f.log, f.ignores), impl.FilterHold(f.log, f.ignores)
		if again, other := impl.FilterKeep(kept, f.ignores), impl.FilterHold(kept, f.ignores); !slices.Equal(again, kept) || len(other) > 0 {
			t.Errorf("%v: of %q, %q is kept and %q is held", f, lineOf(kept), lineOf(again), lineOf(other))
		}
		if again, other := impl.FilterHold(held, f.ignores), impl.FilterKeep(held, f.ignores); !slices.Equal(again, held) || len(other) > 0 {
			t.Errorf("%v: of %q, %q is held and %q is kept", f, lineOf(held), lineOf(again), lineOf(other))
		}
	}
}

// logsToFilter returns logs that fit their trees, among them those of trees with about NodeMax nodes.
func logsToFilter() []logged {
	var list []logged
	for i, l := range logsThatFit() {
		if i%2 == 0 || len(l.log) > 3 {
			list = append(list, l)
		}
	}
	for i, p := range pairings() {
		if i%2 == 0 {
			list = append(list, logged{p.tree, p.a})
		}
	}
	return list
}

// pathsToIgnore returns the paths of a log, those above and beneath them, and others.
func pathsToIgnore(log []impl.Command) []string {
	var paths []string
	for _, p := range pathsOf(log) {
		for ; p != "/"; p = parentOf(p) {
			paths = append(paths, p)
		}
	}
	for _, c := range log {
		if len(c.Path) < 8 {
			paths = append(paths, c.Path+"/b")
		}
	}
	paths = append(paths, "/a", "/c/d", "/d/d/a")
	slices.Sort(paths)
	return slices.Compact(paths)
}

// Promise 106.
func TestWhatIsKeptFitsTheTree(t *testing.T) {
	fits, full := 0, 0
	for _, l := range logsToFilter() {
		canon, ok := impl.LogCanon(l.log)
		if !ok || !impl.LogFits(l.tree, l.log) {
			t.Fatalf("%v does not fit", l)
		}
		for _, p := range pathsToIgnore(canon) {
			kept := impl.FilterKeep(canon, []string{p})
			after, done := impl.LogApply(l.tree, kept)
			if !sameInside(l.tree, after, p) {
				t.Errorf("%v: what is kept without %q, %q, leads to %v", l, p, lineOf(kept), after)
			}
			switch {
			case done == len(kept) && impl.LogFits(l.tree, kept):
				fits++
			case done >= 0 && done < len(kept) && len(after) == impl.NodeMax && kept[done].From == none:
				full++
			default:
				t.Errorf("%v: what is kept without %q, %q, leads to %v after %d commands", l, p, lineOf(kept), after, done)
			}
		}
	}
	if fits < 10000 || full < 100 {
		t.Errorf("%d logs fit, and %d find NodeMax nodes", fits, full)
	}
}

// sameInside tells whether two trees have the same at a path and under it.
func sameInside(a, b []impl.Node, p string) bool {
	return !slices.ContainsFunc(changedOfFew(a, b), func(q string) bool { return isInside(q, p) })
}

// changedOfFew returns the paths at which two trees differ, in any order.
func changedOfFew(a, b []impl.Node) []string {
	before, after := contentsOf(a), contentsOf(b)
	var paths []string
	for _, n := range slices.Concat(a, b) {
		if before[n.Path] != after[n.Path] {
			paths = append(paths, n.Path)
		}
	}
	return paths
}

// It breaks only if there are NodeMax nodes: what would have made room is held.
func TestWhatIsKeptOfAFullTree(t *testing.T) {
	for _, r := range []struct {
		tree, log, ignored string
		fits               bool
	}{
		{ten, "/a f1 -, /d/d/c - f2", "/a", false},
		{ten, "/a f1 -, /d/d/c - f2", "/b", true},
		{ten, "/a f1 -, /d/d/c - f2", "/d/d/c", true},
		{ten, "/a f1 -, /d/d/c - f2", "/a/b", false},
		{ten, "/a f1 -, /d/d/c - f2", "/d", true},
		{nine, "/a f1 -, /d/d/c - f2", "/a", true},
		{nine, "/a f1 -, /d/d/c - f2, /d/d/d - f3", "/a", false},
		{nine, "/a f1 -, /d/d/c - f2, /d/d/d - f3", "/d/d/d", true},
	} {
		l := logged{treeFrom(r.tree), logFrom(r.log)}
		if !impl.LogFits(l.tree, l.log) || !impl.CanonValid(l.log) {
			t.Fatalf("%v does not fit", l)
		}
		kept := impl.FilterKeep(l.log, []string{r.ignored})
		if got := impl.LogFits(l.tree, kept); got != r.fits {
			t.Errorf("what is kept of %v without %q, %q, fits is %v", l, r.ignored, lineOf(kept), got)
		}
	}
}

// Logs that are invalid have nothing, whatever is ignored.
func TestFiltersOfInvalidLogs(t *testing.T) {
	lists := [][]string{nil, {}, {"/a"}, {"/b"}, {"/d/d/d/d"}, pathsFrom("/a /b /c /d"), pathsFrom("/c /a/b /a/b"), {"/"}, {"/e"}, pathsFrom("/a /b /c /d /a/a")}
	for _, log := range notLogs() {
		for _, ignores := range lists {
			ignoring{log, ignores}.hasNothing(t)
		}
	}
}

// Paths that can not be ignored leave nothing of a log, whatever its commands are.
func TestFiltersOfInvalidPaths(t *testing.T) {
	logs := [][]impl.Command{nil, logFrom("/a - f1"), logFrom("/d/d f1 -, /b - d"), valueLog(impl.LogMax), valueLog(impl.LogMax + 1), {{}},
		{commandFrom("/a - d"), {Path: "/", From: dir, To: none}}, sameAt(pathsUnder("/a", impl.LogMax), "d", "-")}
	for _, ignores := range notIgnores() {
		for _, log := range logs {
			ignoring{log, ignores}.hasNothing(t)
		}
	}
	for i, f := range ignorings() {
		if i%7 > 0 {
			continue
		}
		for _, bad := range []string{"/", "", "/e", "/a/", "/ab"} {
			for k := range len(f.ignores) + 1 {
				ignoring{f.log, slices.Insert(slices.Clone(f.ignores), k, bad)}.hasNothing(t)
			}
		}
		more := slices.Repeat([]string{"/c/c/c"}, impl.IgnoreMax+1-len(f.ignores))
		ignoring{f.log, slices.Concat(f.ignores, more)}.hasNothing(t)
		ignoring{f.log, slices.Concat(more, f.ignores)}.hasNothing(t)
	}
}

// The same call gives the same answer each time it is made.
func TestFiltersAreTheSameEachTime(t *testing.T) {
	for i, f := range ignorings() {
		if i%11 > 0 {
			continue
		}
		for range 3 {
			f.check(t)
			ignoring{f.log, []string{"/"}}.hasNothing(t)
			ignoring{append(slices.Clone(f.log), impl.Command{}), f.ignores}.hasNothing(t)
			if !impl.IgnoresValid(f.ignores) || impl.IgnoresValid(append([]string{"/"}, f.ignores...)) {
				t.Errorf("IgnoresValid of %q has changed", f.ignores)
			}
		}
	}
}

// Calls change neither logs and paths, nor what is behind them, nor each other's results.
func TestFiltersShareNoMemory(t *testing.T) {
	list := slices.Clone(ignorings())
	for i, log := range notLogs() {
		if i%20 == 0 {
			list = append(list, ignoring{log, []string{"/a"}})
		}
	}
	for i, ignores := range notIgnores() {
		if i%5 == 0 {
			list = append(list, ignoring{logFrom("/a - f1, /b - d"), ignores})
		}
	}
	for _, f := range list {
		log, commands := markedCommands(f.log)
		ignores, texts := markedTexts(f.ignores)
		commandsBefore, textsBefore := slices.Clone(commands), slices.Clone(texts)
		wantKept, wantHeld := f.parted()

		impl.IgnoresValid(ignores)
		kept, again := impl.FilterKeep(log, ignores), impl.FilterKeep(log, ignores)
		held, twice := impl.FilterHold(log, ignores), impl.FilterHold(log, ignores)
		overwriteCommands(kept)
		if !slices.Equal(held, wantHeld) || !slices.Equal(twice, wantHeld) || !slices.Equal(again, wantKept) {
			t.Fatalf("%s: FilterKeep is %q, and FilterHold is %q", shown(f), lineOf(again), lineOf(held))
		}
		overwriteCommands(held)
		if !slices.Equal(twice, wantHeld) || !slices.Equal(again, wantKept) {
			t.Fatalf("%s: FilterKeep is %q, and FilterHold is %q", shown(f), lineOf(again), lineOf(twice))
		}
		if !slices.Equal(commands, commandsBefore) || !slices.Equal(texts, textsBefore) {
			t.Fatalf("%s has changed: %s, %s", shown(f), shown(commands), shown(texts))
		}
		// Nor do results change if the arguments do.
		overwriteCommands(log)
		for i := range texts {
			texts[i] = "/d"
		}
		if !slices.Equal(twice, wantHeld) || !slices.Equal(again, wantKept) {
			t.Fatalf("%s: with other arguments, FilterKeep is %q, and FilterHold is %q", shown(f), lineOf(again), lineOf(twice))
		}
	}
}
