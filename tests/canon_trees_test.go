package tests

import (
	"slices"
	"strings"
	"testing"

	"loop.example/filereconciler/impl"
)

var diffRows = []struct {
	what, a, b, log string
}{
	{"two empty trees", "", "", ""},
	{"equal trees", "/a=d /a/b=f1 /c=f2", "/a=d /a/b=f1 /c=f2", ""},
	{"equal full trees", full, full, ""},
	{"a file from nothing", "", "/a=f0", "/a - f0"},
	{"nothing from a file", "/a=f0", "", "/a f0 -"},
	{"another value", "/a=f0 /b=d", "/a=f1 /b=d", "/a f0 f1"},
	{"a file becomes a directory", "/a=f0", "/a=d", "/a f0 d"},
	{"a directory becomes a file", "/a=d", "/a=f0", "/a d f0"},
	{"one node more", "/a=d /c=d", "/a=d /a/a=f1 /c=d", "/a/a - f1"},
	{"a tree from nothing", "", full, fullMade},
	{"nothing from a tree", full, "", fullEmptied},
	{"a directory with files becomes a file", "/a=d /a/b=f1 /a/c=f2", "/a=f3", "/a/c f2 -, /a/b f1 -, /a d f3"},
	{"a file becomes a directory with files", "/a=f3", "/a=d /a/b=f1 /a/c=f2", "/a f3 d, /a/b - f1, /a/c - f2"},
	{"a directory with directories becomes a file", "/b=d /b/a=d /b/a/b=d /b/d=f1", "/b=f9", "/b/d f1 -, /b/a/b d -, /b/a d -, /b d f9"},
	{"a directory in a directory becomes a file", "/b=d /b/a=d /b/a/b=d /b/d=f1", "/b=d /b/a=f9 /b/d=f1", "/b/a/b d -, /b/a d f9"},
	{"a directory is elsewhere", "/a=d /a/a=f1", "/b=d /b/a=f1", "/a/a f1 -, /a d -, /b - d, /b/a - f1"},
	{"a directory is where a file was, and the other way", "/a=d /a/a=f1 /b=f2", "/a=f2 /b=d /b/a=f1", "/a/a f1 -, /a d f2, /b f2 d, /b/a - f1"},
	{"all files have another value", "/a=f1 /b=f1 /c=f1 /d=f1", "/a=f2 /b=f3 /c=f4 /d=f5", "/a f1 f2, /b f1 f3, /c f1 f4, /d f1 f5"},
	{"something of all kinds", "/a=d /b=d /b/b=f1 /c=f1 /d=f2", "/a=f1 /b=d /b/a=d /c=d /c/c=f3 /d=f3", "/b/b f1 -, /a d f1, /b/a - d, /c f1 d, /c/c - f3, /d f2 f3"},
	{"a full tree in place of another one", apartTrees[0], apartTrees[1],
		"/a/d/a f4 -, /a/d d -, /a/c/d f3 -, /a/c d -, /a/b f2 -, /a/a/a/b d -, /a/a/a/a f1 -, /a/a/a d -, /a/a d -, /a d -, " +
			"/b - d, /b/a - f1, /b/b - d, /b/b/c - d, /b/b/c/d - f0, /c - d, /c/a - d, /c/a/a - f5, /c/b - f99, /c/d - d"},
}

func TestCanonDiffTable(t *testing.T) {
	for _, r := range diffRows {
		a, b := treeFrom(r.a), treeFrom(r.b)
		if !isTree(a) || !isTree(b) || strings.Contains(r.what, "full tree") && len(a)+len(b) != 2*impl.NodeMax {
			t.Errorf("%s: the trees are %v and %v", r.what, a, b)
		}
		if got, ok := impl.CanonDiff(a, b); !ok || lineOf(got) != r.log {
			t.Errorf("%s: CanonDiff(%v, %v) is %q, %v", r.what, a, b, lineOf(got), ok)
		}
		if got := diffOf(a, b); lineOf(got) != r.log {
			t.Errorf("%s: diffOf(%v, %v) is %q", r.what, a, b, lineOf(got))
		}
	}
}

// Promise 60.
func TestCanonDiffLeadsToTheOtherTree(t *testing.T) {
	counts := map[int]int{}
	for _, pair := range pairsForCanon() {
		a, b := pair[0], pair[1]
		log, ok := impl.CanonDiff(a, b)
		if !ok || !slices.Equal(log, diffOf(a, b)) || !impl.CanonValid(log) || !isCanon(log) {
			t.Errorf("CanonDiff(%v, %v) is %q, %v", a, b, lineOf(log), ok)
		}
		if after, done := impl.LogApply(a, log); done != len(log) || !sameNodes(after, b) || !impl.LogFits(a, log) {
			t.Errorf("CanonDiff(%v, %v) is %q, and leads to %v, %d", a, b, lineOf(log), after, done)
		}
		counts[len(log)]++
	}
	for n := range impl.LogMax + 1 {
		if counts[n] == 0 {
			t.Errorf("%v: no trees differ at %d paths", counts, n)
		}
	}
}

// Promise 61.
func TestLogCanonIsCanonDiffOfTheTrees(t *testing.T) {
	for _, l := range logsThatFit() {
		after, _ := logApplyOf(l.tree, l.log)
		canon, ok := impl.LogCanon(l.log)
		diff, fine := impl.CanonDiff(l.tree, after)
		if !ok || !fine || !slices.Equal(canon, diff) {
			t.Errorf("LogCanon of %v is %q, %v, and CanonDiff is %q, %v", l, lineOf(canon), ok, lineOf(diff), fine)
		}
	}
}

// Promise 65.
func TestCanonDiffOfTreesExchanged(t *testing.T) {
	for _, pair := range pairsForCanon() {
		there, ok := impl.CanonDiff(pair[0], pair[1])
		back, fine := impl.CanonDiff(pair[1], pair[0])
		if !ok || !fine || !sameCommands(there, logUndoOf(back)) {
			t.Errorf("CanonDiff of %v is %q, %v, and exchanged %q, %v", pair, lineOf(there), ok, lineOf(back), fine)
		}
	}
}

func TestCanonDiffOfTreesThatAreNone(t *testing.T) {
	good := [][]impl.Node{nil, {}, treeFrom("/a=d"), treeFrom("/a=d /a/b=f1"), treeFrom(full)}
	fails := func(what string, a, b []impl.Node) {
		if got, ok := impl.CanonDiff(a, b); ok || len(got) > 0 {
			t.Errorf("%.60q: CanonDiff(%s, %s) is %s, %v", what, shown(a), shown(b), shown(got), ok)
		}
	}
	for what, bad := range notTrees() {
		for _, tree := range good {
			fails(what, bad, tree)
			fails(what, tree, bad)
		}
		fails(what, bad, bad)
		fails(what, bad, slices.Clone(bad))
		fails(what, bad, treeFrom("/b=d /a=d"))
		fails(what, treeFrom("/a/b=f1"), bad)
	}
}

var joinRows = []struct {
	what, a, b, log string
}{
	{"nothing", "", "", ""},
	{"nothing and a log", "", "/b - f1, /a - d", "/a - d, /b - f1"},
	{"a log and nothing", "/a f1 -, /b f1 -", "", "/b f1 -, /a f1 -"},
	{"other paths", "/b - f1", "/a - f1", "/a - f1, /b - f1"},
	{"other paths that end something", "/a f1 -", "/b d -", "/b d -, /a f1 -"},
	{"the second one comes first", "/a - d, /b - d", "/d f1 -, /c f1 -", "/d f1 -, /c f1 -, /a - d, /b - d"},
	{"the second one goes on", "/a - d", "/a d f1", "/a - f1"},
	{"the second one goes on, others between", "/a - d, /c - f1", "/b - d, /a d f1", "/a - f1, /b - d, /c - f1"},
	{"the second one takes back", "/a - d, /a/b - f1", "/a/b f1 -, /a d -", ""},
	{"the second one takes back, in the wrong order", "/a - d, /a/b - f1", "/a d -, /a/b f1 -", ""},
	{"the second one takes a part back", "/a - d, /a/b - f1", "/a/b f1 -", "/a - d"},
	{"several commands in both", "/a - f1, /a f1 f2, /b f1 f2", "/a f2 f3, /b f2 f3, /a f3 d, /b f3 -", "/b f1 -, /a - d"},
	{"the first one makes nothing", "/a - f1, /a f1 -", "/a - f2", "/a - f2"},
	{"the second one makes nothing", "/a - f1", "/a f1 f2, /a f2 f1", "/a - f1"},
	{"both make nothing", "/a - f1, /a f1 -", "/a - d, /a d -", ""},
	{"what ends something, and is made again", "/b d -, /a f1 -", "/a - d, /b - f1", "/b d f1, /a f1 d"},
}

func TestCanonJoinTable(t *testing.T) {
	for _, r := range joinRows {
		if got, ok := impl.CanonJoin(logFrom(r.a), logFrom(r.b)); !ok || lineOf(got) != r.log {
			t.Errorf("%s: CanonJoin of %q and %q is %q, %v", r.what, r.a, r.b, lineOf(got), ok)
		}
	}
}

// joinFails tells that CanonJoin has nothing for two logs.
func joinFails(t *testing.T, what string, a, b []impl.Command) {
	t.Helper()
	if got, ok := impl.CanonJoin(a, b); ok || len(got) > 0 {
		t.Errorf("%s: CanonJoin of %s and %s is %s, %v", what, shown(lineOf(a)), shown(lineOf(b)), shown(got), ok)
	}
}

func TestCanonJoinFails(t *testing.T) {
	for _, r := range []struct{ what, a, b string }{
		{"the same command", "/a - f1", "/a - f1"},
		{"another value", "/a - f1", "/a f2 f3"},
		{"another value, others between", "/a - f1, /b - f1", "/c - f1, /a f2 f3"},
		{"the wrong way round", "/a f1 f2", "/a - f1"},
		{"the first one makes nothing", "/a - f1, /a f1 -", "/a f1 f2"},
		{"the second one makes nothing elsewhere", "/a - f1", "/a f2 f3, /a f3 f2"},
		{"both make nothing, but not at the same content", "/a - f1, /a f1 -", "/a d f1, /a f1 d"},
		{"the first one fails", "/a - f1, /a f2 f3", ""},
		{"the second one fails", "", "/a - f1, /a f2 f3"},
		{"the first one fails at another path", "/a - f1, /a f2 f3", "/b - d"},
		{"the second one fails at another path", "/b - d", "/a - f1, /a f2 f3"},
		{"the first one fails and the second one goes on", "/a - f1, /a f2 f3", "/a f3 f4"},
		{"one of several paths", "/a - d, /b - d, /c - d", "/a d -, /b f1 -, /c d -"},
	} {
		joinFails(t, r.what, logFrom(r.a), logFrom(r.b))
	}
	for _, log := range unchainedLogs() {
		joinFails(t, "a log that fails", log, nil)
		joinFails(t, "a log that fails", nil, log)
		joinFails(t, "a log that fails", log[:len(log)/2], log[len(log)/2:])
	}
}

func TestCanonJoinOfInvalidLogs(t *testing.T) {
	for _, bad := range notLogs() {
		for _, good := range [][]impl.Command{nil, {}, logFrom("/a - d"), logFrom("/c d f1, /b/b - f1"), bad} {
			joinFails(t, "an invalid log", bad, good)
			joinFails(t, "an invalid log", good, bad)
		}
	}
}

// Logs are too long together also if they change little or nothing, and if their canonical logs would have room.
func TestCanonJoinOfLogsThatAreTooLongTogether(t *testing.T) {
	for n := range impl.LogMax + 1 {
		for k := range impl.LogMax + 1 {
			wide, values := wideCanon(impl.LogMax*2, n), valueLog(impl.LogMax*2)
			back := slices.Repeat(logFrom("/a - f4, /a f4 -"), impl.LogMax)
			for _, log := range [][]impl.Command{wide[:n+k], values[:n+k], back[:n+k]} {
				if n+k > impl.LogMax {
					joinFails(t, "too many commands", log[:n], log[n:])
					continue
				}
				want, fine := canonOf(log)
				if got, ok := impl.CanonJoin(log[:n], log[n:]); !ok || !fine || !slices.Equal(got, want) {
					t.Errorf("CanonJoin of the first %d commands of %q and the others is %q, %v", n, lineOf(log), lineOf(got), ok)
				}
			}
		}
	}
}

// Promise 62.
func TestCanonJoinOfALogAndLogUndoIsEmpty(t *testing.T) {
	short, long := 0, 0
	for _, l := range logsThatFit() {
		undo := impl.LogUndo(l.log)
		if len(l.log) > impl.LogMax/2 {
			joinFails(t, "too many commands", l.log, undo)
			long++
			continue
		}
		if got, ok := impl.CanonJoin(l.log, undo); !ok || len(got) > 0 {
			t.Errorf("CanonJoin of %v and LogUndo is %q, %v", l, lineOf(got), ok)
		}
		if got, ok := impl.CanonJoin(undo, l.log); !ok || len(got) > 0 {
			t.Errorf("CanonJoin of LogUndo of %v and the log is %q, %v", l, lineOf(got), ok)
		}
		short++
	}
	if short < 500 || long < 100 {
		t.Errorf("%d logs are short, and %d are long", short, long)
	}
}

// pairsOfLogs returns logs that are cut in two parts, logs that go on, and logs that have little to do with each other.
func pairsOfLogs() [][2][]impl.Command {
	var pairs [][2][]impl.Command
	good := goodLogs()
	for i, log := range slices.Concat(good, unchainedLogs()) {
		for k := range len(log) + 1 {
			// A part of the places is enough for logs that are many.
			if (i+k)%5 == 0 || len(log) < 3 {
				pairs = append(pairs, [2][]impl.Command{log[:k], log[k:]})
			}
		}
		other := good[i*31%len(good)]
		pairs = append(pairs, [2][]impl.Command{log, other}, [2][]impl.Command{other, log}, [2][]impl.Command{log, logUndoOf(log)})
	}
	return pairs
}

// Promise 63.
func TestCanonJoinOfCanonicalLogs(t *testing.T) {
	joined, failed := 0, 0
	for _, pair := range pairsOfLogs() {
		a, b := pair[0], pair[1]
		want, fine := canonOf(slices.Concat(a, b))
		got, ok := impl.CanonJoin(a, b)
		if ok != fine || !slices.Equal(got, want) {
			t.Fatalf("CanonJoin of %q and %q is %q, %v", lineOf(a), lineOf(b), lineOf(got), ok)
		}
		if !ok {
			failed++
			continue
		}
		first, okFirst := impl.LogCanon(a)
		second, okSecond := impl.LogCanon(b)
		if !okFirst || !okSecond {
			t.Errorf("CanonJoin of %q and %q succeeds, and LogCanon is %v and %v", lineOf(a), lineOf(b), okFirst, okSecond)
		}
		if again, fine := impl.CanonJoin(first, second); !fine || !slices.Equal(again, got) {
			t.Errorf("CanonJoin of %q and %q is %q, and that of both canonical logs %q, %v", lineOf(a), lineOf(b), lineOf(got), lineOf(again), fine)
		}
		joined++
	}
	if joined < 2000 || failed < 2000 {
		t.Errorf("%d logs are joined, and %d are not", joined, failed)
	}
}

// Three trees, one behind the other: what leads from the first to the second one and on leads to the third one.
func TestCanonJoinOfDifferences(t *testing.T) {
	trees := nearTrees()
	for _, line := range append([]string{"", full, fullBehind}, apartTrees...) {
		trees = append(trees, treeFrom(line))
	}
	diffs := make([][][]impl.Command, len(trees))
	for i := range trees {
		for k := range trees {
			diffs[i] = append(diffs[i], diffOf(trees[i], trees[k]))
		}
	}
	for i := range trees {
		for j := range trees {
			for k := range trees {
				first, second := diffs[i][j], diffs[j][k]
				got, ok := impl.CanonJoin(first, second)
				if fine := len(first)+len(second) <= impl.LogMax; ok != fine || fine && !slices.Equal(got, diffs[i][k]) || !fine && len(got) > 0 {
					t.Errorf("CanonJoin of %q and %q is %q, %v", lineOf(first), lineOf(second), lineOf(got), ok)
				}
			}
		}
	}
}

// The same call gives the same answer, in whatever order a map is walked through.
func TestDifferencesAreTheSameEachTime(t *testing.T) {
	for i, pair := range pairsForCanon() {
		want := diffOf(pair[0], pair[1])
		if i%20 != 0 && len(want) < impl.LogMax-1 {
			continue
		}
		for range 20 {
			if got, ok := impl.CanonDiff(pair[0], pair[1]); !ok || !slices.Equal(got, want) {
				t.Fatalf("CanonDiff of %v is %q, %v", pair, lineOf(got), ok)
			}
			if got, ok := impl.CanonJoin(want[:len(want)/2], want[len(want)/2:]); !ok || !slices.Equal(got, want) {
				t.Fatalf("CanonJoin of the parts of %q is %q, %v", lineOf(want), lineOf(got), ok)
			}
		}
	}
}

// Calls change neither trees, nor what is behind them, nor each other's results.
func TestDifferencesShareNoMemory(t *testing.T) {
	for _, pair := range pairsForCanon() {
		a, first := markedNodes(pair[0])
		b, second := markedNodes(pair[1])
		firstBefore, secondBefore := slices.Clone(first), slices.Clone(second)
		log, _ := impl.CanonDiff(a, b)
		again, _ := impl.CanonDiff(a, b)
		overwriteCommands(log)
		if !slices.Equal(again, diffOf(pair[0], pair[1])) {
			t.Fatalf("CanonDiff of %v is %q", pair, lineOf(again))
		}
		if !slices.Equal(first, firstBefore) || !slices.Equal(second, secondBefore) {
			t.Fatalf("%v have changed: %v, %v", pair, first, second)
		}
	}
	for _, line := range []string{"/b=d /a=d", "/a/b=f1", "/a=d /a=d", "/a=d /a/b=- /b=f1", full + " /d/b=f1"} {
		list, array := markedNodes(treeFrom(line))
		before := slices.Clone(array)
		impl.CanonDiff(list, nil)
		impl.CanonDiff(nil, list)
		impl.CanonDiff(list, list)
		if !slices.Equal(array, before) {
			t.Errorf("%q has changed: %v", line, array)
		}
	}
}

// Calls change neither logs, nor what is behind them, where the other log would have room, nor each other's results.
func TestCanonJoinSharesNoMemory(t *testing.T) {
	for i, pair := range pairsOfLogs() {
		// All pairs take too long.
		if i%13 != 0 && len(pair[0]) > 0 && len(pair[1]) > 0 {
			continue
		}
		a, first := markedCommands(pair[0])
		b, second := markedCommands(pair[1])
		firstBefore, secondBefore := slices.Clone(first), slices.Clone(second)
		want, _ := canonOf(slices.Concat(pair[0], pair[1]))
		log, _ := impl.CanonJoin(a, b)
		again, _ := impl.CanonJoin(a, b)
		overwriteCommands(log)
		if !slices.Equal(again, want) {
			t.Fatalf("CanonJoin of %q and %q is %q", lineOf(pair[0]), lineOf(pair[1]), lineOf(again))
		}
		if !slices.Equal(first, firstBefore) || !slices.Equal(second, secondBefore) {
			t.Fatalf("%q or %q has changed: %v, %v", lineOf(pair[0]), lineOf(pair[1]), first, second)
		}
	}
	// Both logs may be parts of one array.
	whole := logFrom("/a - d, /b - d, /c d -, /b d -, /d - f1")
	before := slices.Clone(whole)
	got, ok := impl.CanonJoin(whole[:2], whole[2:4])
	if want := logFrom("/c d -, /a - d"); !ok || !slices.Equal(got, want) {
		t.Errorf("CanonJoin of parts of one array is %q, %v", lineOf(got), ok)
	}
	overwriteCommands(got)
	if !slices.Equal(whole, before) {
		t.Errorf("the array has changed: %q", lineOf(whole))
	}
}
