package tests

import (
	"slices"
	"strings"
	"testing"

	"loop.example/filereconciler/impl"
)

// fullEmptied takes the tree full apart, the last path first, and fullMade makes it.
const (
	fullEmptied = "/d/a f5 -, /d d -, /c f4 -, /b/a/a f3 -, /b/a d -, /b d -, /a/c f2 -, /a/b f1 -, /a/a d -, /a d -"
	fullMade    = "/a - d, /a/a - d, /a/b - f1, /a/c - f2, /b - d, /b/a - d, /b/a/a - f3, /c - f4, /d - d, /d/a - f5"
)

var logRows = []struct {
	what, tree, log, result string
	done                    int
}{
	{"nothing", "", "", "", 0},
	{"nothing on a tree", "/a=d /a/b=f1", "", "/a=d /a/b=f1", 0},
	{"nothing on a full tree", full, "", full, 0},
	{"one command", "", "/a - f4", "/a=f4", 1},
	{"one command on a full tree", full, "/c f4 d", strings.Replace(full, "/c=f4", "/c=d", 1), 1},
	{"a directory and what is in it", "", "/a - d, /a/b - f1", "/a=d /a/b=f1", 2},
	{"a directory in a directory, and so on", "", "/a - d, /a/b - d, /a/b/c - d, /a/b/c/d - d", "/a=d /a/b=d /a/b/c=d /a/b/c/d=d", 4},
	{"remove a file and its directory", "/a=d /a/b=f1", "/a/b f1 -, /a d -", "", 2},
	{"remove both, and make them again", "/a=d /a/b=f1", "/a/b f1 -, /a d -, /a - d, /a/b - f1", "/a=d /a/b=f1", 4},
	{"a command and what takes it back", "/b=d", "/a - f4, /a f4 -", "/b=d", 2},
	{"a command and what takes it back, twice", "/b=d", "/a - f4, /a f4 -, /a - f4, /a f4 -", "/b=d", 4},
	{"a command, what takes it back, and the command", "/b=d", "/b d f1, /b f1 d, /b d f1", "/b=f1", 3},
	{"values, one by one", "", "/a - f0, /a f0 f1, /a f1 f2, /a f2 f0", "/a=f0", 4},
	{"a file becomes a directory with files", "/a=f1", "/a f1 d, /a/a - f2, /a/b - f3", "/a=d /a/a=f2 /a/b=f3", 3},
	{"a directory is emptied and becomes a file", "/a=d /a/a=f1", "/a/a f1 -, /a d f1, /a f1 f2", "/a=f2", 3},
	{"a file goes elsewhere", "/a=f5 /b=d", "/b/a - f5, /a f5 -", "/b=d /b/a=f5", 2},
	{"two files change places", "/a=f1 /b=f2", "/c - f1, /a f1 f2, /b f2 f1, /c f1 -", "/a=f2 /b=f1", 4},
	{"fill a tree", "", fullMade, full, 10},
	{"take a full tree apart", full, fullEmptied, "", 10},
	{"take a full tree apart, and fill it", full, fullEmptied + ", " + fullMade, full, 20},
	{"remove a node of a full tree, and go on", full, "/d/a f5 -, /d/b - f6", strings.Replace(full, "/d/a=f5", "/d/b=f6", 1), 2},

	{"one command that breaks", "", "/a f4 f5", "", 0},
	{"one command that breaks on a tree", "/a=f4", "/a - f4", "/a=f4", 0},
	{"the first one breaks", "/b=d", "/a f1 f2, /b/a - f1, /b/b - d", "/b=d", 0},
	{"the first one breaks, and is done by another one", "/b=d", "/b/a/a - f1, /b/a - d, /b/a/a - f1", "/b=d", 0},
	{"the first one breaks on a full tree", full, "/d/d - d, /c f4 -, /d/d - d", full, 0},
	{"all of them break", "", "/a f1 f2, /b d -, /c/d - d", "", 0},
	{"what is in a directory, and the directory", "", "/a/b - f1, /a - d", "", 0},
	{"remove a directory, and what is in it", "/a=d /a/b=f1", "/a d -, /a/b f1 -", "/a=d /a/b=f1", 0},
	{"a full tree from the first path on", full, "/a d -, /d/a f5 -", full, 0},

	{"the second one breaks", "", "/a - f1, /a - f2", "/a=f1", 1},
	{"the same command twice", "", "/a - f4, /a - f4", "/a=f4", 1},
	{"the same command twice, and another one", "", "/a - f4, /a - f4, /b - f4", "/a=f4", 1},
	{"remove twice", "/a=f4 /b=f4", "/a f4 -, /a f4 -, /b f4 -", "/b=f4", 1},
	{"take a command back twice", "", "/a - f4, /a f4 -, /a f4 -", "", 2},
	{"a value too far", "/a=f0", "/a f0 f1, /a f2 f3, /a f1 f2", "/a=f1", 1},
	{"the middle one breaks", "/a=d", "/a/a - f1, /a/b - d, /a d -, /a/b/c - d, /b - d", "/a=d /a/a=f1 /a/b=d", 2},
	{"a file, and what is in it", "", "/a - f1, /a/b - f1, /a f1 d", "/a=f1", 1},
	{"a directory, what is in it, and the directory again", "", "/a - d, /a/b - f1, /a d f1, /a/b f1 -", "/a=d /a/b=f1", 2},
	{"the last one breaks", "/a=d", "/a/a - f1, /a/b - d, /a/b/c - d, /b f1 d", "/a=d /a/a=f1 /a/b=d /a/b/c=d", 3},
	{"the last one breaks for a file that is left", "/a=d /a/b=f1 /a/c=f2", "/a/b f1 -, /a d -", "/a=d /a/c=f2", 1},
	{"fill a tree and go on", "", fullMade + ", /d/b - f6", full, 10},
	{"fill a tree and go on and on", "", fullMade + ", /d/b - f6, /d/a f5 -, /d/b - f6", full, 10},
	{"fill a tree, change it and go on", strings.Replace(full, " /d/a=f5", "", 1), "/d/a - f5, /c f4 d, /c/a - f1", strings.Replace(full, "/c=f4", "/c=d", 1), 2},
	{"take a full tree apart and go on", full, fullEmptied + ", /a d -, /a - d", "", 10},
}

func TestLogApplyTable(t *testing.T) {
	for _, r := range logRows {
		l, want := logged{treeFrom(r.tree), logFrom(r.log)}, treeFrom(r.result)
		if lineOf(l.log) != r.log || strings.Contains(r.what, "full tree") && !slices.Contains([]int{len(l.tree), len(want)}, impl.NodeMax) {
			t.Errorf("%s: the log is %v", r.what, l)
		}
		if !impl.LogValid(l.log) {
			t.Errorf("%s: LogValid(%q) does not hold", r.what, r.log)
		}
		if got, done := impl.LogApply(l.tree, l.log); done != r.done || !sameNodes(got, want) {
			t.Errorf("%s: LogApply of %v is %v, %d", r.what, l, got, done)
		}
		if fits := impl.LogFits(l.tree, l.log); fits != (r.done == len(l.log)) {
			t.Errorf("%s: LogFits of %v is %v", r.what, l, fits)
		}
		if got, done := logApplyOf(l.tree, l.log); done != r.done || !sameNodes(got, want) {
			t.Errorf("%s: logApplyOf of %v is %v, %d", r.what, l, got, done)
		}
	}
}

func TestEmptyLogs(t *testing.T) {
	for _, tree := range manyTrees() {
		for _, log := range [][]impl.Command{nil, {}, make([]impl.Command, 0, 5), logFrom("/a - f1")[:0]} {
			if got, done := impl.LogApply(tree, log); done != 0 || !sameNodes(got, tree) {
				t.Errorf("LogApply of an empty log to %v is %v, %d", tree, got, done)
			}
			if !impl.LogFits(tree, log) || !impl.LogValid(log) {
				t.Errorf("an empty log does not fit %v", tree)
			}
			if got := impl.LogUndo(log); len(got) > 0 {
				t.Errorf("LogUndo of an empty log is %v", got)
			}
		}
	}
}

func TestLogApplyOfManyLogs(t *testing.T) {
	broken := map[string]int{}
	for _, l := range manyLogs() {
		got, done := impl.LogApply(l.tree, l.log)
		if want, n := logApplyOf(l.tree, l.log); done != n || !sameNodes(got, want) {
			t.Errorf("LogApply of %v is %v, %d", l, got, done)
		}
		if fits := impl.LogFits(l.tree, l.log); fits != (done == len(l.log)) {
			t.Errorf("LogFits of %v is %v, and %d commands are done", l, fits, done)
		}
		switch done {
		case len(l.log):
			broken["none"]++
		case 0:
			broken["first"]++
		case len(l.log) - 1:
			broken["last"]++
		default:
			broken["middle"]++
		}
	}
	for _, where := range []string{"none", "first", "middle", "last"} {
		if broken[where] < 100 {
			t.Errorf("the command that breaks is the first one, one between, the last one or none: %v", broken)
		}
	}
}

func TestWhatIsBehindTheBreakDoesNothing(t *testing.T) {
	for _, l := range slices.Concat(breakingLogs(), shortLogs()) {
		want, done := impl.LogApply(l.tree, l.log)
		if done == len(l.log) {
			continue
		}
		first := l.log[:done+1]
		fits := slices.Concat(logUndoOf(l.log[:done]), l.log[:done])
		for _, behind := range [][]impl.Command{nil, l.log[done:], logFrom("/a f1 f2"), fits, valueLog(impl.LogMax), slices.Repeat(logFrom("/a - d, /d d -"), 10)} {
			other := logged{l.tree, slices.Concat(first, behind)}
			other.log = other.log[:min(len(other.log), impl.LogMax)]
			if got, n := impl.LogApply(l.tree, other.log); n != done || !sameNodes(got, want) {
				t.Errorf("LogApply of %v is %v, %d, and that of %v is %v, %d", l, want, done, other, got, n)
			}
			if impl.LogFits(l.tree, other.log) {
				t.Errorf("LogFits of %v holds", other)
			}
		}
	}
}

// Promise 45.
func TestApplyOfALogInTwoParts(t *testing.T) {
	for _, l := range manyLogs() {
		want, total := impl.LogApply(l.tree, l.log)
		for k := range len(l.log) + 1 {
			got, done := impl.LogApply(l.tree, l.log[:k])
			if done == k {
				var more int
				got, more = impl.LogApply(got, l.log[k:])
				done += more
			}
			if done != total || !sameNodes(got, want) {
				t.Errorf("LogApply of %v, cut at %d, is %v, %d, not %v, %d", l, k, got, done, want, total)
			}
		}
	}
}

// Promise 46.
func TestTheNextCommandBreaks(t *testing.T) {
	places := map[int]bool{}
	for _, l := range manyLogs() {
		got, done := impl.LogApply(l.tree, l.log)
		if done < 0 || done > len(l.log) {
			t.Fatalf("LogApply of %v is %v, %d", l, got, done)
		}
		if done == len(l.log) {
			continue
		}
		places[done] = true
		if again, ok := impl.CommandApply(got, l.log[done]); ok || !sameNodes(again, got) {
			t.Errorf("LogApply of %v is %v, %d: the next command leads to %v", l, got, done, again)
		}
	}
	if len(places) != impl.LogMax {
		t.Errorf("commands break at %d places", len(places))
	}
}

// Promise 47.
func TestLogsChangeTheirPathsOnly(t *testing.T) {
	for _, l := range manyLogs() {
		got, done := impl.LogApply(l.tree, l.log)
		if !impl.TreeValid(got) || !isTree(got) {
			t.Errorf("LogApply of %v is %v, %d", l, got, done)
		}
		changed := impl.TreeChanged(l.tree, got)
		if !slices.Equal(changed, changedOf(l.tree, got)) {
			t.Errorf("LogApply of %v is %v: TreeChanged is %q", l, got, changed)
		}
		for _, p := range changed {
			if !slices.ContainsFunc(l.log[:done], func(c impl.Command) bool { return c.Path == p }) {
				t.Errorf("LogApply of %v is %v, %d: %q has changed", l, got, done, p)
			}
		}
	}
}

// Promise 48.
func TestApplyOfLogUndoLeadsBack(t *testing.T) {
	fitting := 0
	for _, l := range manyLogs() {
		if !impl.LogFits(l.tree, l.log) {
			continue
		}
		fitting++
		after, _ := impl.LogApply(l.tree, l.log)
		undo := impl.LogUndo(l.log)
		if back, done := impl.LogApply(after, undo); done != len(l.log) || !sameNodes(back, l.tree) || !impl.LogFits(after, undo) {
			t.Errorf("LogApply of LogUndo of %v to %v is %v, %d", l, after, back, done)
		}
	}
	if fitting < 600 {
		t.Errorf("%d logs fit", fitting)
	}
}

// Promise 49.
func TestFirstCommandsFit(t *testing.T) {
	for _, l := range manyLogs() {
		if !impl.LogFits(l.tree, l.log) {
			continue
		}
		for k := range len(l.log) + 1 {
			got, done := impl.LogApply(l.tree, l.log[:k])
			if done != k || !impl.LogFits(l.tree, l.log[:k]) {
				t.Errorf("LogApply of the first %d commands of %v is %v, %d", k, l, got, done)
			}
		}
	}
}

// Promise 50.
func TestUndoOfLogUndoIsTheLog(t *testing.T) {
	for _, log := range anyLogs() {
		undo := impl.LogUndo(log)
		if !slices.Equal(undo, logUndoOf(log)) || !impl.LogValid(undo) {
			t.Errorf("LogUndo of %q is %q", lineOf(log), lineOf(undo))
		}
		if again := impl.LogUndo(undo); !slices.Equal(again, log) {
			t.Errorf("LogUndo of LogUndo of %q is %q", lineOf(log), lineOf(again))
		}
	}
}

func TestLogUndoTable(t *testing.T) {
	for line, undo := range map[string]string{
		"":                   "",
		"/a - f4":            "/a f4 -",
		"/a - d, /a/b - f1":  "/a/b f1 -, /a d -",
		"/a - d, /a - d":     "/a d -, /a d -",
		"/a f1 f2, /a f2 f3": "/a f3 f2, /a f2 f1",
		"/c - d, /a f1 f2, /b/c d f3, /a/b/c/d f99 -": "/a/b/c/d - f99, /b/c f3 d, /a f2 f1, /c d -",
	} {
		if got := impl.LogUndo(logFrom(line)); lineOf(got) != undo {
			t.Errorf("LogUndo of %q is %q", line, lineOf(got))
		}
	}
}

// Promise 51.
func TestLogsWithoutACommandOrWithOneThatChangesNothing(t *testing.T) {
	for _, log := range anyLogs() {
		if !impl.LogValid(log) || !isLog(log) {
			t.Errorf("LogValid of %q does not hold", lineOf(log))
		}
		for k, c := range log {
			if fewer := slices.Delete(slices.Clone(log), k, k+1); !impl.LogValid(fewer) {
				t.Errorf("LogValid of %q does not hold", lineOf(fewer))
			}
			for _, same := range []impl.Content{c.From, c.To} {
				l := logged{nil, log}.with(k, impl.Command{Path: c.Path, From: same, To: same})
				if impl.LogValid(l.log) {
					t.Errorf("LogValid of %q holds", lineOf(l.log))
				}
			}
		}
	}
}

func TestLogsOfAllLengths(t *testing.T) {
	for n := range impl.LogMax + 1 {
		log := valueLog(n)
		want := []impl.Node{{Path: "/a", Content: fileOf(n - 1)}}[:min(n, 1)]
		if got, done := impl.LogApply(nil, log); done != n || !sameNodes(got, want) || !impl.LogValid(log) || !impl.LogFits(nil, log) {
			t.Errorf("LogApply of %q is %v, %d", lineOf(log), got, done)
		}
		if undo := impl.LogUndo(log); len(undo) != n {
			t.Errorf("LogUndo of %q is %q", lineOf(log), lineOf(undo))
		}
	}
	for _, log := range longLogs() {
		if slices.ContainsFunc(log, func(c impl.Command) bool { return !isCommand(c) }) || len(log) <= impl.LogMax {
			t.Errorf("%.200q is not just too long", lineOf(log))
		}
		if !impl.LogValid(log[:impl.LogMax]) || !impl.LogValid(log[len(log)-impl.LogMax:]) {
			t.Errorf("the first or last commands of %.200q are invalid", lineOf(log))
		}
	}
}

func TestInvalidLogs(t *testing.T) {
	trees := [][]impl.Node{nil, treeFrom("/a=d"), treeFrom("/a=f1 /b=d"), treeFrom(full)}
	for _, log := range notLogs() {
		if isLog(log) {
			t.Fatalf("%q is a log", lineOf(log))
		}
		if impl.LogValid(log) {
			t.Errorf("LogValid of %s holds", shown(log))
		}
		if got := impl.LogUndo(log); len(got) > 0 {
			t.Errorf("LogUndo of %s is %s", shown(log), shown(got))
		}
		for _, tree := range trees {
			if got, done := impl.LogApply(tree, log); done != -1 || len(got) > 0 {
				t.Errorf("LogApply of %s to %v is %v, %d", shown(log), tree, got, done)
			}
			if impl.LogFits(tree, log) {
				t.Errorf("LogFits of %s holds on %v", shown(log), tree)
			}
		}
	}
}

func TestLogsOnInvalidTrees(t *testing.T) {
	logs := [][]impl.Command{nil, {}, logFrom("/a - f1"), logFrom("/a d -"), logFrom("/b d -, /a d -"), logFrom("/a f3 f4, /b - d"), logFrom("/a - d, /a/b - f1"),
		valueLog(impl.LogMax), valueLog(impl.LogMax + 1), {{}}, {{Path: "/", From: dir, To: none}}, {{Path: "/a", From: dir, To: dir}}, {commandFrom("/a d -"), {}}}
	for what, tree := range notTrees() {
		for _, log := range logs {
			if got, done := impl.LogApply(tree, log); done != -1 || len(got) > 0 {
				t.Errorf("%.60q: LogApply of %q is %s, %d", what, lineOf(log), shown(got), done)
			}
			if impl.LogFits(tree, log) {
				t.Errorf("%.60q: LogFits of %q holds", what, lineOf(log))
			}
		}
	}
}

// Calls change neither trees and logs, nor what is behind them, nor each other's results.
func TestLogsShareNoMemory(t *testing.T) {
	for _, l := range slices.Concat(fittingLogs(), breakingLogs()) {
		tree, nodes := markedNodes(l.tree)
		log, commands := markedCommands(l.log)
		nodesBefore, commandsBefore := slices.Clone(nodes), slices.Clone(commands)
		want, done := logApplyOf(l.tree, l.log)

		impl.LogValid(log)
		impl.LogFits(tree, log)
		first, _ := impl.LogApply(tree, log)
		second, n := impl.LogApply(tree, log)
		overwriteNodes(first)
		if n != done || !sameNodes(second, want) {
			t.Fatalf("LogApply of %v is %v, %d", l, second, n)
		}

		undo, again := impl.LogUndo(log), impl.LogUndo(log)
		overwriteCommands(undo)
		if !slices.Equal(again, logUndoOf(l.log)) {
			t.Fatalf("LogUndo of %v is %q", l, lineOf(again))
		}
		if !slices.Equal(nodes, nodesBefore) || !slices.Equal(commands, commandsBefore) {
			t.Fatalf("%v has changed: %v, %v", l, nodes, commands)
		}
	}
}

// Logs that are invalid are left as they are, too.
func TestInvalidLogsAreNotChanged(t *testing.T) {
	for _, list := range [][]impl.Command{valueLog(impl.LogMax + 1), {{}, commandFrom("/a - d")}, {commandFrom("/a - d"), {Path: "/", To: dir}}} {
		log, commands := markedCommands(list)
		before := slices.Clone(commands)
		impl.LogValid(log)
		impl.LogFits(nil, log)
		tree, _ := impl.LogApply(nil, log)
		overwriteNodes(tree)
		overwriteCommands(impl.LogUndo(log))
		if !slices.Equal(commands, before) {
			t.Errorf("%q has changed: %v", lineOf(list), commands)
		}
	}
}
