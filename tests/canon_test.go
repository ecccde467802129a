package tests

import (
	"fmt"
	"slices"
	"strings"
	"testing"

	"loop.example/filereconciler/impl"
)

var canonRows = []struct {
	what, log, canon string
}{
	{"nothing", "", ""},
	{"make a file", "/a - f4", "/a - f4"},
	{"make a directory", "/a/b - d", "/a/b - d"},
	{"remove a file", "/a f4 -", "/a f4 -"},
	{"remove a directory", "/d/d/d/d d -", "/d/d/d/d d -"},
	{"a file changes", "/a f0 f1", "/a f0 f1"},
	{"a directory becomes a file", "/a d f0", "/a d f0"},
	{"a file becomes a directory", "/a f0 d", "/a f0 d"},

	{"two commands on a path", "/a - d, /a d f1", "/a - f1"},
	{"two commands on a path, and another one between", "/a - d, /b - f3, /a d f1", "/a - f1, /b - f3"},
	{"two commands on a path, and its parent between", "/a/b f1 f2, /a d f1, /a/b f2 f3", "/a d f1, /a/b f1 f3"},
	{"two commands on a path, and one under it between", "/a - d, /a/b - f1, /a d f2", "/a - f2, /a/b - f1"},
	{"two commands on each path", "/a - f1, /b f5 d, /b d f6, /a f1 f2", "/a - f2, /b f5 f6"},
	{"two commands on each path, in turn", "/b f5 d, /a - f1, /b d f6, /a f1 f2", "/a - f2, /b f5 f6"},
	{"three commands on a path", "/a f1 d, /a d -, /a - f2", "/a f1 f2"},
	{"three commands on a path, and others between", "/b - d, /a f1 d, /b d f3, /c - d, /a d -, /d d -, /a - f2, /d - f9", "/d d f9, /a f1 f2, /b - f3, /c - d"},
	{"three commands of which two make nothing together", "/a - f1, /a f1 -, /a - f2", "/a - f2"},
	{"three commands of which the last two make nothing together", "/a - f1, /a f1 d, /a d f1", "/a - f1"},
	{"from the first one, to the last one", "/a d f1, /a f1 f2, /a f2 f3, /a f3 -", "/a d -"},
	{"many commands on a path", "/a - f0, /a f0 f1, /a f1 f2, /a f2 f3, /a f3 f4, /a f4 f5, /a f5 f6, /a f6 f7, /a f7 f8, /a f8 d", "/a - d"},

	{"a command and what takes it back", "/a - f1, /a f1 -", ""},
	{"a directory that is a file for a while", "/a d f1, /a f1 d", ""},
	{"a file that is nothing for a while", "/a f1 -, /a - f1", ""},
	{"values, and back to the first one", "/a f1 f2, /a f2 f3, /a f3 f1", ""},
	{"a command and what takes it back, twice", "/a - f1, /a f1 -, /a - f1, /a f1 -", ""},
	{"a command and what takes it back, and the command", "/a d f1, /a f1 d, /a d f1", "/a d f1"},
	{"commands that make nothing together, and others between", "/a - f1, /b - d, /a f1 -", "/b - d"},
	{"commands that make nothing together, and others around", "/c f1 -, /a - f1, /a f1 -, /b - d", "/c f1 -, /b - d"},
	{"two paths that are as they were", "/a - d, /a/b - f1, /a/b f1 -, /a d -", ""},
	{"two paths in turn that are as they were", "/a - d, /b f1 f2, /a d -, /b f2 f1", ""},
	{"a file in a directory that is as it was", "/a/b f1 -, /a d -, /a - d, /a/b - f2", "/a/b f1 f2"},

	{"two files that are removed", "/a f1 -, /b f2 -", "/b f2 -, /a f1 -"},
	{"two files that are made", "/b - f2, /a - f1", "/a - f1, /b - f2"},
	{"make and remove", "/a - f1, /b f2 -", "/b f2 -, /a - f1"},
	{"change and remove", "/a f1 f2, /b f2 -", "/b f2 -, /a f1 f2"},
	{"a directory that becomes a file comes first", "/a - f1, /b d f2", "/b d f2, /a - f1"},
	{"a file that becomes a directory does not", "/b f2 d, /a - f1", "/a - f1, /b f2 d"},
	{"a directory that becomes a file, and one that is removed", "/a d -, /b d f1", "/b d f1, /a d -"},
	{"a directory that is removed, and one that becomes a file", "/a d f1, /b d -", "/b d -, /a d f1"},
	{"all at once, from the first path on", "/a d f1, /b f1 d, /c d -, /d f2 -, /d/d f3 f4, /d/d/d - d", "/d f2 -, /c d -, /a d f1, /b f1 d, /d/d f3 f4, /d/d/d - d"},
	{"all at once, the other way", "/d/d/d d f1, /d/d f1 d, /d d -, /c f2 -, /b f3 f4, /a - d", "/d/d/d d f1, /d d -, /c f2 -, /a - d, /b f3 f4, /d/d f1 d"},
	{"a directory and what is in it are removed", "/a d -, /a/b f1 -, /a/c d -", "/a/c d -, /a/b f1 -, /a d -"},
	{"a directory and what is in it are made", "/a/b - f1, /a/c - d, /a - d", "/a - d, /a/b - f1, /a/c - d"},
	{"a directory becomes a file, and what is in it is removed", "/a d f1, /a/b f1 -", "/a/b f1 -, /a d f1"},
	{"a file becomes a directory with a file", "/a/b - f1, /a f1 d", "/a f1 d, /a/b - f1"},
	{"a path that begins as another one, up", "/a/a - d, /a - d, /a/a/a - d, /b - d, /a/b - d", "/a - d, /a/a - d, /a/a/a - d, /a/b - d, /b - d"},
	{"a path that begins as another one, down", "/a/a d -, /a d -, /a/a/a d -, /b d -, /a/b d -", "/b d -, /a/b d -, /a/a/a d -, /a/a d -, /a d -"},
	{"shorter paths are not smaller", "/b - d, /a/d/d/d - d, /a/d - f1, /c - f1", "/a/d - f1, /a/d/d/d - d, /b - d, /c - f1"},
	{"what a path ends by several commands", "/a - f1, /b f1 d, /b d -", "/b f1 -, /a - f1"},
	{"what a path does not end by several commands", "/a f1 d, /b f2 d, /a d f2", "/a f1 f2, /b f2 d"},
	{"what ends something, and is made again", "/b d -, /a f1 -, /b - f1, /a - d", "/b d f1, /a f1 d"},
}

func TestLogCanonTable(t *testing.T) {
	for _, r := range canonRows {
		log, want := logFrom(r.log), logFrom(r.canon)
		if got, ok := impl.LogCanon(log); !ok || !slices.Equal(got, want) {
			t.Errorf("%s: LogCanon of %q is %q, %v", r.what, r.log, lineOf(got), ok)
		}
		if got, ok := canonOf(log); !ok || lineOf(got) != r.canon {
			t.Errorf("%s: canonOf(%q) is %q, %v", r.what, r.log, lineOf(got), ok)
		}
		if got := impl.CanonValid(log); got != (r.log == r.canon) {
			t.Errorf("%s: CanonValid of %q is %v", r.what, r.log, got)
		}
		if !impl.CanonValid(want) || !isCanon(want) {
			t.Errorf("%s: CanonValid of %q does not hold", r.what, r.canon)
		}
	}
}

// In each of these logs, a command does not go on where the one before it on its path has ended.
var unchainedRows = []struct{ what, log string }{
	{"the same command twice", "/a - f1, /a - f1"},
	{"the same command twice, and another one between", "/a - f1, /b - f1, /a - f1"},
	{"another value", "/a - f1, /a f2 f3"},
	{"another value, and others between", "/a - f1, /b f1 f2, /c f2 f3, /a f2 f3"},
	{"From of the first one", "/a f1 f2, /a f1 f3"},
	{"To of both is the same", "/a f1 f3, /a f2 f3"},
	{"a directory in place of a file", "/a - f1, /a d -"},
	{"a file in place of a directory", "/a - d, /a f0 -"},
	{"nothing in place of a file", "/a d f1, /a - d"},
	{"a file in place of nothing", "/a d -, /a f1 f2"},
	{"To of a command on another path", "/a - f1, /b - f2, /a f2 f3"},
	{"To of a command under it", "/a - d, /a/b - f1, /a f1 f2"},
	{"commands that make nothing together, and one from elsewhere", "/a - f1, /a f1 -, /a f1 f2"},
	{"commands that make nothing together, and the last one again", "/a f1 f2, /a f2 f1, /a f2 f1"},
	{"commands that make nothing together, others, and one from elsewhere", "/a - f1, /b - f1, /a f1 -, /c - f1, /a f5 f6"},
	{"commands that would make nothing together", "/a - f1, /a f2 -"},
	{"the third one", "/a - f1, /a f1 f2, /a f1 f3"},
	{"the third one, from the beginning on", "/a - f1, /a f1 f2, /a - f3"},
	{"the third one, and others between", "/b - d, /a - f1, /b d f1, /a f1 f2, /b f1 d, /a f1 f3"},
	{"the second one of three", "/a - f1, /a f3 f2, /a f2 f3"},
	{"the second one of three that end well", "/a - f1, /a f2 f1, /a f1 f2"},
	{"one of two paths", "/a - f1, /b f1 f2, /a f1 f2, /b f1 f3"},
	{"in the wrong order", "/a f1 f2, /a - f1"},
	{"at the end of a long log", lineOf(valueLog(impl.LogMax-1)) + ", /a f17 f19"},
	{"at the beginning of a long log", "/a f5 f6, " + lineOf(valueLog(impl.LogMax-1))},
}

func TestLogCanonFails(t *testing.T) {
	for _, r := range unchainedRows {
		log := logFrom(r.log)
		if !isLog(log) {
			t.Fatalf("%s: %q is no log", r.what, r.log)
		}
		if got, ok := impl.LogCanon(log); ok || len(got) > 0 {
			t.Errorf("%s: LogCanon of %q is %q, %v", r.what, r.log, lineOf(got), ok)
		}
		if got, ok := canonOf(log); ok {
			t.Errorf("%s: canonOf(%q) is %q, %v", r.what, r.log, lineOf(got), ok)
		}
		if impl.CanonValid(log) {
			t.Errorf("%s: CanonValid of %q holds", r.what, r.log)
		}
	}
	for _, log := range unchainedLogs() {
		if got, ok := impl.LogCanon(log); ok || len(got) > 0 {
			t.Errorf("LogCanon of %q is %q, %v", lineOf(log), lineOf(got), ok)
		}
	}
}

func TestLogCanonOfManyLogs(t *testing.T) {
	for _, log := range logsForCanon() {
		want, fine := canonOf(log)
		if got, ok := impl.LogCanon(log); ok != fine || !slices.Equal(got, want) {
			t.Errorf("LogCanon of %q is %q, %v", lineOf(log), lineOf(got), ok)
		}
		if got := impl.CanonValid(log); got != isCanon(log) {
			t.Errorf("CanonValid of %q is %v", lineOf(log), got)
		}
	}
}

// What is said of many logs is right only if there are logs of all kinds.
func TestLogsForCanon(t *testing.T) {
	atOnce, between := 0, 0
	for _, log := range unchainedLogs() {
		if _, ok := canonOf(log); ok || !isLog(log) {
			t.Fatalf("canonOf(%q) succeeds", lineOf(log))
		}
		for k, c := range log {
			switch last := lastOnPath(log, k); {
			case last < 0 || log[last].To == c.From:
			case last == k-1:
				atOnce++
			default:
				between++
			}
		}
	}
	lengths, shorter, back := map[int]int{}, 0, 0
	for _, log := range goodLogs() {
		canon, _ := canonOf(log)
		if len(canon) < len(pathsOf(log)) {
			back++
		}
		if len(canon) > 1 && len(pathsOf(log)) < len(log) {
			shorter++
		}
	}
	for _, log := range canonLogs() {
		lengths[len(log)]++
	}
	for n := range impl.LogMax + 1 {
		if n > 0 && lengths[n] < 6 {
			t.Errorf("%v: there are too few canonical logs with %d commands", lengths, n)
		}
	}
	if atOnce < 1000 || between < 1000 || shorter < 300 || back < 200 {
		t.Errorf("%d go on elsewhere at once, %d later; %d become shorter, %d have paths that are as they were", atOnce, between, shorter, back)
	}
}

// Promise 58.
func TestLogCanonDoesTheSame(t *testing.T) {
	fewer, filled := 0, 0
	for _, l := range logsThatFit() {
		canon, ok := impl.LogCanon(l.log)
		want, _ := logApplyOf(l.tree, l.log)
		after, done := impl.LogApply(l.tree, canon)
		if !ok || done != len(canon) || !impl.LogFits(l.tree, canon) || !sameNodes(after, want) {
			t.Errorf("LogCanon of %v is %q, %v, and leads to %v, %d", l, lineOf(canon), ok, after, done)
		}
		if len(canon) < len(l.log) {
			fewer++
		}
		if len(after) == impl.NodeMax && len(canon) > 0 {
			filled++
		}
	}
	if fewer < 200 || filled < 50 {
		t.Errorf("%d logs become shorter, and %d lead to a full tree", fewer, filled)
	}
}

// Promise 59.
func TestLogCanonIsCanonicalAndStays(t *testing.T) {
	for _, log := range goodLogs() {
		canon, ok := impl.LogCanon(log)
		if !ok || !impl.CanonValid(canon) || !isCanon(canon) {
			t.Errorf("LogCanon of %q is %q, %v: it is not canonical", lineOf(log), lineOf(canon), ok)
		}
		if again, fine := impl.LogCanon(canon); !fine || !slices.Equal(again, canon) {
			t.Errorf("LogCanon of %q is %q, and that of this is %q, %v", lineOf(log), lineOf(canon), lineOf(again), fine)
		}
	}
}

// Promise 64.
func TestCanonicalOrder(t *testing.T) {
	for _, log := range slices.Concat(canonLogs(), logsForCanon()) {
		if !impl.CanonValid(log) {
			continue
		}
		if len(pathsOf(log)) != len(log) {
			t.Errorf("CanonValid of %q holds, and it has a path twice", lineOf(log))
		}
		first := 0
		for first < len(log) && endsOf(log[first]) {
			first++
		}
		for k := range log {
			if k >= first && endsOf(log[k]) {
				t.Errorf("CanonValid of %q holds, and command %d does not come first", lineOf(log), k)
			}
			if k > 0 && k < first && log[k-1].Path <= log[k].Path || k > first && log[k-1].Path >= log[k].Path {
				t.Errorf("CanonValid of %q holds, and command %d is in the wrong place", lineOf(log), k)
			}
		}
	}
}

// Promise 66.
func TestCanonicalLogsWithoutACommand(t *testing.T) {
	for _, log := range canonLogs() {
		if !impl.CanonValid(log) {
			t.Errorf("CanonValid of %q does not hold", lineOf(log))
		}
		for k := range log {
			if fewer := slices.Delete(slices.Clone(log), k, k+1); !impl.CanonValid(fewer) {
				t.Errorf("CanonValid of %q holds, and that of %q does not", lineOf(log), lineOf(fewer))
			}
		}
	}
}

// Promise 67.
func TestLogCanonOfLogUndo(t *testing.T) {
	for _, l := range logsThatFit() {
		canon, ok := impl.LogCanon(l.log)
		back, fine := impl.LogCanon(impl.LogUndo(l.log))
		if !ok || !fine || !sameCommands(back, logUndoOf(canon)) {
			t.Errorf("LogCanon of %v is %q, %v, and that of LogUndo is %q, %v", l, lineOf(canon), ok, lineOf(back), fine)
		}
	}
}

func TestCanonicalLogsWithTwoCommandsExchanged(t *testing.T) {
	for _, log := range canonLogs() {
		for k := range log[min(len(log), 1):] {
			other := slices.Clone(log)
			other[k], other[k+1] = log[k+1], log[k]
			if impl.CanonValid(other) {
				t.Errorf("CanonValid of %q and of %q holds", lineOf(log), lineOf(other))
			}
			if got, ok := impl.LogCanon(other); !ok || !slices.Equal(got, log) {
				t.Errorf("LogCanon of %q is %q, %v", lineOf(other), lineOf(got), ok)
			}
		}
	}
}

// Also a command that would be in order, or go on where the other one has ended, is one too many.
func TestCanonicalLogsWithAPathTwice(t *testing.T) {
	for _, line := range []string{"/a f1 -, /a - f1", "/a d f1, /a f1 f2", "/a d -, /a - d", "/a d -, /a - f1", "/a d f1, /a f1 d", "/b d f1, /a d -, /a - d, /b f1 f2",
		"/c f1 -, /c d -, /a - d", "/c d f1, /a - f1, /a f1 f2", "/a - f1, /a f1 f2, /b - d", "/a d -, /a d -", "/a - d, /a - d", "/b f1 -, /a - f1, /b - f1"} {
		if impl.CanonValid(logFrom(line)) {
			t.Errorf("CanonValid of %q holds", line)
		}
	}
	for i, log := range canonLogs() {
		// A part of the logs is enough for all places.
		if i%7 != 0 || len(log) == 0 || len(log) == impl.LogMax {
			continue
		}
		for _, c := range log {
			for _, more := range []impl.Command{c, {Path: c.Path, From: c.To, To: c.From}, {Path: c.Path, From: none, To: dir}, {Path: c.Path, From: dir, To: none}, {Path: c.Path, From: c.To, To: fileOf(55)}} {
				for k := range len(log) + 1 {
					if other := slices.Insert(slices.Clone(log), k, more); impl.CanonValid(other) {
						t.Errorf("CanonValid of %q holds", lineOf(other))
					}
				}
			}
		}
	}
}

// Of all orders of a few commands, exactly one is canonical, and LogCanon of each one is this.
func TestAllOrdersOfAFewCommands(t *testing.T) {
	for _, r := range []struct{ log, canon string }{
		{"/a d -, /a/b f1 -, /a/c d -", "/a/c d -, /a/b f1 -, /a d -"},
		{"/a - d, /a/b - d, /a/b/c - f1, /b - d", "/a - d, /a/b - d, /a/b/c - f1, /b - d"},
		{"/a d f1, /a/b f1 -, /b f1 d, /b/a - f1", "/a/b f1 -, /a d f1, /b f1 d, /b/a - f1"},
		{"/a d -, /b d f1, /c f1 d, /d f1 f2, /a/a f1 -", "/b d f1, /a/a f1 -, /a d -, /c f1 d, /d f1 f2"},
		{"/d d -, /c d f1, /b f1 -, /a - d, /a/b - f1", "/d d -, /c d f1, /b f1 -, /a - d, /a/b - f1"},
		{"/a f1 d, /a/a - d, /a/a/a - d, /b d f1, /b/a d -, /b/a/a d -", "/b/a/a d -, /b/a d -, /b d f1, /a f1 d, /a/a - d, /a/a/a - d"},
		{"/a f1 f2, /a/a f1 f2, /a/a/a f1 f2, /b f1 f2, /c f1 -, /d d f2", "/d d f2, /c f1 -, /a f1 f2, /a/a f1 f2, /a/a/a f1 f2, /b f1 f2"},
	} {
		orders := ordersOf(logFrom(r.log))
		for _, log := range orders {
			if got, ok := impl.LogCanon(log); !ok || lineOf(got) != r.canon {
				t.Errorf("LogCanon of %q is %q, %v", lineOf(log), lineOf(got), ok)
			}
			if got := impl.CanonValid(log); got != (lineOf(log) == r.canon) {
				t.Errorf("CanonValid of %q is %v", lineOf(log), got)
			}
		}
		if len(orders) < 6 {
			t.Errorf("%q has %d orders", r.log, len(orders))
		}
	}
}

// Each two commands of any two kinds, at paths under each other, beside each other, and the same: one order at most is canonical.
func TestEachTwoCommands(t *testing.T) {
	paths := []string{"/a", "/a/a", "/a/b", "/a/b/a/a", "/b", "/b/a", "/d"}
	for _, p := range paths {
		for _, q := range paths {
			for _, c := range commandsAt(p) {
				for _, d := range commandsAt(q) {
					log := []impl.Command{c, d}
					want := p != q && (endsOf(c) && (!endsOf(d) || p > q) || !endsOf(c) && !endsOf(d) && p < q)
					if got := impl.CanonValid(log); got != want {
						t.Errorf("CanonValid of %q is %v", lineOf(log), got)
					}
				}
			}
		}
	}
}

// wideCanon returns a canonical log with n commands on as many paths, of which the first k end something.
func wideCanon(n, k int) []impl.Command {
	var log []impl.Command
	for i, p := range slices.Sorted(slices.Values(allPaths()[1:]))[:n] {
		if i < k {
			log = slices.Insert(log, 0, impl.Command{Path: p, From: fileOf(i), To: none})
		} else {
			log = append(log, impl.Command{Path: p, From: none, To: fileOf(i)})
		}
	}
	return log
}

func TestCanonicalLogsOfAllLengths(t *testing.T) {
	for n := range 2 * impl.LogMax {
		for k := range n + 1 {
			log := wideCanon(n, k)
			fine := n <= impl.LogMax
			if got := impl.CanonValid(log); got != fine {
				t.Errorf("CanonValid of %d commands is %v", n, got)
			}
			slices.Reverse(log)
			if got, ok := impl.LogCanon(log); ok != fine || fine && !slices.Equal(got, wideCanon(n, k)) || !fine && len(got) > 0 {
				t.Errorf("LogCanon of %d commands is %q, %v", n, lineOf(got), ok)
			}
		}
		// As many commands on one path.
		log := valueLog(n)
		want := []impl.Command{{Path: "/a", From: none, To: fileOf(n - 1)}}[:min(n, 1)]
		if got, ok := impl.LogCanon(log); ok != (n <= impl.LogMax) || ok && !slices.Equal(got, want) || !ok && len(got) > 0 {
			t.Errorf("LogCanon of %d commands on a path is %q, %v", n, lineOf(got), ok)
		}
		if got := impl.CanonValid(log); got != (n < 2) {
			t.Errorf("CanonValid of %d commands on a path is %v", n, got)
		}
	}
}

func TestEmptyLogsAreCanonical(t *testing.T) {
	for _, log := range [][]impl.Command{nil, {}, make([]impl.Command, 0, 5), logFrom("/a - f1")[:0]} {
		if got, ok := impl.LogCanon(log); !ok || len(got) > 0 {
			t.Errorf("LogCanon of an empty log is %q, %v", lineOf(got), ok)
		}
		if !impl.CanonValid(log) {
			t.Errorf("CanonValid of an empty log does not hold")
		}
	}
}

func TestLogsThatAreInvalidHaveNoCanonicalLog(t *testing.T) {
	for _, log := range notLogs() {
		if got, ok := impl.LogCanon(log); ok || len(got) > 0 {
			t.Errorf("LogCanon of %s is %s, %v", shown(log), shown(got), ok)
		}
		if impl.CanonValid(log) {
			t.Errorf("CanonValid of %s holds", shown(log))
		}
	}
	// An invalid command that would be as if it were not there, or go on where the one before it has ended.
	for _, bad := range []impl.Command{{}, {Path: "/a", From: dir, To: dir}, {Path: "/a", From: none, To: none}, {Path: "/b"}, {Path: "/", From: dir, To: none}, {Path: "/c", From: none, To: badContents[1]}} {
		for _, line := range []string{"", "/a - d", "/a f1 -", "/a - d, /b - f1", "/b f1 -, /a - d", "/c f1 -, /b f2 -"} {
			log := logFrom(line)
			for k := range len(log) + 1 {
				other := slices.Insert(slices.Clone(log), k, bad)
				if got, ok := impl.LogCanon(other); ok || len(got) > 0 || impl.CanonValid(other) {
					t.Errorf("LogCanon of %q is %q, %v", lineOf(other), lineOf(got), ok)
				}
			}
		}
	}
}

// The same call gives the same answer, in whatever order a map is walked through.
func TestCanonicalLogsAreTheSameEachTime(t *testing.T) {
	for i, log := range goodLogs() {
		if i%40 != 0 && len(log) < impl.LogMax-1 {
			continue
		}
		want, fine := canonOf(log)
		for range 20 {
			if got, ok := impl.LogCanon(log); ok != fine || !slices.Equal(got, want) {
				t.Fatalf("LogCanon of %q is %q, %v", lineOf(log), lineOf(got), ok)
			}
			if got := impl.CanonValid(want); !got {
				t.Fatalf("CanonValid of %q is %v", lineOf(want), got)
			}
		}
	}
}

// Calls change neither logs, nor what is behind them, nor each other's results.
func TestCanonicalLogsShareNoMemory(t *testing.T) {
	for i, log := range slices.Concat(goodLogs(), canonLogs(), longLogs()[:3], unchainedLogs()[:300]) {
		if i%3 != 0 && len(log) < impl.LogMax-1 {
			continue
		}
		list, array := markedCommands(log)
		before := slices.Clone(array)
		want, _ := canonOf(log)
		holds := isCanon(log)

		first, _ := impl.LogCanon(list)
		second, _ := impl.LogCanon(list)
		overwriteCommands(first)
		if got := impl.CanonValid(list); got != holds || !slices.Equal(second, want) {
			t.Fatalf("LogCanon of %q is %q, and CanonValid is %v", lineOf(log), lineOf(second), got)
		}
		if !slices.Equal(array, before) {
			t.Fatalf("%q has changed: %v", lineOf(log), array)
		}
	}
	// An empty log may have memory behind it, too.
	list := make([]impl.Command, 0, 5)
	got, _ := impl.LogCanon(list)
	overwriteCommands(got)
	if text := fmt.Sprint(list[:5]); strings.Contains(text, "overwritten") {
		t.Errorf("what is behind an empty log has changed: %s", text)
	}
}
