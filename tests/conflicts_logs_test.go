package tests

import (
	"slices"
	"testing"

	"loop.example/filereconciler/impl"
)

// Both logs, the conflicts, and what is safe, agreed and left.
var conflictRows = []struct {
	what, a, b          string
	clashes             string
	safe, agreed, leftA string
}{
	{"nothing", "", "", "", "", "", ""},
	{"nothing, and a command", "", "/a - f1", "", "/a - f1", "", ""},
	{"a command, and nothing", "/a - f1", "", "", "", "", ""},
	{"nothing, and some commands", "", "/b d -, /a - d, /a/a - f1", "", "/b d -, /a - d, /a/a - f1", "", ""},
	{"nothing, and commands that clash with each other", "", "/a - f1, /a/a - f1", "", "/a - f1, /a/a - f1", "", ""},
	{"the same command", "/a - f1", "/a - f1", "", "", "/a - f1", ""},
	{"the same commands", "/b/a f1 -, /b d -, /a - d, /a/b - f2", "/b/a f1 -, /b d -, /a - d, /a/b - f2", "", "", "/b/a f1 -, /b d -, /a - d, /a/b - f2", ""},
	{"elsewhere", "/a - f1", "/b - f1", "", "/b - f1", "", ""},
	{"another value", "/a f1 f2", "/a f1 f3", "0:0", "", "", "/a f1 f2"},
	{"removed, and changed", "/a f1 -", "/a f1 f2", "0:0", "", "", "/a f1 -"},
	{"the same To with another From, a file", "/a f1 f2", "/a f3 f2", "", "/a f3 f2", "", ""},
	{"the same To with another From, nothing", "/a f1 -", "/a d -", "", "/a d -", "", ""},
	{"the same To with another From, a directory", "/a - d", "/a f1 d", "", "/a f1 d", "", ""},
	{"the same From with another To", "/a f1 d", "/a f1 -", "0:0", "", "", "/a f1 d"},
	{"what takes it back", "/a - f1", "/a f1 -", "0:0", "", "", "/a - f1"},

	{"one is in both, the first one", "/a - f1, /b - f2, /c - f3", "/a - f1, /b - f4, /c - f5", "1:1 2:2", "", "/a - f1", "/b - f2, /c - f3"},
	{"one is in both, in the middle", "/a - f1, /b - f2, /c - f3", "/a - f4, /b - f2, /c - f5", "0:0 2:2", "", "/b - f2", "/a - f1, /c - f3"},
	{"one is in both, the last one", "/a - f1, /b - f2, /c - f3", "/a - f4, /b - f5, /c - f3", "0:0 1:1", "", "/c - f3", "/a - f1, /b - f2"},
	{"one is in both, first and last", "/c - f3, /d - d", "/a - d, /b - f2, /c - f3", "", "/a - d, /b - f2", "/c - f3", ""},
	{"one is in both, last and first", "/a - d, /b - f2, /c - f3", "/c - f3, /d - d", "", "/d - d", "/c - f3", ""},
	{"some are in both", "/b f1 -, /a - d, /c - f1", "/b f1 -, /a - d, /d - f1", "", "/d - f1", "/b f1 -, /a - d", ""},
	{"all of the first one are in both", "/a - d, /b - f1", "/d f1 -, /a - d, /a/a - f2, /b - f1", "", "/d f1 -, /a/a - f2", "/a - d, /b - f1", ""},
	{"all of the second one are in both", "/d f1 -, /a - d, /a/a - f2, /b - f1", "/a - d, /b - f1", "", "", "/a - d, /b - f1", ""},

	{"in both, and above another one of the first log", "/a - f1, /a/b - f2", "/a - f1", "1:0", "", "", "/a/b - f2"},
	{"in both, and above another one of the second log", "/a - f1", "/a - f1, /a/b - f2", "0:1", "", "/a - f1", "/a - f1"},
	{"in both, and below another one of the first log", "/a - f1, /a/b - f2", "/a/b - f2", "0:0", "", "", "/a - f1"},
	{"in both, and below another one of the second log", "/a/b - f2", "/a - f1, /a/b - f2", "0:0", "", "/a/b - f2", "/a/b - f2"},
	{"in both, and in conflict with each other", "/a - f1, /a/b - f2", "/a - f1, /a/b - f2", "0:1 1:0", "", "", "/a - f1, /a/b - f2"},
	{"in both, removed, and in conflict with one of the first log", "/a d -, /a/b - f2, /c - d", "/a d -, /b - f1, /c - d", "1:0", "/b - f1", "/c - d", "/a/b - f2"},
	{"in both, in a long conflict with each other", "/a - f1, /a/b/c/d - d, /b - d", "/a - f1, /a/b/c/d - d, /b - d", "0:1 1:0", "", "/b - d", "/a - f1, /a/b/c/d - d"},
	{"in both, and one of both is in conflict", "/a - f1, /b - f1, /b/b f1 f2", "/a - f1, /b - f1", "2:1", "", "/a - f1", "/b/b f1 f2"},
	{"in both, a directory above one that is not", "/a - d", "/a - d, /a/b - f1", "", "/a/b - f1", "/a - d", ""},
	{"in both, a directory below one that is not", "/a/b - d", "/a - d, /a/b - d", "", "/a - d", "/a/b - d", ""},
	{"in both, a file below one that is not", "/a/b/c - f1", "/a - d, /a/b/c - f1", "", "/a - d", "/a/b/c - f1", ""},
	{"in both, removed above one that is not", "/a d -", "/a/b f1 -, /a d -", "", "/a/b f1 -", "/a d -", ""},
	{"in both, removed below one that is not", "/a/b f1 -", "/a/b f1 -, /a d -", "", "/a d -", "/a/b f1 -", ""},
	{"in both, removed below one that becomes a file", "/a/b f1 -, /a d f2", "/a/b f1 -", "", "", "/a/b f1 -", ""},

	{"a directory is removed, and a file is made in it", "/a d -", "/a/b - f1", "0:0", "", "", "/a d -"},
	{"a directory with a file is removed, and another file is made in it", "/a/c f1 -, /a d -", "/a/b - f1", "1:0", "", "", "/a d -"},
	{"a file is made in a directory that is removed with another file", "/a/b - f1", "/a/c f1 -, /a d -", "0:1", "/a/c f1 -", "", "/a/b - f1"},
	{"a directory with a file becomes a file, and the file in it changes", "/a/b f1 -, /a d f2", "/a/b f1 f3", "0:0 1:0", "", "", "/a/b f1 -, /a d f2"},
	{"a directory with a file is made, and a file in its place", "/a - d, /a/b - f1", "/a - f2", "0:0 1:0", "", "", "/a - d, /a/b - f1"},
	{"a file is made, and a directory with a file in its place", "/a - f2", "/a - d, /a/b - f1", "0:0 0:1", "", "", "/a - f2"},
	{"both make a directory, each one another file", "/a - d, /a/b - f1", "/a - d, /a/c - f1", "", "/a/c - f1", "/a - d", ""},
	{"both make a directory, and a file with two values", "/a - d, /a/b - f1", "/a - d, /a/b - f2", "1:1", "", "/a - d", "/a/b - f1"},
	{"both remove a directory, and one makes it again, as a file", "/a/b f1 -, /a d -", "/a/b f1 -, /a d f1", "1:1", "", "/a/b f1 -", "/a d -"},
	{"a file three names deeper", "/a f1 f2", "/a/b/c/d - f1", "0:0", "", "", "/a f1 f2"},
	{"a file three names higher", "/a/b/c/d - f1", "/a f1 f2", "0:0", "", "", "/a/b/c/d - f1"},

	{"one, and all of the other log", "/a d -", "/a/a - f1, /a/b - d, /a/c f1 f2, /a/d/a - f3", "0:0 0:1 0:2 0:3", "", "", "/a d -"},
	{"all of a log, and the only one", "/a/a - f1, /a/b - d, /a/c f1 f2, /a/d/a - f3", "/a d -", "0:0 1:0 2:0 3:0", "", "", "/a/a - f1, /a/b - d, /a/c f1 f2, /a/d/a - f3"},
	{"one, and many but the last one", "/a f1 -", "/a/a - f1, /a/b - d, /b - f1", "0:0 0:1", "/b - f1", "", "/a f1 -"},
	{"one, and many but the first one", "/b f1 -", "/a - f1, /b/a - f1, /b/b - d", "0:1 0:2", "/a - f1", "", "/b f1 -"},
	{"one, and many but one between", "/b f1 -", "/b/a - f1, /b/b/b - d, /b/d - f1, /c - f2", "0:0 0:1 0:2", "/c - f2", "", "/b f1 -"},
	{"the first one with the last one", "/b f1 -, /a f1 -", "/a f1 f2, /b f1 f2", "0:1 1:0", "", "", "/b f1 -, /a f1 -"},
	{"the last one with the last one", "/a - f1, /b - f1, /c - f1", "/d - f1, /d/a - f1, /d/b - f1", "", "/d - f1, /d/a - f1, /d/b - f1", "", ""},
	{"each one with each one", "/a/a/a f1 -, /a/a d -, /a d -", "/a/a/a/a - f1, /a/a/a/b - d, /a/a/a/d f1 f2", "0:0 0:1 0:2 1:0 1:1 1:2 2:0 2:1 2:2", "", "", "/a/a/a f1 -, /a/a d -, /a d -"},
	{"several of both", "/a/a f1 -, /a d -, /b - f1", "/a/a f1 f2, /a/b - f1, /b/a - f1", "0:0 1:0 1:1 2:2", "", "", "/a/a f1 -, /a d -, /b - f1"},
	{"all kinds at once", "/d d -, /a - d, /a/a - f1, /b f1 f2, /c - f4", "/d/a f1 -, /a - d, /a/b - f3, /b f1 f9, /d/b - f1", "0:4 3:3", "/d/a f1 -, /a/b - f3", "/a - d", "/d d -, /b f1 f2"},
}

func TestConflictsTable(t *testing.T) {
	for _, r := range conflictRows {
		f := facing{logFrom(r.a), logFrom(r.b)}
		if !isCanon(f.a) || !isCanon(f.b) {
			t.Fatalf("%s: %v are not canonical", r.what, f)
		}
		if got := impl.ClashesOf(f.a, f.b); clashLine(got) != r.clashes {
			t.Errorf("%s: ClashesOf %v is %v", r.what, f, clashLine(got))
		}
		if got := impl.SafeOf(f.a, f.b); lineOf(got) != r.safe {
			t.Errorf("%s: SafeOf %v is %q", r.what, f, lineOf(got))
		}
		if got := impl.AgreedOf(f.a, f.b); lineOf(got) != r.agreed {
			t.Errorf("%s: AgreedOf %v is %q", r.what, f, lineOf(got))
		}
		if got := impl.LeftOf(f.a, f.b); lineOf(got) != r.leftA {
			t.Errorf("%s: LeftOf %v is %q", r.what, f, lineOf(got))
		}
		f.check(t)
		f.turned().check(t)
	}
}

// check tells that all four functions return what they do by another way.
func (f facing) check(t *testing.T) {
	t.Helper()
	safe, agreed, _ := f.parted()
	_, _, left := f.turned().parted()
	if got, want := impl.ClashesOf(f.a, f.b), f.clashes(); !slices.Equal(got, want) {
		t.Errorf("ClashesOf %v is %v, not %v", f, clashLine(got), clashLine(want))
	}
	if got := impl.SafeOf(f.a, f.b); !slices.Equal(got, safe) {
		t.Errorf("SafeOf %v is %q, not %q", f, lineOf(got), lineOf(safe))
	}
	if got := impl.AgreedOf(f.a, f.b); !slices.Equal(got, agreed) {
		t.Errorf("AgreedOf %v is %q, not %q", f, lineOf(got), lineOf(agreed))
	}
	if got := impl.LeftOf(f.a, f.b); !slices.Equal(got, left) {
		t.Errorf("LeftOf %v is %q, not %q", f, lineOf(got), lineOf(left))
	}
}

func TestConflictsOfManyLogs(t *testing.T) {
	for _, f := range facingLogs() {
		f.check(t)
		f.turned().check(t)
	}
}

// What is said of many logs is right only if there are logs of all kinds.
func TestFacingLogs(t *testing.T) {
	lengths, shared := map[int]int{}, map[string]int{}
	for _, f := range facingLogs() {
		if !isCanon(f.a) || !isCanon(f.b) {
			t.Fatalf("%v are not canonical", f)
		}
		lengths[len(f.a)]++
		lengths[len(f.b)]++
		safe, agreed, left := f.parted()
		for k, c := range f.b {
			switch {
			case !slices.Contains(f.a, c):
				continue
			case slices.Contains(left, c):
				shared["in conflict"]++
			}
			switch k {
			case 0:
				shared["first"]++
			case len(f.b) - 1:
				shared["last"]++
			default:
				shared["between"]++
			}
		}
		for word, holds := range map[string]bool{
			"no conflicts": len(left) == 0 && len(safe) > 0 && len(agreed) > 0,
			"all three":    len(safe) > 0 && len(agreed) > 0 && len(left) > 0,
			"all safe":     len(safe) == len(f.b) && len(f.a) > 0,
			"all agreed":   len(agreed) == len(f.b) && len(f.a) > len(f.b),
			"none safe":    len(safe) == 0 && len(left) > 0,
			"all left":     len(left) == len(f.b) && len(left) > 2,
			"many":         len(f.clashes()) > impl.LogMax,
		} {
			if holds {
				shared[word]++
			}
		}
	}
	for n := range impl.LogMax + 1 {
		if lengths[n] < 50 {
			t.Errorf("%v: there are too few logs of %d commands", lengths, n)
		}
	}
	for _, word := range []string{"in conflict", "first", "last", "between", "no conflicts", "all three", "all safe", "all agreed", "none safe", "all left", "many"} {
		if shared[word] < 50 {
			t.Errorf("there are too few of one kind, %s: %v", word, shared)
		}
	}
}

// Promise 81.
func TestClashesOfHasThePlacesOfConflicts(t *testing.T) {
	for _, f := range facingLogs() {
		places := map[impl.Clash]bool{}
		list := impl.ClashesOf(f.a, f.b)
		for n, x := range list {
			if n > 0 && (x.A < list[n-1].A || x.A == list[n-1].A && x.B <= list[n-1].B) {
				t.Errorf("ClashesOf %v is %v, which is not ascending", f, clashLine(list))
			}
			places[x] = true
		}
		n := 0
		for i, c := range f.a {
			for k, d := range f.b {
				clash := impl.CommandsClash(c, d)
				if clash != places[impl.Clash{A: i, B: k}] {
					t.Errorf("ClashesOf %v is %v, and CommandsClash at %d and %d is %v", f, clashLine(list), i, k, clash)
				}
				if clash {
					n++
				}
			}
		}
		if n != len(list) {
			t.Errorf("ClashesOf %v is %v, and there are %d conflicts", f, clashLine(list), n)
		}
	}
}

// Promise 82.
func TestClashesOfBothExchanged(t *testing.T) {
	for _, f := range facingLogs() {
		there, back := impl.ClashesOf(f.a, f.b), impl.ClashesOf(f.b, f.a)
		if !slices.Equal(turnedClashes(there), back) {
			t.Errorf("ClashesOf %v is %v, and that of both exchanged is %v", f, clashLine(there), clashLine(back))
		}
	}
}

// Promise 83.
func TestSafeOfHasWhatIsInNoConflict(t *testing.T) {
	for _, f := range facingLogs() {
		var want []impl.Command
		for _, d := range f.b {
			if !slices.ContainsFunc(f.a, func(c impl.Command) bool { return c == d || impl.CommandsClash(c, d) }) {
				want = append(want, d)
			}
		}
		if got := impl.SafeOf(f.a, f.b); !slices.Equal(got, want) {
			t.Errorf("SafeOf %v is %q, not %q", f, lineOf(got), lineOf(want))
		}
	}
}

// Promise 84, and that what is in both logs and missing is in conflict.
func TestAgreedOfIsInBothLogs(t *testing.T) {
	for _, f := range facingLogs() {
		got := impl.AgreedOf(f.a, f.b)
		if !impl.CanonValid(got) || !isCanon(got) {
			t.Errorf("AgreedOf %v is %q, which is not canonical", f, lineOf(got))
		}
		for _, c := range got {
			if !slices.Contains(f.a, c) || !slices.Contains(f.b, c) {
				t.Errorf("AgreedOf %v is %q, and %q is not in both", f, lineOf(got), wordsOf(c))
			}
		}
		for _, c := range f.b {
			clash := slices.ContainsFunc(f.a, func(d impl.Command) bool { return impl.CommandsClash(c, d) })
			if slices.Contains(f.a, c) && slices.Contains(got, c) == clash {
				t.Errorf("AgreedOf %v is %q, and %q is in conflict is %v", f, lineOf(got), wordsOf(c), clash)
			}
		}
	}
}

// Promise 85.
func TestLeftOfHasWhatIsInConflict(t *testing.T) {
	for _, f := range facingLogs() {
		var want []impl.Command
		last := -1
		for _, x := range impl.ClashesOf(f.a, f.b) {
			if x.A != last {
				want = append(want, f.a[x.A])
				last = x.A
			}
		}
		if got := impl.LeftOf(f.a, f.b); !slices.Equal(got, want) {
			t.Errorf("LeftOf %v is %q, not %q", f, lineOf(got), lineOf(want))
		}
	}
}

// Promise 86.
func TestEachCommandIsInOneOfThree(t *testing.T) {
	for _, pair := range facingLogs() {
		for _, f := range []facing{pair, pair.turned()} {
			safe, agreed, left := impl.SafeOf(f.a, f.b), impl.AgreedOf(f.a, f.b), impl.LeftOf(f.b, f.a)
			for _, c := range f.b {
				n := 0
				for _, list := range [][]impl.Command{safe, agreed, left} {
					if slices.Contains(list, c) {
						n++
					}
				}
				if n != 1 {
					t.Errorf("%v: %q is in %d of %q, %q and %q", f, wordsOf(c), n, lineOf(safe), lineOf(agreed), lineOf(left))
				}
			}
			if len(safe)+len(agreed)+len(left) != len(f.b) || !sameCommands(slices.Concat(safe, agreed, left), f.b) {
				t.Errorf("%v: %q, %q and %q are not the second log together", f, lineOf(safe), lineOf(agreed), lineOf(left))
			}
		}
	}
}

// Promise 87.
func TestLogsWithoutConflicts(t *testing.T) {
	n := 0
	for _, f := range facingLogs() {
		if len(impl.ClashesOf(f.a, f.b)) > 0 {
			continue
		}
		safe, agreed := impl.SafeOf(f.a, f.b), impl.AgreedOf(f.a, f.b)
		if together, ok := impl.LogCanon(slices.Concat(safe, agreed)); !ok || !slices.Equal(together, f.b) {
			t.Errorf("%v: %q and %q are not the second log together", f, lineOf(safe), lineOf(agreed))
		}
		if left, other := impl.LeftOf(f.a, f.b), impl.LeftOf(f.b, f.a); len(left) > 0 || len(other) > 0 {
			t.Errorf("%v: %q and %q are left", f, lineOf(left), lineOf(other))
		}
		n++
	}
	if n < 500 {
		t.Errorf("only %d pairs have no conflicts", n)
	}
}

// logsUnderEachOther returns pairs of logs with n commands at paths that are under each other.
func logsUnderEachOther(n int) []facing {
	paths := pathsUnder("/a", n)
	apart := pathsUnder("/b", n)
	return []facing{
		{sameAt(paths, "-", "f1"), sameAt(paths, "-", "f2")},
		{sameAt(paths, "-", "f1"), sameAt(paths, "-", "f1")},
		{sameAt(paths, "d", "-"), sameAt(paths, "-", "f2")},
		{sameAt(paths, "d", "-"), sameAt(paths, "f1", "-")},
		{sameAt(paths, "d", "-"), sameAt(paths, "d", "-")},
		{sameAt(paths, "f1", "d"), sameAt(paths, "-", "d")},
		{sameAt(paths, "f1", "d"), sameAt(paths, "d", "f1")},
		{sameAt(paths, "f1", "f2"), sameAt(apart, "f1", "f3")},
		{sameAt(paths, "d", "-"), sameAt(apart, "d", "f3")},
		{sameAt([]string{"/a"}, "d", "-"), sameAt(paths, "-", "f2")},
		{sameAt([]string{"/a"}, "d", "f2"), sameAt(paths, "-", "d")},
		{sameAt([]string{"/a"}, "-", "d"), sameAt(paths, "-", "f2")},
		{sameAt([]string{"/a"}, "d", "-"), sameAt(paths, "f1", "-")},
		{nil, sameAt(paths, "-", "f1")},
	}
}

func TestConflictsOfAllLengths(t *testing.T) {
	for n := range 2 * impl.LogMax {
		for row, f := range logsUnderEachOther(n) {
			f.check(t)
			f.turned().check(t)
			safe, agreed, left := impl.SafeOf(f.a, f.b), impl.AgreedOf(f.a, f.b), impl.LeftOf(f.b, f.a)
			if whole := len(safe) + len(agreed) + len(left); n > impl.LogMax && whole > 0 || n <= impl.LogMax && whole != n {
				t.Errorf("%d commands, row %d: %q, %q and %q", n, row, lineOf(safe), lineOf(agreed), lineOf(left))
			}
		}
		// One in conflict with as many as there are.
		f := facing{sameAt([]string{"/a"}, "d", "-"), sameAt(pathsUnder("/a", n), "-", "f2")}
		want := n
		if n > impl.LogMax {
			want = 0
		}
		if got := impl.ClashesOf(f.a, f.b); len(got) != want {
			t.Errorf("ClashesOf %v is %s", f, clashLine(got))
		}
		if got := impl.ClashesOf(f.b, f.a); len(got) != want {
			t.Errorf("ClashesOf %v is %s", f.turned(), clashLine(got))
		}
	}
}

// Each command is in conflict with each one of the other log.
func TestEachInConflictWithEach(t *testing.T) {
	for _, f := range []facing{
		{sameAt([]string{"/a", "/a/a"}, "d", "-"), sameAt(pathsUnder("/a/a", impl.LogMax), "-", "f2")},
		{sameAt([]string{"/a", "/a/a"}, "f1", "f2"), sameAt(pathsUnder("/a/a", impl.LogMax), "f2", "d")},
		{sameAt([]string{"/c", "/c/d", "/c/d/a"}, "f1", "-"), sameAt(pathsUnder("/c/d/a", 4), "-", "d")},
		{sameAt([]string{"/d"}, "d", "f1"), sameAt(pathsUnder("/d", impl.LogMax), "d", "f1")},
	} {
		var want []impl.Clash
		for i := range f.a {
			for k := range f.b {
				want = append(want, impl.Clash{A: i, B: k})
			}
		}
		if got := impl.ClashesOf(f.a, f.b); !slices.Equal(got, want) {
			t.Errorf("ClashesOf %v is %s", f, clashLine(got))
		}
		if got := impl.ClashesOf(f.b, f.a); !slices.Equal(got, turnedClashes(want)) {
			t.Errorf("ClashesOf %v is %s", f.turned(), clashLine(got))
		}
		for _, x := range []facing{f, f.turned()} {
			if got := impl.LeftOf(x.a, x.b); !slices.Equal(got, x.a) {
				t.Errorf("LeftOf %v is %q", x, lineOf(got))
			}
			if safe, agreed := impl.SafeOf(x.a, x.b), impl.AgreedOf(x.a, x.b); len(safe) > 0 || len(agreed) > 0 {
				t.Errorf("SafeOf %v is %q, and AgreedOf is %q", x, lineOf(safe), lineOf(agreed))
			}
		}
	}
}

// surrounded returns a canonical log with n directories that are made ahead of a command at /b, and some behind it if there is room.
func surrounded(c impl.Command, n, some int, from string) []impl.Command {
	ahead := sameAt(pathsUnder("/a", n), from, "d")
	behind := sameAt(pathsUnder("/c", min(some, impl.LogMax-1-n)), from, "d")
	return slices.Concat(ahead, []impl.Command{c}, behind)
}

// A command that is in both logs, at each place of each of both. All others make the same of something else.
func TestOneCommandInBothLogs(t *testing.T) {
	c := commandFrom("/b - f7")
	for n := range impl.LogMax {
		for m := range impl.LogMax {
			f := facing{surrounded(c, n, 5, "-"), surrounded(c, m, 6, "f1")}
			others := slices.DeleteFunc(slices.Clone(f.b), func(d impl.Command) bool { return c == d })
			if got := impl.AgreedOf(f.a, f.b); !slices.Equal(got, []impl.Command{c}) {
				t.Errorf("AgreedOf %v is %q", f, lineOf(got))
			}
			if got := impl.SafeOf(f.a, f.b); !slices.Equal(got, others) || len(others) != len(f.b)-1 {
				t.Errorf("SafeOf %v is %q", f, lineOf(got))
			}
			if clashes, left := impl.ClashesOf(f.a, f.b), impl.LeftOf(f.a, f.b); len(clashes) > 0 || len(left) > 0 {
				t.Errorf("ClashesOf %v is %s, and LeftOf is %q", f, clashLine(clashes), lineOf(left))
			}
		}
	}
}

// hasNothing tells that none of the four functions has anything of both logs, in both directions.
func (f facing) hasNothing(t *testing.T) {
	t.Helper()
	for _, x := range []facing{f, f.turned()} {
		if got := impl.ClashesOf(x.a, x.b); len(got) > 0 {
			t.Errorf("ClashesOf %s is %s", shown(x), clashLine(got))
		}
		if got := impl.SafeOf(x.a, x.b); len(got) > 0 {
			t.Errorf("SafeOf %s is %s", shown(x), shown(got))
		}
		if got := impl.AgreedOf(x.a, x.b); len(got) > 0 {
			t.Errorf("AgreedOf %s is %s", shown(x), shown(got))
		}
		if got := impl.LeftOf(x.a, x.b); len(got) > 0 {
			t.Errorf("LeftOf %s is %s", shown(x), shown(got))
		}
	}
}

// notCanonical returns logs that are not canonical: in another order, with a path twice, invalid, and too long.
func notCanonical() [][]impl.Command {
	logs := longLogs()
	for _, line := range []string{
		"/b - f1, /a - f1", "/a f1 -, /b f1 -", "/a - f1, /b f1 -", "/a d -, /a/b f1 -", "/a/b - f1, /a - d", "/a - d, /b d f1", "/b - d, /c - d, /a - d",
		"/a - f1, /a - f1", "/a - f1, /a f1 -", "/a d -, /a - d", "/a d -, /a - f1", "/a f1 f2, /a f2 f3", "/a - d, /a/b - f1, /a d f1", "/b f1 -, /a - f1, /b - f1",
	} {
		logs = append(logs, logFrom(line))
	}
	for i, log := range notLogs() {
		if i%5 == 0 {
			logs = append(logs, log)
		}
	}
	for i, log := range canonLogs() {
		if i%40 == 0 && len(log) > 1 {
			logs = append(logs, exchanged(log, i/40%(len(log)-1)))
		}
		if i%40 == 0 && len(log) > 0 && len(log) < impl.LogMax {
			logs = append(logs, slices.Insert(slices.Clone(log), i/40%len(log), log[i/60%len(log)]))
		}
	}
	return append(logs, sameAt(pathsUnder("/a", impl.LogMax+1), "f1", "f2"), exchanged(sameAt(pathsUnder("/a", impl.LogMax), "f1", "f2"), 9))
}

func TestLogsThatAreNotCanonicalHaveNoConflicts(t *testing.T) {
	good := [][]impl.Command{nil, logFrom("/a - f1"), logFrom("/c d -, /a d -, /b - f1"), logFrom("/a f1 -"), logFrom("/a - d, /a/b - f1"), logFrom("/d - f1"),
		sameAt(pathsUnder("/a", impl.LogMax), "f1", "f2")}
	logs := notCanonical()
	for i, bad := range logs {
		if impl.CanonValid(bad) {
			t.Fatalf("CanonValid of %s holds", shown(bad))
		}
		for k, log := range good {
			if i%3 == 0 || k == i%len(good) || len(bad) < 4 {
				facing{bad, log}.hasNothing(t)
			}
		}
		facing{bad, bad}.hasNothing(t)
		facing{bad, logs[(i+11)%len(logs)]}.hasNothing(t)
		// The canonical log of the same commands is in conflict with them, or agreed, if they have one.
		if canon, ok := canonOf(bad); ok {
			facing{bad, canon}.hasNothing(t)
		}
	}
}

// A command that is invalid, out of order or there twice, at each place, is one too many for all others, too.
func TestOneCommandTooMany(t *testing.T) {
	for _, f := range []facing{
		{logFrom("/b d -, /a - f1"), logFrom("/a - f2, /b/a - f1, /c - d")},
		{logFrom("/c f1 -, /a - d, /a/b - f1"), logFrom("/c f1 -, /a - d, /a/c - f1")},
		{logFrom("/a - f1, /d/d - f2"), nil},
	} {
		f.check(t)
		for _, bad := range []impl.Command{{}, {Path: "/", From: none, To: dir}, {Path: "/a", From: dir, To: dir}, {Path: "/e", From: none, To: dir}, {Path: "/d", From: none, To: badContents[1]}, {Path: "/a", From: none, To: fileOf(1)}} {
			for k := range len(f.a) + 1 {
				facing{slices.Insert(slices.Clone(f.a), k, bad), f.b}.hasNothing(t)
			}
		}
	}
}

// The same call gives the same answer each time it is made.
func TestConflictsAreTheSameEachTime(t *testing.T) {
	for i, f := range facingLogs() {
		if i%5 == 0 {
			for range 4 {
				f.check(t)
			}
		}
	}
}

// Calls change neither logs, nor what is behind them, nor each other's results.
func TestConflictsShareNoMemory(t *testing.T) {
	functions := []func(a, b []impl.Command) []impl.Command{impl.SafeOf, impl.AgreedOf, impl.LeftOf}
	pairs := facingLogs()
	for i, bad := range notCanonical() {
		if i%10 == 0 {
			pairs = append(pairs[:len(pairs):len(pairs)], facing{bad, logFrom("/a - f1")}, facing{logFrom("/a - f1"), bad})
		}
	}
	for _, f := range pairs {
		a, arrayA := markedCommands(f.a)
		b, arrayB := markedCommands(f.b)
		beforeA, beforeB := slices.Clone(arrayA), slices.Clone(arrayB)
		for k, function := range functions {
			want := slices.Clone(function(f.a, f.b))
			first, second := function(a, b), function(a, b)
			overwriteCommands(first)
			if !slices.Equal(second, want) {
				t.Fatalf("function %d of %s is %s", k, shown(f), shown(second))
			}
			overwriteCommands(second)
		}
		want := slices.Clone(impl.ClashesOf(f.a, f.b))
		first, second := impl.ClashesOf(a, b), impl.ClashesOf(a, b)
		overwriteClashes(first)
		if !slices.Equal(second, want) {
			t.Fatalf("ClashesOf %s is %s", shown(f), clashLine(second))
		}
		if !slices.Equal(arrayA, beforeA) || !slices.Equal(arrayB, beforeB) {
			t.Fatalf("%s have changed: %s, %s", shown(f), shown(arrayA), shown(arrayB))
		}
	}
}

// Both logs may be one, or parts of one that is longer.
func TestConflictsOfPartsOfOneLog(t *testing.T) {
	whole := logFrom("/b f1 -, /a - d, /a/b - f1, /b - f2, /c - d")
	before := slices.Clone(whole)
	for i := range len(whole) + 1 {
		for k := i; k <= len(whole); k++ {
			f := facing{whole[:k], whole[i:]}
			f.check(t)
			f.turned().check(t)
			facing{whole[i:k], whole[i:k]}.check(t)
			for _, x := range []facing{f, f.turned(), {whole[i:k], whole[i:k]}} {
				for _, list := range [][]impl.Command{impl.SafeOf(x.a, x.b), impl.AgreedOf(x.a, x.b), impl.LeftOf(x.a, x.b)} {
					overwriteCommands(list)
				}
				if !slices.Equal(whole, before) {
					t.Fatalf("%q has changed: %q", lineOf(before), lineOf(whole))
				}
			}
		}
	}
}
