package tests

import (
	"slices"
	"testing"

	"loop.example/filereconciler/impl"
)

func TestIgnoreMax(t *testing.T) {
	if impl.IgnoreMax != 4 {
		t.Errorf("IgnoreMax is %d", impl.IgnoreMax)
	}
}

func TestIgnoresValidTable(t *testing.T) {
	for _, r := range []struct {
		what, line string
		valid      bool
	}{
		{"no paths", "", true},
		{"one", "/a", true},
		{"a long one", "/d/c/b/a", true},
		{"two", "/a /b", true},
		{"three, out of order", "/c /b/a /a", true},
		{"as many as can be", "/a /b /c /d", true},
		{"as many as can be, long ones", "/a/b/c/d /d/d/d/d /a/a/a/a /b/b/c/a", true},
		{"one more", "/a /b /c /d /a/a", false},
		{"two more", "/a /b /c /d /a/a /b/b", false},
		{"the same path twice", "/a /a", true},
		{"the same path twice, apart", "/a /b/c /a", true},
		{"the same path as often as can be", "/a/b /a/b /a/b /a/b", true},
		{"the same path once more", "/a/b /a/b /a/b /a/b /a/b", false},
		{"the same path twice, one more", "/a /a /b /c /d", false},
		{"under each other", "/a /a/b /a/b/c /a/b/c/d", true},
		{"under each other, the longest one first", "/a/b/c/d /a/b/c /a/b /a", true},
		{"the root", "/", false},
		{"the root first", "/ /a", false},
		{"the root last", "/a /", false},
		{"the root between", "/a / /b", false},
		{"the root and as many as can be", "/a /b /c /", false},
		{"a slash at its end", "/a/", false},
		{"no slash", "a", false},
		{"another name", "/e", false},
		{"a long name", "/ab", false},
		{"a long name behind its beginning", "/a /ab", false},
		{"five names", "/a/b/c/d/a", false},
		{"no path first", "/e /a", false},
		{"no path last", "/a /b /c /e", false},
		{"no path between", "/a /e/a /c", false},
	} {
		list := pathsFrom(r.line)
		if isIgnores(list) != r.valid {
			t.Fatalf("%s: %q are ignored is %v", r.what, list, !r.valid)
		}
		if got := impl.IgnoresValid(list); got != r.valid {
			t.Errorf("%s: IgnoresValid of %q is %v", r.what, list, got)
		}
	}
}

func TestIgnoresValidOfAllTexts(t *testing.T) {
	for _, s := range manyTexts() {
		valid := isPath(s) && s != "/"
		for _, list := range [][]string{{s}, {s, "/a"}, {"/a", s}, {"/a", s, "/b/c"}, {"/a", "/b", "/c", s}, {s, s}, {s, s, s, s}} {
			if got := impl.IgnoresValid(list); got != valid {
				t.Errorf("IgnoresValid of %s is %v", shown(list), got)
			}
		}
		for _, list := range [][]string{{s, "/"}, {"/", s}, {"/a", "/b", "/c", "/d", s}, {s, "/a", "/b", "/c", "/d"}, {s, s, s, s, s}} {
			if impl.IgnoresValid(list) {
				t.Errorf("IgnoresValid of %s holds", shown(list))
			}
		}
	}
}

func TestIgnoresValidOfAllLengths(t *testing.T) {
	for n := range 600 {
		for _, list := range [][]string{slices.Repeat([]string{"/c/d"}, n), slices.Repeat(allPaths()[1:], 2)[:n]} {
			if got := impl.IgnoresValid(list); got != (n <= 4) {
				t.Errorf("IgnoresValid of %d paths is %v", n, got)
			}
		}
	}
	for _, list := range someIgnores() {
		if !isIgnores(list) || !impl.IgnoresValid(list) {
			t.Errorf("IgnoresValid of %q does not hold", list)
		}
	}
	for _, list := range notIgnores() {
		if isIgnores(list) || impl.IgnoresValid(list) {
			t.Errorf("IgnoresValid of %s holds", shown(list))
		}
	}
}

// Promise 109.
func TestIgnoredPathsWithoutOneAndWithTheRoot(t *testing.T) {
	lists := someIgnores()
	for _, f := range ignorings() {
		lists = append(lists, f.ignores)
	}
	for _, list := range lists {
		if !impl.IgnoresValid(list) {
			t.Errorf("IgnoresValid of %q does not hold", list)
		}
		for k := range list {
			if fewer := slices.Delete(slices.Clone(list), k, k+1); !impl.IgnoresValid(fewer) {
				t.Errorf("IgnoresValid of %q does not hold", fewer)
			}
			other := slices.Clone(list)
			other[k] = "/"
			if impl.IgnoresValid(other) {
				t.Errorf("IgnoresValid of %q holds", other)
			}
		}
		for k := range len(list) + 1 {
			if more := slices.Insert(slices.Clone(list), k, "/"); impl.IgnoresValid(more) {
				t.Errorf("IgnoresValid of %q holds", more)
			}
		}
	}
}

// A log, ignored paths, and what is kept and held.
var filterRows = []struct {
	what, log, ignores string
	kept, held         string
}{
	{"nothing", "", "", "", ""},
	{"no commands", "", "/a /b", "", ""},
	{"no ignored paths", "/a - d, /a/b - f1, /c d -", "", "/a - d, /a/b - f1, /c d -", ""},
	{"the one path", "/a - f1", "/a", "", "/a - f1"},
	{"another path", "/a - f1", "/b", "/a - f1", ""},
	{"all are touched", "/a - f1, /b d -, /c f1 f2", "/a /b /c", "", "/a - f1, /b d -, /c f1 f2"},
	{"none is touched", "/a - f1, /b d -, /c f1 f2", "/d", "/a - f1, /b d -, /c f1 f2", ""},
	{"the first one", "/a - f1, /b d -, /c f1 f2", "/a", "/b d -, /c f1 f2", "/a - f1"},
	{"one between", "/a - f1, /b d -, /c f1 f2", "/b", "/a - f1, /c f1 f2", "/b d -"},
	{"the last one", "/a - f1, /b d -, /c f1 f2", "/c", "/a - f1, /b d -", "/c f1 f2"},
	{"the first and the last one", "/a - f1, /b d -, /c f1 f2", "/c /a", "/b d -", "/a - f1, /c f1 f2"},

	{"at an ignored path, each kind", "/a/b - d, /a/b - f1, /a/b d -, /a/b d f1, /a/b f1 -, /a/b f1 d, /a/b f1 f2", "/a/b", "",
		"/a/b - d, /a/b - f1, /a/b d -, /a/b d f1, /a/b f1 -, /a/b f1 d, /a/b f1 f2"},
	{"under one, each kind", "/a/b - d, /a/b - f1, /a/b d -, /a/b d f1, /a/b f1 -, /a/b f1 d, /a/b f1 f2", "/a", "",
		"/a/b - d, /a/b - f1, /a/b d -, /a/b d f1, /a/b f1 -, /a/b f1 d, /a/b f1 f2"},
	{"above one, each kind", "/a/b - d, /a/b - f1, /a/b d -, /a/b d f1, /a/b f1 -, /a/b f1 d, /a/b f1 f2", "/a/b/c",
		"/a/b - d, /a/b f1 d", "/a/b - f1, /a/b d -, /a/b d f1, /a/b f1 -, /a/b f1 f2"},
	{"beside one, each kind", "/a/b - d, /a/b - f1, /a/b d -, /a/b d f1, /a/b f1 -, /a/b f1 d, /a/b f1 f2", "/a/c",
		"/a/b - d, /a/b - f1, /a/b d -, /a/b d f1, /a/b f1 -, /a/b f1 d, /a/b f1 f2", ""},
	{"three names under one", "/a/b/c/d - d, /a/b/c/d f1 -, /b/b/c/d f1 -", "/a", "/b/b/c/d f1 -", "/a/b/c/d - d, /a/b/c/d f1 -"},
	{"three names above one", "/a - d, /a d -, /a f1 f2, /b d -", "/a/b/c/d", "/a - d, /b d -", "/a d -, /a f1 f2"},
	{"beside one, names that begin alike", "/a/c - f1, /a/c/b - f1, /b/a/b f1 -, /b d -, /a/a d -, /a/b - f1, /c/a/b - d", "/a/b",
		"/a/c - f1, /a/c/b - f1, /b/a/b f1 -, /b d -, /a/a d -, /c/a/b - d", "/a/b - f1"},
	{"beside one, the same last names", "/a - d, /b/a - d, /c/b/a d -, /d/c/b/a f1 -", "/a", "/b/a - d, /c/b/a d -, /d/c/b/a f1 -", "/a - d"},
	{"beside a long one, other names from each place on", "/a/a/a/b d -, /a/a/b d -, /a/b/a d -, /b/a/a d -, /b d -, /a/a/a/a d -", "/a/a/a/a",
		"/a/a/a/b d -, /a/a/b d -, /a/b/a d -, /b/a/a d -, /b d -", "/a/a/a/a d -"},

	{"a directory above one is made", "/a - d, /a/b - f1", "/a/b", "/a - d", "/a/b - f1"},
	{"a directory above one ends", "/a/b f1 -, /a d -", "/a/b", "", "/a/b f1 -, /a d -"},
	{"a directory above one becomes a file", "/a/b f1 -, /a d f2", "/a/b", "", "/a/b f1 -, /a d f2"},
	{"a file above one becomes a directory", "/a f1 d, /a/b - f2", "/a/b", "/a f1 d", "/a/b - f2"},
	{"a file above one changes", "/a f1 f2, /b f1 f2", "/a/b", "/b f1 f2", "/a f1 f2"},
	{"a file above one is made, and removed", "/a - f1, /a f1 -", "/a/b", "", "/a - f1, /a f1 -"},
	{"several directories above one are made", "/a - d, /a/b - d, /a/b/c - d, /a/b/c/d - d", "/a/b/c/d", "/a - d, /a/b - d, /a/b/c - d", "/a/b/c/d - d"},
	{"several directories above one end", "/a/b/c/d d -, /a/b/c d -, /a/b d -, /a d -, /b d -", "/a/b/c/d", "/b d -", "/a/b/c/d d -, /a/b/c d -, /a/b d -, /a d -"},
	{"several directories above one end, the last one as a file", "/a/b/c d -, /a/b d -, /a d f1", "/a/b/c/d", "", "/a/b/c d -, /a/b d -, /a d f1"},
	{"some directories above one", "/a/b/c d -, /a/b d f1, /a - d", "/a/b/c/d", "/a - d", "/a/b/c d -, /a/b d f1"},
	{"all in a directory ends, and it", "/a/c f1 -, /a/b f1 -, /a d -", "/a/b", "/a/c f1 -", "/a/b f1 -, /a d -"},
	{"a directory above one ends, and begins", "/a d -, /a - d, /a d f1, /a f1 d", "/a/b/c", "/a - d, /a f1 d", "/a d -, /a d f1"},
	{"directories in different places", "/c/b d -, /c d -, /b d f1, /a - d", "/a/b /b/c /c/b/a", "/a - d", "/c/b d -, /c d -, /b d f1"},

	{"under each other, the shorter one is all", "/a - d, /a/b - d, /a/b/c - f1, /a/d - f1", "/a /a/b /a/b/c", "", "/a - d, /a/b - d, /a/b/c - f1, /a/d - f1"},
	{"under each other, above both", "/a - d, /a/b - d, /a/b/c - f1, /a/d - f1", "/a/b/c /a/b", "/a - d, /a/d - f1", "/a/b - d, /a/b/c - f1"},
	{"under each other, a directory above both ends", "/a/b/c f1 -, /a/b d -, /a/d d -, /a d -", "/a/b /a/b/c", "/a/d d -", "/a/b/c f1 -, /a/b d -, /a d -"},
	{"under each other, the directory itself is one", "/a - d, /b - d", "/a /a/b", "/b - d", "/a - d"},
	{"a directory that is above one and is another one", "/a/b - d, /a - d", "/a/b/c /a/b", "/a - d", "/a/b - d"},
	{"beside each other in one directory", "/a - d, /a/b - f1, /a/c - f2, /a/d - f3", "/a/b /a/c", "/a - d, /a/d - f3", "/a/b - f1, /a/c - f2"},
	{"the same path twice", "/a - d, /b - d", "/a /a", "/b - d", "/a - d"},
	{"the same path as often as can be", "/a - d, /b - d, /b/c d -", "/b/c /b/c /b/c /b/c", "/a - d, /b - d", "/b/c d -"},
	{"as many as can be", "/a - f1, /b - f2, /c - f3, /d - f4, /d/d - f5", "/a /b /c /d", "", "/a - f1, /b - f2, /c - f3, /d - f4, /d/d - f5"},
	{"only the last one of them", "/a - f1, /b - f2, /c - f3, /d - f4", "/a/a /b/b /c/c /d", "", "/a - f1, /b - f2, /c - f3, /d - f4"},
	{"each of them", "/a - d, /a/b - f1, /b - f2, /c - d, /c/c - f1, /d f1 d", "/a/b /b /c/c /d/d", "/a - d, /c - d, /d f1 d", "/a/b - f1, /b - f2, /c/c - f1"},

	{"the same command twice", "/a - f1, /b - f1, /a - f1, /b - f1", "/a", "/b - f1, /b - f1", "/a - f1, /a - f1"},
	{"a path twice", "/a - d, /a/b f1 f2, /a d -", "/a/b/c", "/a - d", "/a/b f1 f2, /a d -"},
	{"out of order", "/d - f1, /c - f1, /b/a - f1, /a - f1, /b - d", "/b/a /c", "/d - f1, /a - f1, /b - d", "/c - f1, /b/a - f1"},
	{"all values", "/a f0 f99, /a f99 f0, /b f0 f99, /a f98 d", "/a/b", "/b f0 f99, /a f98 d", "/a f0 f99, /a f99 f0"},
}

func TestFiltersTable(t *testing.T) {
	for _, r := range filterRows {
		f := ignoring{logFrom(r.log), pathsFrom(r.ignores)}
		if !isLog(f.log) || !isIgnores(f.ignores) {
			t.Fatalf("%s: %v is invalid", r.what, f)
		}
		if got := impl.FilterKeep(f.log, f.ignores); lineOf(got) != r.kept {
			t.Errorf("%s: FilterKeep of %v is %q", r.what, f, lineOf(got))
		}
		if got := impl.FilterHold(f.log, f.ignores); lineOf(got) != r.held {
			t.Errorf("%s: FilterHold of %v is %q", r.what, f, lineOf(got))
		}
		f.check(t)
		// The order of the ignored paths makes no difference.
		slices.Reverse(f.ignores)
		f.check(t)
	}
}

// Commands of each kind at each path, with each path that can be ignored.
func TestFiltersOfEachTwoPaths(t *testing.T) {
	paths := allPaths()[1:]
	for _, p := range paths {
		log := orderCommandsAt(p)
		for _, ignored := range paths {
			f := ignoring{log, []string{ignored}}
			f.check(t)
			n := 0
			switch {
			case isInside(p, ignored):
				n = 7
			case isBelow(ignored, p):
				n = 5
			}
			if held := impl.FilterHold(f.log, f.ignores); len(held) != n {
				t.Errorf("FilterHold of %v is %q", f, lineOf(held))
			}
		}
	}
}

// When a command is kept while /a/b/c is ignored, by its path.
var (
	neverKept     = []string{"/a/b/c", "/a/b/c/d"}
	keptAsAParent = []string{"/a", "/a/b"}
	alwaysKept    = []string{"/a/b/d", "/a/c", "/b"}
)

func TestFiltersOfEachTwoContents(t *testing.T) {
	for _, from := range validContents() {
		for _, to := range validContents() {
			if from == to {
				continue
			}
			for _, p := range slices.Concat(neverKept, keptAsAParent, alwaysKept) {
				c := impl.Command{Path: p, From: from, To: to}
				want := slices.Contains(alwaysKept, p) || slices.Contains(keptAsAParent, p) && to == dir
				kept, held := impl.FilterKeep([]impl.Command{c}, []string{"/a/b/c"}), impl.FilterHold([]impl.Command{c}, []string{"/a/b/c"})
				if len(kept) == 1 != want || len(held) == 0 != want {
					t.Errorf("FilterKeep of %q is %q, and FilterHold is %q", wordsOf(c), lineOf(kept), lineOf(held))
				}
			}
		}
	}
}

func TestFiltersOfManyLogs(t *testing.T) {
	for _, f := range ignorings() {
		f.check(t)
	}
}

// Commands at each place of logs of each length are touched, and no others.
func TestFiltersOfAllLengths(t *testing.T) {
	for n := range 2 * impl.LogMax {
		for k := range n {
			log := sameAt(pathsUnder("/a", n), "-", "f1")
			log[k] = commandFrom("/b/c d -")
			for _, ignored := range []string{"/b/c", "/b", "/b/c/d"} {
				f := ignoring{log, []string{ignored}}
				f.check(t)
				kept, held := impl.FilterKeep(f.log, f.ignores), impl.FilterHold(f.log, f.ignores)
				if n > impl.LogMax {
					f.hasNothing(t)
				} else if len(kept) != n-1 || len(held) != 1 || held[0] != log[k] || slices.Contains(kept, log[k]) {
					t.Errorf("FilterKeep of %v is %q, and FilterHold is %q", f, lineOf(kept), lineOf(held))
				}
			}
		}
		all := ignoring{sameAt(pathsUnder("/a", n), "-", "f1"), []string{"/a"}}
		other := ignoring{all.log, []string{"/b"}}
		all.check(t)
		other.check(t)
		if held, kept := impl.FilterHold(all.log, all.ignores), impl.FilterKeep(other.log, other.ignores); n <= impl.LogMax && (len(held) != n || len(kept) != n) {
			t.Errorf("FilterHold of %v is %q, and FilterKeep of %v is %q", all, lineOf(held), other, lineOf(kept))
		}
	}
}

// Directories above an ignored path, of which each one is left as something.
func TestDirectoriesAboveIgnoredPaths(t *testing.T) {
	above := []string{"/d", "/d/c", "/d/c/b"}
	contents := []impl.Content{none, dir, fileOf(0), fileOf(99)}
	for _, ignored := range []string{"/d/c/b/a", "/d/c/b", "/d/c", "/d", "/d/c/a", "/d/b", "/a"} {
		for _, x := range contents {
			for _, y := range contents {
				for _, z := range contents {
					var log, want []impl.Command
					for k, to := range []impl.Content{x, y, z} {
						c := impl.Command{Path: above[k], From: fileOf(5), To: to}
						log = append(log, c)
						// At the ignored path and below, nothing is kept; above it, what is left as a directory.
						if !isInside(above[k], ignored) && (!isBelow(ignored, above[k]) || to == dir) {
							want = append(want, c)
						}
					}
					f := ignoring{log, []string{ignored}}
					if got := impl.FilterKeep(f.log, f.ignores); !slices.Equal(got, want) {
						t.Errorf("FilterKeep of %v is %q, not %q", f, lineOf(got), lineOf(want))
					}
					f.check(t)
				}
			}
		}
	}
}
