package tests

import (
	"strings"
	"testing"

	"loop.example/filereconciler/impl"
)

func TestDepthMax(t *testing.T) {
	if impl.DepthMax != 4 {
		t.Errorf("DepthMax is %d", impl.DepthMax)
	}
}

func TestPathDepthTable(t *testing.T) {
	for s, want := range map[string]int{
		"/": 0, "/a": 1, "/d": 1, "/a/b": 2, "/a/a": 2, "/d/c/b": 3, "/a/b/c/d": 4, "/d/d/d/d": 4,
	} {
		if got := impl.PathDepth(s); got != want {
			t.Errorf("PathDepth(%q) is %d, not %d", s, got, want)
		}
	}
}

func TestTextsThatAreNoPaths(t *testing.T) {
	for _, s := range notPaths {
		if impl.PathValid(s) {
			t.Errorf("PathValid(%.50q) holds", s)
		}
		if n := impl.PathDepth(s); n != -1 {
			t.Errorf("PathDepth(%.50q) is %d", s, n)
		}
		if p := impl.PathParent(s); p != "" {
			t.Errorf("PathParent(%.50q) is %q", s, p)
		}
		for _, p := range append(allPaths(), "", s, s+"/a") {
			if impl.PathUnder(p, s) || impl.PathUnder(s, p) {
				t.Fatalf("PathUnder holds for %.50q and %.50q in one direction", p, s)
			}
		}
	}
}

// Promise 1.
func TestDepthIsHalfTheBytes(t *testing.T) {
	for _, s := range manyTexts() {
		n := impl.PathDepth(s)
		if n > 0 && 2*n != len(s) {
			t.Errorf("PathDepth(%q) is %d for %d bytes", s, n, len(s))
		}
		if (n == 0) != (s == "/") {
			t.Errorf("PathDepth(%q) is %d", s, n)
		}
	}
	for _, s := range allPaths()[1:] {
		if n := impl.PathDepth(s); n != len(s)/2 {
			t.Errorf("PathDepth(%q) is %d", s, n)
		}
	}
}

// Promise 2.
func TestDepthTellsWhatIsValid(t *testing.T) {
	for _, s := range manyTexts() {
		valid, n := impl.PathValid(s), impl.PathDepth(s)
		if valid != isPath(s) {
			t.Errorf("PathValid(%.50q) is %v", s, valid)
		}
		if valid != (n != -1) {
			t.Errorf("PathValid(%.50q) is %v, PathDepth is %d", s, valid, n)
		}
	}
}

func TestPathParentTable(t *testing.T) {
	for s, want := range map[string]string{
		"/": "", "/a": "/", "/d": "/", "/a/b": "/a", "/b/a/a": "/b/a", "/a/b/c/d": "/a/b/c",
		"/a/": "", "//": "", "/a//": "", "": "", "/e": "", "/a/e": "", "/a/b/c/d/a": "",
	} {
		if got := impl.PathParent(s); got != want {
			t.Errorf("PathParent(%q) is %q, not %q", s, got, want)
		}
	}
}

// Promise 3.
func TestParentHasOneNameLess(t *testing.T) {
	for _, s := range manyTexts() {
		parent := impl.PathParent(s)
		if (parent != "") != (isPath(s) && s != "/") {
			t.Errorf("PathParent(%.50q) is %q", s, parent)
		}
		if parent == "" {
			continue
		}
		if !impl.PathValid(parent) || impl.PathDepth(parent) != impl.PathDepth(s)-1 {
			t.Errorf("PathParent(%q) is %q", s, parent)
		}
		if !impl.PathUnder(parent, s) || impl.PathUnder(s, parent) {
			t.Errorf("PathUnder is wrong for %q and its parent %q", s, parent)
		}
	}
}

func TestPathUnderTable(t *testing.T) {
	rows := []struct {
		a, b string
		want bool
	}{
		{"/a", "/a/b", true}, {"/a", "/a/a", true}, {"/a", "/a/b/c/d", true}, {"/a/b/c", "/a/b/c/d", true},
		{"/", "/a", true}, {"/", "/d/c/b/a", true},
		{"/", "/", false}, {"/a", "/a", false}, {"/a", "/", false}, {"/a/b", "/a", false},
		{"/a", "/b", false}, {"/a", "/b/a", false}, {"/b", "/a/b", false}, {"/a/b", "/a/c/b", false},
		{"/a/b", "/a/c", false}, {"/a/b", "/b/a/b", false},
		{"/a", "/ab", false}, {"/a", "/a/", false}, {"/a", "/a//", false}, {"/a/", "/a/b", false},
		{"/", "//", false}, {"//", "//a", false}, {"/", "", false}, {"", "/a", false}, {"", "", false},
		{"/e", "/e/a", false}, {"/a", "/a/e", false}, {"/", "/e", false}, {"", "a", false}, {"a", "a/b", false},
		{"/a/b/c/d", "/a/b/c/d/a", false}, {"/a", "/a/b/c/d/a", false}, {"/", "/a/b/c/d/a", false},
	}
	for _, r := range rows {
		if got := impl.PathUnder(r.a, r.b); got != r.want {
			t.Errorf("PathUnder(%q, %q) is %v", r.a, r.b, got)
		}
	}
}

// Promise 4.
func TestUnderGoesByParents(t *testing.T) {
	list := allPaths()
	for _, a := range list {
		for _, b := range list {
			parent := impl.PathParent(b)
			byParent := parent != "" && (a == parent || impl.PathUnder(a, parent))
			if got := impl.PathUnder(a, b); got != byParent {
				t.Errorf("PathUnder(%q, %q) is %v, with the parent %q", a, b, got, parent)
			}
		}
	}
}

// Promise 5.
func TestAllIsUnderTheRootAndNothingUnderItself(t *testing.T) {
	for _, s := range allPaths() {
		if got := impl.PathUnder("/", s); got != (s != "/") {
			t.Errorf("PathUnder of the root and %q is %v", s, got)
		}
		if impl.PathUnder(s, s) {
			t.Errorf("PathUnder holds for %q and itself", s)
		}
		if impl.PathUnder(s, "/") {
			t.Errorf("PathUnder holds for %q and the root", s)
		}
	}
}

func TestPathNormalTable(t *testing.T) {
	rows := []struct {
		text, want string
	}{
		{"/", "/"}, {"//", "/"}, {"///", "/"}, {"/.", "/"}, {"/./", "/"}, {"/./.", "/"},
		{"/a", "/a"}, {"/a/", "/a"}, {"/a//", "/a"}, {"//a", "/a"}, {"/a/b/c/d/", "/a/b/c/d"}, {"/a/b/c/d//", "/a/b/c/d"},
		{"/a/..", "/"}, {"/a/../", "/"}, {"/a/b/../c", "/a/c"}, {"/a/./b/..//c", "/a/c"}, {"/a/../b", "/b"},
		{"/a/b/../../c/./d//", "/c/d"}, {"/a/./..", "/"}, {"/a//..", "/"},
		// More than DepthMax names on the way.
		{"/a/b/c/d/a/..", "/a/b/c/d"}, {"/a/b/c/d/a/b/../..", "/a/b/c/d"}, {"/a/b/c/d/a/../../b", "/a/b/c/b"},
		{"/a/a/a/a/a/../../../../../", "/"}, {"/a/b/c/d/d/d/d/d/../../../../../../.././", "/a"},
		{"/a/b/c/d/a/b/c/d/a/b/../../../../../..", "/a/b/c/d"},
	}
	for _, r := range rows {
		if got, ok := impl.PathNormal(r.text); !ok || got != r.want {
			t.Errorf("PathNormal(%q) is %q, %v, not %q", r.text, got, ok, r.want)
		}
	}
}

func TestPathNormalFails(t *testing.T) {
	for _, s := range []string{
		"", "a", "a/b", ".", "..", "./a", " /a", "\x00/a",
		"/e", "/`", "/A", "/ ", "/a ", "/aa", "/a/bc", "/0", "/\x00", "/a\x00", "/\xff", "/a/\x80", "/\u00e1", "/a\n", "/a\\b",
		"/...", "/a/...", "/....", "/.a", "/a.", "/..a", "/a..", "/a/b./..", "/e/..", "/aa/..", "/.../..",
		"/..", "/../", "/../a", "/./..", "//..", "/a/../..", "/a/../../a", "/a/b/../../../a/b", "/a/.././..",
		"/a/b/c/d/a", "/a/b/c/d/a/", "/a/b/c/d/./a", "/a/b/c/d/a/b/..", "/a/b/../b/c/d/a", strings.Repeat("/a", 20),
	} {
		if got, ok := impl.PathNormal(s); ok || got != "" {
			t.Errorf("PathNormal(%q) is %q, %v", s, got, ok)
		}
	}
}

func TestPathNormalLength(t *testing.T) {
	rows := []struct {
		beginning, repeated, end, want string
	}{
		{"", "/", "", "/"}, {"/a", "/", "", "/a"}, {"/a/b/c/d", "/", "", "/a/b/c/d"}, {"", "/", "/b", "/b"},
		{"", "/.", "", "/"}, {"/d/c/b/a", "/.", "", "/d/c/b/a"}, {"/b", "/a/..", "//", "/b"},
	}
	for _, r := range rows {
		for n := range 45 {
			text := r.beginning + strings.Repeat(r.repeated, n) + r.end
			want, fits := r.want, len(text) <= 40
			if !fits {
				want = ""
			}
			if got, ok := impl.PathNormal(text); text != "" && (ok != fits || got != want) {
				t.Errorf("PathNormal of %q with %d bytes is %q, %v", text, len(text), got, ok)
			}
		}
	}
	full := "/a/b" + strings.Repeat("/.", 18)
	if got, ok := impl.PathNormal(full); len(full) != 40 || !ok || got != "/a/b" {
		t.Errorf("PathNormal of %d bytes is %q, %v", len(full), got, ok)
	}
	if got, ok := impl.PathNormal(full + "/"); ok || got != "" {
		t.Errorf("PathNormal of %d bytes is %q, %v", len(full)+1, got, ok)
	}
	for _, s := range []string{strings.Repeat("/", 100000), strings.Repeat("/.", 100000), strings.Repeat("/a/..", 100000)} {
		if got, ok := impl.PathNormal(s); ok || got != "" {
			t.Errorf("PathNormal of %d bytes is %q, %v", len(s), got, ok)
		}
	}
}

// wayTexts returns all texts of at most 7 parts that add a name, go to the parent, or change nothing.
func wayTexts() []string {
	list := []string{""}
	longest := list
	for range 7 {
		var next []string
		for _, s := range longest {
			for _, part := range []string{"/a", "/..", "/.", "/", "/d"} {
				next = append(next, s+part)
			}
		}
		list = append(list, next...)
		longest = next
	}
	return list
}

// Promise 6, and what PathNormal returns for every short text.
func TestNormalIsAPathAndStays(t *testing.T) {
	for _, s := range append(manyTexts(), wayTexts()...) {
		got, ok := impl.PathNormal(s)
		if want, fine := normalOf(s); got != want || ok != fine {
			t.Errorf("PathNormal(%.50q) is %q, %v, not %q, %v", s, got, ok, want, fine)
		}
		if !ok {
			continue
		}
		if !impl.PathValid(got) {
			t.Errorf("PathNormal(%q) is %q", s, got)
		}
		if again, ok := impl.PathNormal(got); !ok || again != got {
			t.Errorf("PathNormal(%q) is %q, and of that %q, %v", s, got, again, ok)
		}
	}
}

// Promise 7.
func TestNormalWithWhatChangesNothingBehind(t *testing.T) {
	list := append(manyTexts(), wayTexts()...)
	list = append(list, "/a/b/c/d"+strings.Repeat("/.", 11), "/a"+strings.Repeat("/", 28), strings.Repeat("/b/..", 6))
	full := 0
	for _, s := range list {
		want, ok := impl.PathNormal(s)
		if !ok || len(s) > 30 {
			continue
		}
		if len(s) == 30 {
			full++
		}
		for _, behind := range []string{"/.", "/", "/a/..", "/b/..", "/c/..", "/d/.."} {
			if got, ok := impl.PathNormal(s + behind); !ok || got != want {
				t.Errorf("PathNormal(%q) is %q, and with %q behind it %q, %v", s, want, behind, got, ok)
			}
		}
	}
	if full < 3 {
		t.Errorf("only %d texts had 30 bytes", full)
	}
}

// Promise 8.
func TestNormalOfAPathIsThePath(t *testing.T) {
	for _, s := range allPaths() {
		if got, ok := impl.PathNormal(s); !ok || got != s {
			t.Errorf("PathNormal(%q) is %q, %v", s, got, ok)
		}
	}
}
