package tests

import (
	"fmt"
	"math/rand"
	"slices"
	"strings"
	"sync"
	"testing"

	"loop.example/filereconciler/impl"
)

// isIgnores tells without IgnoresValid whether paths can be ignored.
func isIgnores(list []string) bool {
	return len(list) <= 4 && !slices.ContainsFunc(list, func(p string) bool { return p == "/" || !isPath(p) })
}

// touchesOf tells by another way whether a command touches an ignored path:
// one path begins with the other one, and if the ignored path is the longer one, there is no directory for it.
func touchesOf(c impl.Command, ignored string) bool {
	n := min(len(c.Path), len(ignored))
	return c.Path[:n] == ignored[:n] && (len(c.Path) >= len(ignored) || c.To != dir)
}

// isInside tells whether a path is an ignored one or under it.
func isInside(p, ignored string) bool {
	return p == ignored || isBelow(p, ignored)
}

// ignoring is a log, and the paths that are ignored.
type ignoring struct {
	log     []impl.Command
	ignores []string
}

func (f ignoring) String() string {
	return fmt.Sprintf("%q without %q", lineOf(f.log), f.ignores)
}

// parted is FilterKeep and FilterHold by another way: the places of what is touched, path by path.
func (f ignoring) parted() (kept, held []impl.Command) {
	if !isLog(f.log) || !isIgnores(f.ignores) {
		return nil, nil
	}
	touched := map[int]bool{}
	for _, p := range f.ignores {
		for k, c := range f.log {
			if touchesOf(c, p) {
				touched[k] = true
			}
		}
	}
	for k, c := range f.log {
		if touched[k] {
			held = append(held, c)
		} else {
			kept = append(kept, c)
		}
	}
	return kept, held
}

// check tells that both functions return what they do by another way.
func (f ignoring) check(t *testing.T) {
	t.Helper()
	kept, held := f.parted()
	if got := impl.FilterKeep(f.log, f.ignores); !slices.Equal(got, kept) {
		t.Errorf("FilterKeep of %s is %q, not %q", shown(f), lineOf(got), lineOf(kept))
	}
	if got := impl.FilterHold(f.log, f.ignores); !slices.Equal(got, held) {
		t.Errorf("FilterHold of %s is %q, not %q", shown(f), lineOf(got), lineOf(held))
	}
}

// hasNothing tells that both functions return nothing.
func (f ignoring) hasNothing(t *testing.T) {
	t.Helper()
	if got := impl.FilterKeep(f.log, f.ignores); len(got) > 0 {
		t.Errorf("FilterKeep of %s is %s", shown(f), shown(got))
	}
	if got := impl.FilterHold(f.log, f.ignores); len(got) > 0 {
		t.Errorf("FilterHold of %s is %s", shown(f), shown(got))
	}
}

// filteredTree is FilterTree of a valid tree and paths by another way: the contents by their paths, without all that is ignored.
func filteredTree(list []impl.Node, ignores []string) []impl.Node {
	contents := contentsOf(list)
	for p := range contents {
		for _, ignored := range ignores {
			if isInside(p, ignored) {
				contents[p] = none
			}
		}
	}
	return nodesOf(contents)
}

// checkFilterTree tells that FilterTree returns what it does by another way.
func checkFilterTree(t *testing.T, list []impl.Node, ignores []string) {
	t.Helper()
	if got, want := impl.FilterTree(list, ignores), filteredTree(list, ignores); !sameNodes(got, want) {
		t.Errorf("FilterTree of %v without %q is %v, not %v", list, ignores, got, want)
	}
}

// pathsFrom makes paths from a line such as "/a /b/c".
func pathsFrom(line string) []string {
	return strings.Fields(line)
}

// pathNear returns a path at one of some others, above it, under it, or beside it, or any one.
func pathNear(r *rand.Rand, paths []string) string {
	p := []string{"/a", "/b", "/c", "/d"}[r.Intn(4)]
	if len(paths) > 0 {
		p = paths[r.Intn(len(paths))]
	}
	name := "/" + string("abcd"[r.Intn(4)])
	near := p
	switch r.Intn(6) {
	case 0:
		near = p + name
	case 1:
		near = parentOf(p)
	case 2:
		near = parentOf(p) + name
	case 3:
		near = allPaths()[1+r.Intn(len(allPaths())-1)]
	}
	if near == "/" || !isPath(near) {
		return p
	}
	return near
}

// ignoresNear returns n paths to ignore that are near some others. A path may come more than once.
func ignoresNear(r *rand.Rand, paths []string, n int) []string {
	var ignores []string
	for range n {
		ignores = append(ignores, pathNear(r, append(slices.Clone(paths), ignores...)))
	}
	return ignores
}

// Lists take long to make, so they are made once, and no test may change them.
var ignorings = sync.OnceValue(makeIgnorings)

// makeIgnorings returns logs of all lengths with paths to ignore that are near theirs, from none to IgnoreMax.
func makeIgnorings() []ignoring {
	r := rand.New(rand.NewSource(60))
	logs := slices.Concat(anyLogs(), chainedLogs())
	near := closePaths("ab")
	for n := range impl.LogMax + 1 {
		for range 20 {
			logs = append(logs, closeLog(r, near, n), wideLog(r, n))
		}
	}
	for i, log := range canonLogs() {
		if i%10 == 0 {
			logs = append(logs, log)
		}
	}
	list := []ignoring{{nil, nil}, {[]impl.Command{}, []string{}}, {nil, []string{"/a"}}}
	for _, log := range logs {
		for n := range impl.IgnoreMax + 1 {
			list = append(list, ignoring{log, ignoresNear(r, pathsOf(log), n)})
		}
	}
	return list
}

// someIgnores returns paths to ignore: none, each one, some near each other, and some twice, up to IgnoreMax.
func someIgnores() [][]string {
	lists := [][]string{nil, {}}
	for _, p := range allPaths()[1:] {
		lists = append(lists, []string{p})
	}
	for _, line := range []string{
		"/a /b", "/b /a", "/a /a", "/a /a/a", "/a/a /a", "/a /a/b /a/b/c /a/b/c/d", "/a/b/c/d /a/b/c /a/b /a", "/a /b /c /d", "/d /c /b /a",
		"/a /a /a /a", "/a /b /a /b", "/a/a /a/b /a/c /a/d", "/d/d/d/d /d/d/d/c /d/d/d/b /d/d/d/a", "/a/b /b/a", "/a/b/c /a/b/d", "/c /c /c",
	} {
		lists = append(lists, pathsFrom(line))
	}
	r := rand.New(rand.NewSource(61))
	for i := range 500 {
		lists = append(lists, ignoresNear(r, nil, i%5))
	}
	return lists
}

// notIgnores returns lists that can not be ignored: too many paths, and the root or a text that is no path, first, in the middle and last.
func notIgnores() [][]string {
	lists := [][]string{pathsFrom("/a /b /c /d /a/a"), pathsFrom("/a /a /a /a /a"), pathsFrom("/d /c /b /a /a/b"), pathsFrom("/a /a/b /a/b/c /a/b/c/d /b"),
		make([]string, 1), make([]string, 4), make([]string, 5), make([]string, 100000), slices.Repeat([]string{"/a"}, 100000), slices.Repeat([]string{"/"}, 4),
		pathsFrom("/ /"), allPaths(), allPaths()[1:], allPaths()[1:6]}
	for _, n := range []int{5, 6, 7, 8, 255, 256, 257, 260, 65536, 65540} {
		lists = append(lists, slices.Repeat([]string{"/d/d"}, n), slices.Repeat(pathsFrom("/a /b /c /d"), n)[:n])
	}
	for _, bad := range append([]string{"/"}, notPaths...) {
		for _, good := range []string{"", "/a", "/a/b /c", "/b /b /d/a/b/c"} {
			paths := pathsFrom(good)
			for k := range len(paths) + 1 {
				lists = append(lists, slices.Insert(slices.Clone(paths), k, bad))
			}
		}
	}
	return lists
}

// markedTexts returns a copy of texts that has spare capacity, and the whole array behind it.
func markedTexts(list []string) ([]string, []string) {
	array := append(slices.Clone(list), "mark", "mark", "mark")
	return array[:len(list)], array
}
