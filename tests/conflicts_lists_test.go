package tests

import (
	"fmt"
	"math/rand"
	"slices"
	"strings"
	"sync"

	"loop.example/filereconciler/impl"
)

// leavesOf returns, by their paths, the contents in each tree that has To of a command at its path.
func leavesOf(c impl.Command) map[string]impl.Content {
	contents := map[string]impl.Content{c.Path: c.To}
	if c.To != none {
		for p := parentOf(c.Path); p != "/"; p = parentOf(p) {
			contents[p] = dir
		}
	}
	return contents
}

// apartFrom tells whether no tree has the contents of both.
func apartFrom(x, y map[string]impl.Content) bool {
	for p, c := range x {
		if d, there := y[p]; there && c != d {
			return true
		}
	}
	return false
}

// clashOf is CommandsClash by another way: no tree has what both leave.
func clashOf(c, d impl.Command) bool {
	return isCommand(c) && isCommand(d) && apartFrom(leavesOf(c), leavesOf(d))
}

// facing is the logs of two sides.
type facing struct{ a, b []impl.Command }

func (f facing) String() string {
	return fmt.Sprintf("%q and %q", lineOf(f.a), lineOf(f.b))
}

// turned returns both logs exchanged.
func (f facing) turned() facing {
	return facing{f.b, f.a}
}

// clashes is ClashesOf by another way.
func (f facing) clashes() []impl.Clash {
	if !isCanon(f.a) || !isCanon(f.b) {
		return nil
	}
	var below []map[string]impl.Content
	for _, d := range f.b {
		below = append(below, leavesOf(d))
	}
	var list []impl.Clash
	for i, c := range f.a {
		x := leavesOf(c)
		for k := range f.b {
			if apartFrom(x, below[k]) {
				list = append(list, impl.Clash{A: i, B: k})
			}
		}
	}
	return list
}

// parted is SafeOf, AgreedOf, and LeftOf of both logs exchanged, by another way: each command of the second log goes to one of them.
func (f facing) parted() (safe, agreed, left []impl.Command) {
	if !isCanon(f.a) || !isCanon(f.b) {
		return nil, nil, nil
	}
	inFirst, inConflict := map[impl.Command]bool{}, map[int]bool{}
	for _, c := range f.a {
		inFirst[c] = true
	}
	for _, x := range f.clashes() {
		inConflict[x.B] = true
	}
	for k, d := range f.b {
		switch {
		case inConflict[k]:
			left = append(left, d)
		case inFirst[d]:
			agreed = append(agreed, d)
		default:
			safe = append(safe, d)
		}
	}
	return safe, agreed, left
}

// turnedClashes returns conflicts with A and B exchanged, in order.
func turnedClashes(list []impl.Clash) []impl.Clash {
	var other []impl.Clash
	for _, x := range list {
		other = append(other, impl.Clash{A: x.B, B: x.A})
	}
	slices.SortFunc(other, func(x, y impl.Clash) int {
		if x.A != y.A {
			return x.A - y.A
		}
		return x.B - y.B
	})
	return other
}

// clashLine returns conflicts as a line such as "0:1 2:0".
func clashLine(list []impl.Clash) string {
	var words []string
	for _, x := range list {
		words = append(words, fmt.Sprintf("%d:%d", x.A, x.B))
	}
	return strings.Join(words, " ")
}

// overwriteClashes puts another conflict at each place of a list, and behind it up to its capacity.
func overwriteClashes(list []impl.Clash) {
	list = list[:cap(list)]
	for i := range list {
		list[i] = impl.Clash{A: mark, B: mark}
	}
}

// otherLog returns a canonical log that is near another one: commands stay, are missing, come from elsewhere, lead elsewhere, or are there besides.
func otherLog(r *rand.Rand, log []impl.Command, paths []string) []impl.Command {
	var other []impl.Command
	for _, c := range log {
		changed := orderContents[r.Intn(len(orderContents))]
		switch d := c; r.Intn(6) {
		case 0:
			continue
		case 1:
			d.From = changed[0]
			if isCommand(d) {
				c = d
			}
		case 2:
			d.To = changed[1]
			if isCommand(d) {
				c = d
			}
		}
		other = append(other, c)
	}
	for _, c := range closeLog(r, paths, r.Intn(5)) {
		if len(other) < impl.LogMax && len(onPath(other, c.Path)) == 0 {
			other = append(other, c)
		}
	}
	return orderedOf(other)
}

// contraryLog returns a canonical log at the paths of another one whose commands all leave something else.
func contraryLog(log []impl.Command) []impl.Command {
	var other []impl.Command
	for _, c := range log {
		other = append(other, impl.Command{Path: c.Path, From: c.From, To: fileOf(44)})
	}
	return orderedOf(other)
}

// Logs take long to make, so they are made once, and no test may change them.
var facingLogs = sync.OnceValue(makeFacingLogs)

// makeFacingLogs returns pairs of canonical logs of all lengths: those that fit a tree, those that are close to each other, and those that are not.
func makeFacingLogs() []facing {
	list := []facing{{nil, nil}, {[]impl.Command{}, nil}, {nil, []impl.Command{}}}
	r := rand.New(rand.NewSource(40))
	near := closePaths("ab")
	for n := range impl.LogMax + 1 {
		for range 10 {
			log, few := orderedOf(closeLog(r, near, n)), orderedOf(closeLog(r, near, r.Intn(3)))
			list = append(list, facing{log, otherLog(r, log, near)}, facing{otherLog(r, log, near), log}, facing{log, few}, facing{few, log},
				facing{log, log}, facing{log, contraryLog(log)}, facing{log, orderedOf(closeLog(r, near, n))}, facing{log, orderedOf(wideLog(r, n))},
				facing{orderedOf(wideLog(r, n)), orderedOf(wideLog(r, impl.LogMax-n))})
		}
	}
	trees := slices.Concat(manyTrees(), nearTrees())
	for _, base := range trees {
		x, y := changedTree(r, base), changedTree(r, base)
		both := changedTree(r, x)
		list = append(list, facing{diffOf(base, x), diffOf(base, y)}, facing{diffOf(base, x), diffOf(base, both)},
			facing{diffOf(base, x), diffOf(base, x)}, facing{diffOf(base, y), diffOf(base, trees[r.Intn(len(trees))])})
	}
	return list
}

// pathsUnder returns the first n paths under another one, in ascending order.
func pathsUnder(above string, n int) []string {
	paths := slices.DeleteFunc(allPaths(), func(p string) bool { return p == "/" || !isBelow(p, above) })
	slices.Sort(paths)
	return paths[:n]
}

// sameAt returns the canonical log of commands at paths that all lead from a content to another one.
func sameAt(paths []string, from, to string) []impl.Command {
	var log []impl.Command
	for _, p := range paths {
		log = append(log, impl.Command{Path: p, From: contentFrom(from), To: contentFrom(to)})
	}
	return orderedOf(log)
}
