package tests

import (
	"math/rand"
	"slices"
	"strings"
	"sync"

	"loop.example/filereconciler/impl"
)

// endsOf tells whether a command ends something.
func endsOf(c impl.Command) bool {
	return c.To == none || c.From == dir
}

// pathsOf returns the paths of commands, each of them once, in ascending order.
func pathsOf(log []impl.Command) []string {
	var paths []string
	for _, c := range log {
		paths = append(paths, c.Path)
	}
	slices.Sort(paths)
	return slices.Compact(paths)
}

// orderedOf returns commands with different paths in canonical order by another way:
// path by path, what ends something in front of what is there, and all else behind it.
func orderedOf(log []impl.Command) []impl.Command {
	var ending, others []impl.Command
	for _, p := range pathsOf(log) {
		for _, c := range log {
			if c.Path != p {
				continue
			}
			if endsOf(c) {
				ending = slices.Insert(ending, 0, c)
			} else {
				others = append(others, c)
			}
		}
	}
	return append(ending, others...)
}

// onPath returns the commands of a log that are on a path.
func onPath(log []impl.Command, p string) []impl.Command {
	return slices.DeleteFunc(slices.Clone(log), func(c impl.Command) bool { return c.Path != p })
}

// lastOnPath returns the index of the last one of the first k commands of a log that is on the path of the command k, or -1.
func lastOnPath(log []impl.Command, k int) int {
	for i := k - 1; i >= 0; i-- {
		if log[i].Path == log[k].Path {
			return i
		}
	}
	return -1
}

// canonOf is LogCanon of any commands by another way: path by path.
func canonOf(log []impl.Command) ([]impl.Command, bool) {
	if !isLog(log) {
		return nil, false
	}
	var list []impl.Command
	for _, p := range pathsOf(log) {
		on := onPath(log, p)
		for k := range on[1:] {
			if on[k].To != on[k+1].From {
				return nil, false
			}
		}
		if from, to := on[0].From, on[len(on)-1].To; from != to {
			list = append(list, impl.Command{Path: p, From: from, To: to})
		}
	}
	return orderedOf(list), true
}

// isCanon tells without CanonValid whether commands are a canonical log, from each two of them.
func isCanon(log []impl.Command) bool {
	if !isLog(log) {
		return false
	}
	for i, c := range log {
		for _, d := range log[i+1:] {
			switch {
			case c.Path == d.Path:
				return false
			case endsOf(c) != endsOf(d):
				if endsOf(d) {
					return false
				}
			case (c.Path < d.Path) == endsOf(c):
				return false
			}
		}
	}
	return true
}

// diffOf is CanonDiff of valid trees by another way: all paths that differ, from the contents by their paths.
func diffOf(a, b []impl.Node) []impl.Command {
	before, after := contentsOf(a), contentsOf(b)
	var list []impl.Command
	for _, p := range changedOf(a, b) {
		list = append(list, impl.Command{Path: p, From: before[p], To: after[p]})
	}
	return orderedOf(list)
}

// sameCommands tells whether two lists have the same commands, in any order.
func sameCommands(a, b []impl.Command) bool {
	texts := func(list []impl.Command) []string {
		var words []string
		for _, c := range list {
			words = append(words, wordsOf(c))
		}
		slices.Sort(words)
		return words
	}
	return slices.Equal(texts(a), texts(b))
}

// ordersOf returns all orders of commands.
func ordersOf(log []impl.Command) [][]impl.Command {
	if len(log) == 0 {
		return [][]impl.Command{nil}
	}
	var lists [][]impl.Command
	for _, shorter := range ordersOf(log[1:]) {
		for k := range len(log) {
			lists = append(lists, slices.Insert(slices.Clone(shorter), k, log[0]))
		}
	}
	return lists
}

// chainedLog returns n commands on some paths, of which each one goes on where the one before it on its path has ended.
func chainedLog(r *rand.Rand, paths []string, n int) []impl.Command {
	contents := map[string]impl.Content{}
	for _, p := range paths {
		contents[p] = putContents[r.Intn(len(putContents))]
	}
	var log []impl.Command
	for len(log) < n {
		p := paths[r.Intn(len(paths))]
		if to := putContents[r.Intn(len(putContents))]; to != contents[p] {
			log = append(log, impl.Command{Path: p, From: contents[p], To: to})
			contents[p] = to
		}
	}
	return log
}

// widePaths returns n different paths, in any order.
func widePaths(r *rand.Rand, n int) []string {
	paths := allPaths()[1:]
	r.Shuffle(len(paths), func(i, j int) { paths[i], paths[j] = paths[j], paths[i] })
	return paths[:n]
}

// wideLog returns n commands on as many paths, in any order.
func wideLog(r *rand.Rand, n int) []impl.Command {
	var log []impl.Command
	for _, p := range widePaths(r, n) {
		at := commandsAt(p)
		log = append(log, at[r.Intn(len(at))])
	}
	return log
}

// Logs take long to make, so they are made once, and no test may change them.
var (
	chainedLogs   = sync.OnceValue(makeChainedLogs)
	unchainedLogs = sync.OnceValue(makeUnchainedLogs)
	goodLogs      = sync.OnceValue(findGoodLogs)
	canonLogs     = sync.OnceValue(makeCanonLogs)
)

// makeChainedLogs returns logs of all lengths on one path, on a few that are near each other, and on many.
func makeChainedLogs() [][]impl.Command {
	var logs [][]impl.Command
	r := rand.New(rand.NewSource(20))
	for n := range impl.LogMax + 1 {
		for _, paths := range [][]string{
			{"/a"}, {"/d/d/d/d"}, {"/a", "/b"}, {"/a", "/a/b"}, {"/b/c", "/b/c/a", "/b/c/a/d"}, {"/a", "/b", "/c", "/d"},
			{"/a", "/a/a", "/a/a/a", "/a/a/a/a"}, {"/c", "/c/a", "/c/b", "/d", "/d/a"}, widePaths(r, 7), widePaths(r, 40),
		} {
			logs = append(logs, chainedLog(r, paths, n), chainedLog(r, paths, n))
		}
		for range 6 {
			logs = append(logs, wideLog(r, n))
		}
	}
	return logs
}

// makeUnchainedLogs returns logs in which one command has another From than To of the one before it on its path.
func makeUnchainedLogs() [][]impl.Command {
	var logs [][]impl.Command
	for _, log := range chainedLogs() {
		for k, c := range log {
			if lastOnPath(log, k) < 0 {
				continue
			}
			for _, from := range append([]impl.Content{log[0].From, fileOf(8)}, putContents...) {
				if from != c.From && from != c.To {
					logs = append(logs, logged{nil, log}.with(k, impl.Command{Path: c.Path, From: from, To: c.To}).log)
				}
			}
		}
	}
	return logs
}

// logsForCanon returns valid logs: those that fit a tree, those that break, and those that fit none.
func logsForCanon() [][]impl.Command {
	logs := slices.Concat(anyLogs(), chainedLogs(), unchainedLogs())
	for _, l := range shortLogs() {
		if len(l.tree) == 0 {
			logs = append(logs, l.log)
		}
	}
	return logs
}

// findGoodLogs returns the logs that have a canonical one.
func findGoodLogs() [][]impl.Command {
	return slices.DeleteFunc(logsForCanon(), func(log []impl.Command) bool {
		_, ok := canonOf(log)
		return !ok
	})
}

// makeCanonLogs returns canonical logs of all lengths, each of them once.
func makeCanonLogs() [][]impl.Command {
	var logs [][]impl.Command
	seen := map[string]bool{}
	for _, log := range goodLogs() {
		canon, _ := canonOf(log)
		if line := lineOf(canon); !seen[line] {
			seen[line] = true
			logs = append(logs, canon)
		}
	}
	return logs
}

// logsThatFit returns the logs of manyLogs that fit their trees, and those that lead from a tree to another one and on.
func logsThatFit() []logged {
	list := slices.DeleteFunc(manyLogs(), func(l logged) bool {
		_, done := logApplyOf(l.tree, l.log)
		return done < len(l.log)
	})
	for _, pair := range pairsForCanon() {
		there, back := diffOf(pair[0], pair[1]), diffOf(pair[1], pair[0])
		list = append(list, logged{pair[0], there})
		if len(there)+len(back) <= impl.LogMax {
			list = append(list, logged{pair[0], slices.Concat(there, back)})
		}
	}
	return list
}

// Trees with NodeMax nodes of which each two have no path in common.
var apartTrees = []string{
	"/a=d /a/a=d /a/a/a=d /a/a/a/a=f1 /a/a/a/b=d /a/b=f2 /a/c=d /a/c/d=f3 /a/d=d /a/d/a=f4",
	"/b=d /b/a=f1 /b/b=d /b/b/c=d /b/b/c/d=f0 /c=d /c/a=d /c/a/a=f5 /c/b=f99 /c/d=d",
	"/d=d /d/a=d /d/a/a=d /d/a/b=d /d/a/c=d /d/b=d /d/b/a=d /d/b/b=d /d/c=d /d/d=d",
}

// nearTrees returns trees that differ in what is at one path: nothing, a file, another one, a directory, one with something under it.
func nearTrees() [][]impl.Node {
	var lists [][]impl.Node
	for _, at := range []string{"", "/b=f1", "/b=f2", "/b=d", "/b=d /b/a=f1", "/b=d /b/a=d /b/a/b=d /b/d=f1", "/b=d /b/a=d /b/a/c=f3 /b/c=d"} {
		for _, beside := range []string{"", "/a=d /a/b=f1 @ /c=f4", "@ /c=d /c/c=d", "/a=f1 @ /d=f2"} {
			if !strings.Contains(beside, "@") {
				beside += "@"
			}
			lists = append(lists, treeFrom(strings.Replace(beside, "@", at, 1)))
		}
	}
	return lists
}

// pairsForCanon returns pairs of trees: those of pairsOfTrees, and each two of the near ones and of those with many nodes.
func pairsForCanon() [][2][]impl.Node {
	pairs := pairsOfTrees()
	var large [][]impl.Node
	for _, line := range slices.Concat(apartTrees, fullTrees, []string{"", full, fullBehind}) {
		large = append(large, treeFrom(line))
	}
	for _, lists := range [][][]impl.Node{nearTrees(), large} {
		for _, a := range lists {
			for _, b := range lists {
				pairs = append(pairs, [2][]impl.Node{a, b})
			}
		}
	}
	return pairs
}
