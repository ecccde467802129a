package tests

import (
	"math/rand"
	"slices"
	"sync"

	"loop.example/filereconciler/impl"
)

// What a command does with a directory, by the contents that it leads from and to.
var (
	endingContents    = [][2]impl.Content{{dir, none}, {dir, fileOf(3)}}
	beginningContents = [][2]impl.Content{{none, dir}, {fileOf(3), dir}}
	otherContents     = [][2]impl.Content{{none, fileOf(1)}, {fileOf(1), none}, {fileOf(1), fileOf(2)}}
	orderContents     = slices.Concat(endingContents, beginningContents, otherContents)
)

// orderCommandsAt returns commands at a path that do each thing there is to be done with it.
func orderCommandsAt(p string) []impl.Command {
	var list []impl.Command
	for _, contents := range orderContents {
		list = append(list, impl.Command{Path: p, From: contents[0], To: contents[1]})
	}
	return list
}

// precedesOf is MustPrecede by another way: which command is above the other one, and what it does there.
func precedesOf(c, d impl.Command) bool {
	switch {
	case !isCommand(c) || !isCommand(d):
		return false
	case isBelow(d.Path, c.Path):
		return c.To == dir
	}
	return isBelow(c.Path, d.Path) && d.From == dir
}

// isOrder tells whether commands with different paths are in a possible order: for each one, all the paths above it.
func isOrder(log []impl.Command) bool {
	places := map[string]int{}
	for k, c := range log {
		places[c.Path] = k
	}
	for k, c := range log {
		for n := len(c.Path) - 2; n > 0; n -= 2 {
			i, there := places[c.Path[:n]]
			if there && (i < k && log[i].From == dir || i > k && log[i].To == dir) {
				return false
			}
		}
	}
	return true
}

// isOncePerPath tells whether commands are a log that has each path once.
func isOncePerPath(log []impl.Command) bool {
	return isLog(log) && len(pathsOf(log)) == len(log)
}

// orderFitsOf is OrderFits by another way.
func orderFitsOf(log []impl.Command) bool {
	return isOncePerPath(log) && isOrder(log)
}

// exchanged returns commands of which those with the indices k and k+1 are exchanged.
func exchanged(log []impl.Command, k int) []impl.Command {
	return slices.Concat(log[:k], []impl.Command{log[k+1], log[k]}, log[k+2:])
}

// swapOf is OrderSwap by another way.
func swapOf(log []impl.Command, k int) ([]impl.Command, bool) {
	if k < 0 || k > len(log)-2 || !orderFitsOf(log) || !orderFitsOf(exchanged(log, k)) {
		return nil, false
	}
	return exchanged(log, k), true
}

// countOf is OrdersCount by another way: each order is tried.
func countOf(log []impl.Command) int {
	if len(log) > 6 || !isOncePerPath(log) {
		return -1
	}
	n := 0
	for _, order := range ordersOf(log) {
		if isOrder(order) {
			n++
		}
	}
	return n
}

// possibleOrder returns commands with different paths in a possible order: any one that none of those left must precede comes next.
func possibleOrder(r *rand.Rand, log []impl.Command) []impl.Command {
	var order []impl.Command
	left := slices.Clone(log)
	for len(left) > 0 {
		k := r.Intn(len(left))
		if !slices.ContainsFunc(left, func(c impl.Command) bool { return precedesOf(c, left[k]) }) {
			order = append(order, left[k])
			left = slices.Delete(left, k, k+1)
		}
	}
	return order
}

// closePaths returns the paths of names from `a` on, as many as are given, all of them but the root.
func closePaths(names string) []string {
	return slices.DeleteFunc(allPaths()[1:], func(p string) bool {
		for i := 1; i < len(p); i += 2 {
			if !slices.Contains([]byte(names), p[i]) {
				return true
			}
		}
		return false
	})
}

// closeLog returns n commands on as many of some paths, in any order.
func closeLog(r *rand.Rand, paths []string, n int) []impl.Command {
	var log []impl.Command
	for _, k := range r.Perm(len(paths))[:n] {
		at := orderCommandsAt(paths[k])
		log = append(log, at[r.Intn(len(at))])
	}
	return log
}

// Logs take long to make, so they are made once, and no test may change them.
var (
	orderLogs  = sync.OnceValue(makeOrderLogs)
	countLogs  = sync.OnceValue(makeCountLogs)
	fewFitting = sync.OnceValue(findFewFitting)
)

// makeOrderLogs returns logs of all lengths that have each path once: close ones and wide ones, in any order and in possible ones.
func makeOrderLogs() [][]impl.Command {
	logs := [][]impl.Command{nil, {}}
	r := rand.New(rand.NewSource(30))
	for n := range impl.LogMax + 1 {
		for range 4 {
			log := closeLog(r, closePaths("ab"), n)
			wide := wideLog(r, n)
			logs = append(logs, log, possibleOrder(r, log), possibleOrder(r, log), wide, possibleOrder(r, wide))
			for k := 0; k+1 < n; k += 1 + n/4 {
				logs = append(logs, exchanged(possibleOrder(r, log), k))
			}
		}
	}
	return logs
}

// makeCountLogs returns logs of up to six commands that have each path once.
func makeCountLogs() [][]impl.Command {
	var logs [][]impl.Command
	r := rand.New(rand.NewSource(31))
	nested := []string{"/a", "/a/a", "/a/b", "/a/a/a", "/a/a/b", "/a/b/a", "/a/a/a/a"}
	for n := range 7 {
		for range 10 + 10*n {
			logs = append(logs, closeLog(r, nested, n), closeLog(r, closePaths("ab"), n), closeLog(r, closePaths("abc")[:12], n), wideLog(r, n))
		}
	}
	return logs
}

// findFewFitting returns canonical logs that fit a tree, which has no more nodes than there is room for besides the commands.
func findFewFitting() []logged {
	var list []logged
	seen := map[string]bool{}
	for _, l := range logsThatFit() {
		l.log, _ = canonOf(l.log)
		if text := l.String(); !seen[text] && len(l.tree)+len(l.log) <= impl.NodeMax {
			seen[text] = true
			list = append(list, l)
		}
	}
	return list
}

// fillers returns n commands at paths that are neither at nor under /a or /b, which can be in any order.
func fillers(n int) []impl.Command {
	var list []impl.Command
	for _, p := range []string{"/c", "/d"} {
		for _, q := range append([]string{""}, closePaths("abcd")[:20]...) {
			list = append(list, impl.Command{Path: p + q, From: fileOf(1), To: fileOf(2)})
		}
	}
	return list[:n]
}

// apart returns n commands of which those with the indices i and k are two that are given, and all others are fillers.
func apart(n, i, k int, first, second impl.Command) []impl.Command {
	log := fillers(n - 2)
	log = slices.Insert(log, i, first)
	return slices.Insert(log, k, second)
}
