package tests

import (
	"fmt"
	"math/rand"
	"slices"
	"strings"
	"sync"

	"loop.example/filereconciler/impl"
)

// logFrom makes commands from a line such as "/a - d, /a/b - f3".
func logFrom(line string) []impl.Command {
	var list []impl.Command
	for text := range strings.SplitSeq(line, ",") {
		if strings.TrimSpace(text) != "" {
			list = append(list, commandFrom(text))
		}
	}
	return list
}

// lineOf leads back from logFrom.
func lineOf(list []impl.Command) string {
	var texts []string
	for _, c := range list {
		texts = append(texts, wordsOf(c))
	}
	return strings.Join(texts, ", ")
}

// isLog tells without LogValid whether commands are a log.
func isLog(list []impl.Command) bool {
	return len(list) <= 20 && !slices.ContainsFunc(list, func(c impl.Command) bool { return !isCommand(c) })
}

// logApplyOf is LogApply of a valid tree and log by another way: applyOf, and on with what is left.
func logApplyOf(tree []impl.Node, log []impl.Command) ([]impl.Node, int) {
	if len(log) == 0 {
		return tree, 0
	}
	next, ok := applyOf(tree, log[0])
	if !ok {
		return tree, 0
	}
	result, done := logApplyOf(next, log[1:])
	return result, done + 1
}

// logUndoOf is LogUndo of a valid log by another way.
func logUndoOf(log []impl.Command) []impl.Command {
	list := make([]impl.Command, len(log))
	for i, c := range log {
		list[len(log)-1-i] = impl.Command{Path: c.Path, From: c.To, To: c.From}
	}
	return list
}

// logged is a tree, and a log to be done on it.
type logged struct {
	tree []impl.Node
	log  []impl.Command
}

func (l logged) String() string {
	return fmt.Sprintf("%q on %v", lineOf(l.log), l.tree)
}

// with returns the tree with a log that has another command at a place.
func (l logged) with(k int, c impl.Command) logged {
	log := slices.Clone(l.log)
	log[k] = c
	return logged{l.tree, log}
}

// grownCommand returns a command at a path of a tree or near it that does not break.
func grownCommand(r *rand.Rand, tree []impl.Node) impl.Command {
	contents, paths := contentsOf(tree), nearPaths(tree)[1:]
	for {
		p := paths[r.Intn(len(paths))]
		c := impl.Command{Path: p, From: contents[p], To: putContents[r.Intn(len(putContents))]}
		if _, ok := applyOf(tree, c); ok && isCommand(c) {
			return c
		}
	}
}

// brokenCommand returns a command at a path of a tree or near it that breaks.
func brokenCommand(r *rand.Rand, tree []impl.Node) impl.Command {
	contents, paths := contentsOf(tree), nearPaths(tree)[1:]
	for {
		p := paths[r.Intn(len(paths))]
		c := impl.Command{Path: p, From: putContents[r.Intn(len(putContents))], To: putContents[r.Intn(len(putContents))]}
		// The content may be the one that is there: then the command breaks for another reason.
		if r.Intn(3) == 0 {
			c.From = contents[p]
		}
		if _, ok := applyOf(tree, c); !ok && isCommand(c) {
			return c
		}
	}
}

// grownLog returns n commands that fit a tree.
func grownLog(r *rand.Rand, tree []impl.Node, n int) []impl.Command {
	var log []impl.Command
	for range n {
		c := grownCommand(r, tree)
		tree, _ = applyOf(tree, c)
		log = append(log, c)
	}
	return log
}

// Logs take long to grow, so they are made once, and no test may change them.
var (
	fittingLogs  = sync.OnceValue(growFittingLogs)
	breakingLogs = sync.OnceValue(growBreakingLogs)
)

// growFittingLogs returns logs of all lengths that fit their trees.
func growFittingLogs() []logged {
	list := []logged{{nil, nil}, {[]impl.Node{}, []impl.Command{}}}
	r := rand.New(rand.NewSource(17))
	for _, tree := range fewTrees() {
		for n := range impl.LogMax + 1 {
			list = append(list, logged{tree, grownLog(r, tree, n)})
		}
	}
	return list
}

// growBreakingLogs returns logs of all lengths, in which the command at each place breaks.
func growBreakingLogs() []logged {
	var list []logged
	r := rand.New(rand.NewSource(18))
	for _, tree := range fewTrees() {
		n := 1 + r.Intn(impl.LogMax)
		for k := range n {
			fits := logged{tree, grownLog(r, tree, n)}
			ahead, _ := logApplyOf(tree, fits.log[:k])
			broken := brokenCommand(r, ahead)
			inserted := slices.Concat(fits.log[:k], []impl.Command{broken}, fits.log[k:n-1])
			list = append(list, fits.with(k, broken), logged{tree, inserted})
		}
	}
	return list
}

// shortLogs returns all logs of up to three commands that are near each other, on a few trees.
func shortLogs() []logged {
	var commands []impl.Command
	for _, p := range []string{"/a", "/a/b"} {
		for _, c := range commandsAt(p) {
			if c.From != fileOf(0) && c.To != fileOf(0) && c.From != fileOf(99) && c.To != fileOf(99) {
				commands = append(commands, c)
			}
		}
	}
	logs := [][]impl.Command{nil}
	// The list grows while it is walked through: what is put behind a log comes later.
	for i := 0; len(logs[i]) < 3; i++ {
		for _, c := range commands {
			logs = append(logs, append(slices.Clone(logs[i]), c))
		}
	}
	var list []logged
	for _, tree := range []string{"", "/a=d", "/a=d /a/b=f7", strings.Replace(full, "/a/b=f1", "/a/b=d", 1)} {
		for _, log := range logs {
			list = append(list, logged{treeFrom(tree), log})
		}
	}
	return list
}

// manyLogs returns logs that fit their trees, and logs that break at any place.
func manyLogs() []logged {
	return slices.Concat(fittingLogs(), breakingLogs(), shortLogs())
}

// anyLogs returns valid logs that fit a tree or none.
func anyLogs() [][]impl.Command {
	var list [][]impl.Command
	for _, l := range slices.Concat(fittingLogs(), breakingLogs()) {
		list = append(list, l.log)
	}
	r := rand.New(rand.NewSource(19))
	all := manyCommands()
	for _, c := range all {
		list = append(list, []impl.Command{c})
	}
	for i := range 400 {
		var log []impl.Command
		for range i % (impl.LogMax + 1) {
			log = append(log, all[r.Intn(len(all))])
		}
		list = append(list, log)
	}
	return append(list, valueLog(impl.LogMax), slices.Repeat(logFrom("/a - d"), impl.LogMax))
}

// valueLog returns n commands that make a file and change its value, and so fit the empty tree one behind the other.
func valueLog(n int) []impl.Command {
	log := make([]impl.Command, n)
	last := none
	for i := range log {
		next := fileOf(i % 100)
		log[i] = impl.Command{Path: "/a", From: last, To: next}
		last = next
	}
	return log
}

// longLogs returns lists of valid commands that are too many for a log.
func longLogs() [][]impl.Command {
	lists := [][]impl.Command{slices.Repeat(logFrom("/a f1 f2"), impl.LogMax+1), slices.Repeat(logFrom("/b - f4, /b f4 -"), impl.LogMax)}
	for _, n := range []int{impl.LogMax + 1, impl.LogMax + 2, 2 * impl.LogMax, 256, 256 + impl.LogMax, 65536} {
		lists = append(lists, valueLog(n))
	}
	return lists
}

// notLogs returns lists that are no logs: too long ones, and those with an invalid command first, in the middle, and last.
func notLogs() [][]impl.Command {
	lists := longLogs()
	for i, bad := range notCommands() {
		for _, good := range [][]impl.Command{nil, logFrom("/a - d, /a/b - f1"), logFrom("/a f1 f2, /a/b f3 -"), valueLog(impl.LogMax - 1)} {
			for _, k := range []int{0, len(good) / 2, len(good)} {
				// Long logs are tried with a part of the commands only.
				if len(good) < 3 || i%4 == 0 {
					lists = append(lists, slices.Insert(slices.Clone(good), k, bad))
				}
			}
		}
	}
	return append(lists, make([]impl.Command, impl.LogMax), make([]impl.Command, 1000))
}

// markedCommands returns a copy of commands that has spare capacity, and the whole array behind it.
func markedCommands(list []impl.Command) ([]impl.Command, []impl.Command) {
	commandMark := impl.Command{Path: "mark", From: impl.Content{Kind: mark}, To: impl.Content{Value: mark}}
	array := append(slices.Clone(list), commandMark, commandMark, commandMark)
	return array[:len(list)], array
}

// overwriteCommands puts another command at each place of a list, and behind it up to its capacity.
func overwriteCommands(list []impl.Command) {
	list = list[:cap(list)]
	for i := range list {
		list[i] = impl.Command{Path: "overwritten", From: impl.Content{Kind: mark}, To: impl.Content{Value: mark}}
	}
}
