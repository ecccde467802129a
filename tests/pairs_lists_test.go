package tests

import (
	"fmt"
	"math/rand"
	"runtime"
	"slices"
	"sync"
	"testing"
	"time"

	"loop.example/filereconciler/impl"
)

// pairing is a tree, and the logs of two sides that have begun with it.
type pairing struct {
	tree []impl.Node
	facing
}

func (p pairing) String() string {
	return fmt.Sprintf("%v on %v", p.facing, p.tree)
}

// turned returns the pairing with both logs exchanged.
func (p pairing) turned() pairing {
	return pairing{p.tree, p.facing.turned()}
}

// pairingFrom makes a pairing from lines.
func pairingFrom(tree, a, b string) pairing {
	return pairing{treeFrom(tree), facing{logFrom(a), logFrom(b)}}
}

// pairingOf returns the pairing of a tree and what both sides have made of it.
func pairingOf(tree, x, y []impl.Node) pairing {
	return pairing{tree, facing{diffOf(tree, x), diffOf(tree, y)}}
}

// fits is PairFits by another way.
func (p pairing) fits() bool {
	if !isTree(p.tree) || !isCanon(p.a) || !isCanon(p.b) {
		return false
	}
	_, first := logApplyOf(p.tree, p.a)
	_, second := logApplyOf(p.tree, p.b)
	return first == len(p.a) && second == len(p.b)
}

// commandsWithout returns the commands of a log that are not among others.
func commandsWithout(log, others []impl.Command) []impl.Command {
	return slices.DeleteFunc(slices.Clone(log), func(c impl.Command) bool { return slices.Contains(others, c) })
}

// whole returns the tree with To of commands at their paths, in whatever order they come, and true. It fails if there are too many nodes.
func (p pairing) whole(logs ...[]impl.Command) ([]impl.Node, bool) {
	contents := contentsOf(p.tree)
	for _, c := range slices.Concat(logs...) {
		contents[c.Path] = c.To
	}
	list := nodesOf(contents)
	if len(list) > 10 {
		return nil, false
	}
	return list, true
}

// outcome is a pairing, whether it fits, what both sides and the common tree are, if there are any, and where both sides differ.
type outcome struct {
	pairing
	fitting                     bool
	first, second, common       []impl.Node
	okFirst, okSecond, okCommon bool
	apart                       []string
}

// turned returns the outcome of both logs exchanged.
func (o outcome) turned() outcome {
	return outcome{o.pairing.turned(), o.fitting, o.second, o.first, o.common, o.okSecond, o.okFirst, o.okCommon, o.apart}
}

// wanted returns the outcome of a pairing by another way.
func (p pairing) wanted() outcome {
	o := outcome{pairing: p, fitting: p.fits()}
	if !o.fitting {
		return o
	}
	safe, _, left := p.parted()
	safeA, _, leftA := p.facing.turned().parted()
	o.first, o.okFirst = p.whole(p.a, safe)
	o.second, o.okSecond = p.whole(p.b, safeA)
	o.common, o.okCommon = p.whole(commandsWithout(p.a, leftA), commandsWithout(p.b, left))
	if o.okFirst && o.okSecond {
		o.apart = changedOf(o.first, o.second)
	}
	return o
}

// returned returns the outcome of a pairing that the four functions return.
func (p pairing) returned() outcome {
	o := outcome{pairing: p, fitting: impl.PairFits(p.tree, p.a, p.b), apart: impl.PairApart(p.tree, p.a, p.b)}
	o.first, o.okFirst = impl.PairTree(p.tree, p.a, p.b)
	o.second, o.okSecond = impl.PairTree(p.tree, p.b, p.a)
	o.common, o.okCommon = impl.PairBase(p.tree, p.a, p.b)
	return o
}

// check tells that the functions return what they do by another way, for both logs and for both exchanged.
func (p pairing) check(t *testing.T) {
	t.Helper()
	wanted := p.wanted()
	wanted.check(t)
	wanted.turned().check(t)
}

// check tells that the functions return this outcome.
func (o outcome) check(t *testing.T) {
	t.Helper()
	got := o.returned()
	if got.fitting != o.fitting {
		t.Errorf("PairFits of %s is %v", shown(o.pairing), got.fitting)
	}
	if got.okFirst != o.okFirst || !sameNodes(got.first, o.first) || !isTree(o.first) {
		t.Errorf("PairTree of %s is %v, %v, not %v, %v", shown(o.pairing), got.first, got.okFirst, o.first, o.okFirst)
	}
	if got.okCommon != o.okCommon || !sameNodes(got.common, o.common) || !isTree(o.common) {
		t.Errorf("PairBase of %s is %v, %v, not %v, %v", shown(o.pairing), got.common, got.okCommon, o.common, o.okCommon)
	}
	if !slices.Equal(got.apart, o.apart) {
		t.Errorf("PairApart of %s is %v, not %v", shown(o.pairing), got.apart, o.apart)
	}
}

// edited returns a tree with other contents, which a line such as "/a=- /b=f3" tells.
func edited(list []impl.Node, line string) []impl.Node {
	contents := contentsOf(list)
	for _, n := range treeFrom(line) {
		contents[n.Path] = n.Content
	}
	return nodesOf(contents)
}

// grownAround returns a tree of about n nodes that has much in common with another one.
func grownAround(r *rand.Rand, list []impl.Node, n int) []impl.Node {
	for range 40 {
		if len(list) == n && r.Intn(3) == 0 {
			break
		}
		above := ""
		if k := r.Intn(len(list) + 2); k < len(list) {
			above = list[k].Path
		}
		c := putContents[r.Intn(len(putContents))]
		switch {
		case len(list) < n && r.Intn(2) == 0:
			c = dir
		case len(list) > n && r.Intn(2) == 0:
			c = none
		}
		if result, ok := putOf(list, above+"/"+string("abcd"[r.Intn(4)]), c); ok {
			list = result
		}
	}
	return list
}

// Pairings take long to make, so they are made once, and no test may change them.
var pairings = sync.OnceValue(makePairings)

// makePairings returns pairings that fit: all that a few paths have, those of near trees and far ones, and those around NodeMax nodes.
func makePairings() []pairing {
	list := slices.Concat(smallPairings(), fullPairings(), farPairings())
	r := rand.New(rand.NewSource(50))
	for _, tree := range slices.Concat(manyTrees(), nearTrees()) {
		x, y := changedTree(r, tree), changedTree(r, tree)
		list = append(list, pairingOf(tree, x, y), pairingOf(tree, x, changedTree(r, x)), pairingOf(tree, changedTree(r, y), y))
	}
	near := nearTrees()
	for range 700 {
		list = append(list, pairingOf(near[r.Intn(len(near))], near[r.Intn(len(near))], near[r.Intn(len(near))]))
	}
	return list
}

// smallPairings returns each three trees that two paths under each other can have.
func smallPairings() []pairing {
	var trees [][]impl.Node
	for _, line := range []string{"", "/a=f1", "/a=f2", "/a=d", "/a=d /a/b=f1", "/a=d /a/b=f2", "/a=d /a/b=d"} {
		trees = append(trees, treeFrom(line))
	}
	return eachThree(trees)
}

// eachThree returns the pairings of each tree with each two others.
func eachThree(trees [][]impl.Node) []pairing {
	var list []pairing
	for _, tree := range trees {
		for _, x := range trees {
			for _, y := range trees {
				list = append(list, pairingOf(tree, x, y))
			}
		}
	}
	return list
}

// fullPairings returns pairings whose trees have NodeMax nodes or a few less, before or afterwards.
func fullPairings() []pairing {
	var list []pairing
	r := rand.New(rand.NewSource(51))
	for i := range 1500 {
		tree := grownAround(r, grownTree(r, 10), 6+i%5)
		x := grownAround(r, tree, 6+r.Intn(5))
		y := grownAround(r, tree, 6+r.Intn(5))
		if i%3 == 0 {
			y = grownAround(r, x, 6+r.Intn(5))
		}
		list = append(list, pairingOf(tree, x, y))
	}
	return list
}

// farPairings returns each three of some trees, most of which have no path in common: logs of up to LogMax commands.
func farPairings() []pairing {
	trees := [][]impl.Node{nil, treeFrom("/a=d /b=d /b/a=f1 /d=f4"), treeFrom("/a=f5 /c=d /c/a=d /c/d=f1 /d=d")}
	for i, line := range apartTrees {
		tree := treeFrom(line)
		// A tree without its last nodes is one, too.
		trees = append(trees, tree, tree[:7+i])
	}
	return eachThree(trees)
}

// fewPairings returns as many pairings as can be tried in many ways.
func fewPairings() []pairing {
	var list []pairing
	for i, p := range pairings() {
		if i%17 == 0 {
			list = append(list, p)
		}
	}
	return list
}

// outcomes has what the functions return for all pairings.
var outcomes = sync.OnceValue(func() []outcome {
	var list []outcome
	for _, p := range pairings() {
		list = append(list, p.returned())
	}
	return list
})

// bothWays returns all outcomes, each of them with both logs exchanged, too.
func bothWays() []outcome {
	var list []outcome
	for _, o := range outcomes() {
		list = append(list, o, o.turned())
	}
	return list
}

// brokenAt returns canonical logs near one that fits a tree, in which the command with the index k is the first one that breaks.
func brokenAt(tree []impl.Node, log []impl.Command, k int) [][]impl.Command {
	var logs [][]impl.Command
	try := func(other []impl.Command) {
		if _, done := logApplyOf(tree, other); isCanon(other) && done == k && done < len(other) {
			logs = append(logs, other)
		}
	}
	contents := []impl.Content{none, dir, fileOf(1), fileOf(77)}
	for _, c := range contents {
		if k < len(log) {
			try(logged{tree, log}.with(k, impl.Command{Path: log[k].Path, From: c, To: log[k].To}).log)
		}
		for _, d := range contents {
			for _, p := range []string{"/a", "/a/d/d", "/b/c", "/c/a/b/d", "/d", "/d/d"} {
				if len(onPath(log, p)) == 0 {
					try(orderedOf(append(slices.Clone(log), impl.Command{Path: p, From: c, To: d})))
				}
			}
		}
	}
	return logs
}

// hasNoPair tells that none of the four functions has anything of a tree and two logs, in both directions.
func (p pairing) hasNoPair(t *testing.T) {
	t.Helper()
	for _, x := range []pairing{p, p.turned()} {
		if impl.PairFits(x.tree, x.a, x.b) {
			t.Errorf("PairFits of %s holds", shown(x))
		}
		if got, ok := impl.PairTree(x.tree, x.a, x.b); ok || len(got) > 0 {
			t.Errorf("PairTree of %s is %v, %v", shown(x), shown(got), ok)
		}
		if got, ok := impl.PairBase(x.tree, x.a, x.b); ok || len(got) > 0 {
			t.Errorf("PairBase of %s is %v, %v", shown(x), shown(got), ok)
		}
		if got := impl.PairApart(x.tree, x.a, x.b); len(got) > 0 {
			t.Errorf("PairApart of %s is %v", shown(x), got)
		}
	}
}

// goroutinesEnd waits until there are no more goroutines than before: one that has ended its work may still be counted for a moment.
func goroutinesEnd(t *testing.T, before int) {
	t.Helper()
	for range 500 {
		if runtime.NumGoroutine() <= before {
			return
		}
		time.Sleep(10 * time.Millisecond)
	}
	t.Errorf("there were %d goroutines, and there are %d", before, runtime.NumGoroutine())
}
