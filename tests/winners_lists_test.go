package tests

import (
	"math"
	"slices"
	"testing"

	"loop.example/filereconciler/impl"
)

// bothSides has the numbers of both sides, and otherSides some that no side has.
var (
	bothSides  = []int{1, 2}
	otherSides = []int{0, 3, -1, -2, 4, 5, 6, 1 << 8, 1<<8 + 1, 1<<8 + 2, 1<<16 + 1, 1<<32 + 1, 1<<32 + 2, -1 << 32, math.MaxInt32, math.MaxInt, math.MaxInt - 1, math.MinInt, math.MinInt + 1, math.MinInt + 2}
)

// allSides returns the numbers that are sides, and those that are not.
func allSides() []int {
	return slices.Concat(bothSides, otherSides)
}

// wins returns the tree of a side, and true, and fails if there is none.
func (o outcome) wins(side int) ([]impl.Node, bool) {
	switch {
	case side == 1:
		return o.first, o.okFirst
	case side == 2:
		return o.second, o.okSecond
	}
	return nil, false
}

// steps is ResolveSteps by another way.
func (o outcome) steps(side, at int) ([]impl.Command, bool) {
	own, ok := o.wins(at)
	wanted, fine := o.wins(side)
	if !ok || !fine {
		return nil, false
	}
	return diffOf(own, wanted), true
}

// clashWords is ClashText by another way.
func (f facing) clashWords() string {
	text := ""
	for _, x := range f.clashes() {
		text += wordsOf(f.a[x.A]) + " | " + wordsOf(f.b[x.B]) + "\n"
	}
	return text
}

// checkWinners tells that the functions return what they do by another way, for both logs and for both exchanged.
func (p pairing) checkWinners(t *testing.T) {
	t.Helper()
	wanted := p.wanted()
	wanted.checkWinners(t)
	wanted.turned().checkWinners(t)
}

// checkWinners tells that the functions return this outcome.
func (o outcome) checkWinners(t *testing.T) {
	t.Helper()
	for _, side := range []int{0, 1, 2, 3} {
		o.checkTree(t, side)
		for _, at := range []int{0, 1, 2, 3} {
			o.checkSteps(t, side, at)
		}
	}
	o.facing.checkText(t)
}

// checkTree tells that ResolveTree returns the tree of this outcome.
func (o outcome) checkTree(t *testing.T, side int) {
	t.Helper()
	want, fine := o.wins(side)
	if got, ok := impl.ResolveTree(o.tree, o.a, o.b, side); ok != fine || !sameNodes(got, want) {
		t.Errorf("ResolveTree of %s for %d is %v, %v, not %v, %v", shown(o.pairing), side, got, ok, want, fine)
	}
}

// checkSteps tells that ResolveSteps returns the steps of this outcome.
func (o outcome) checkSteps(t *testing.T, side, at int) {
	t.Helper()
	want, fine := o.steps(side, at)
	if got, ok := impl.ResolveSteps(o.tree, o.a, o.b, side, at); ok != fine || !slices.Equal(got, want) {
		t.Errorf("ResolveSteps of %s for %d at %d is %q, %v, not %q, %v", shown(o.pairing), side, at, lineOf(got), ok, lineOf(want), fine)
	}
}

// checkText tells that ClashText returns what it does by another way.
func (f facing) checkText(t *testing.T) {
	t.Helper()
	if got, want := impl.ClashText(f.a, f.b), f.clashWords(); got != want {
		t.Errorf("ClashText of %s is %q, not %q", shown(f), got, want)
	}
}

// hasNoWinner tells that there is neither a tree nor steps of a tree and two logs, for any side, in both directions.
func (p pairing) hasNoWinner(t *testing.T) {
	t.Helper()
	for _, x := range []pairing{p, p.turned()} {
		for _, side := range []int{1, 2, 0, 3} {
			x.hasNoTree(t, side)
			for _, at := range []int{1, 2, 0, 3} {
				x.hasNoSteps(t, side, at)
			}
		}
	}
}

// hasNoTree tells that ResolveTree fails for a side.
func (p pairing) hasNoTree(t *testing.T, side int) {
	t.Helper()
	if got, ok := impl.ResolveTree(p.tree, p.a, p.b, side); ok || len(got) > 0 {
		t.Errorf("ResolveTree of %s for %d is %s, %v", shown(p), side, shown(got), ok)
	}
}

// hasNoSteps tells that ResolveSteps fails for two sides.
func (p pairing) hasNoSteps(t *testing.T, side, at int) {
	t.Helper()
	if got, ok := impl.ResolveSteps(p.tree, p.a, p.b, side, at); ok || len(got) > 0 {
		t.Errorf("ResolveSteps of %s for %d at %d is %s, %v", shown(p), side, at, shown(got), ok)
	}
}

// hasNoText tells that ClashText is empty, in both directions.
func (f facing) hasNoText(t *testing.T) {
	t.Helper()
	for _, x := range []facing{f, f.turned()} {
		if got := impl.ClashText(x.a, x.b); got != "" {
			t.Errorf("ClashText of %s is %s", shown(x), shown(got))
		}
	}
}
