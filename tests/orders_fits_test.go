package tests

import (
	"math/rand"
	"slices"
	"testing"

	"loop.example/filereconciler/impl"
)

var orderRows = []struct {
	what, log string
	fits      bool
}{
	{"nothing", "", true},
	{"one command", "/a - f1", true},
	{"one directory that ends", "/a d -", true},
	{"one directory that begins, without its parent", "/a/b/c/d - d", true},
	{"two files", "/b f1 f2, /a - f1", true},
	{"a directory and a file in it", "/a - d, /a/b - f1", true},
	{"a file and its directory", "/a/b - f1, /a - d", false},
	{"a file is removed, and its directory", "/a/b f1 -, /a d -", true},
	{"a directory is removed, and its file", "/a d -, /a/b f1 -", false},
	{"a directory becomes a file, and what is in it ends", "/a d f1, /a/b f1 -", false},
	{"what is in a directory ends, and this becomes a file", "/a/b f1 -, /a d f1", true},
	{"a file becomes a directory with a file", "/a f1 d, /a/b - f1", true},
	{"a file becomes a directory behind its file", "/a/b - f1, /a f1 d", false},
	{"files that are under each other", "/a/b f1 f2, /a f1 f2, /a/b/c f1 f2", true},
	{"files that are under each other, the other way", "/a/b/c f1 f2, /a f1 f2, /a/b f1 f2", true},
	{"a chain that begins", "/a - d, /a/b - d, /a/b/c - d, /a/b/c/d - d", true},
	{"a chain that begins, the last two exchanged", "/a - d, /a/b - d, /a/b/c/d - d, /a/b/c - d", false},
	{"a chain that begins, the first one last", "/a/b - d, /a/b/c - d, /a/b/c/d - d, /a - d", false},
	{"a chain that begins, from below", "/a/b/c/d - d, /a/b/c - d, /a/b - d, /a - d", false},
	{"a chain that ends", "/a/b/c/d d -, /a/b/c d -, /a/b d -, /a d -", true},
	{"a chain that ends, the first two exchanged", "/a/b/c d -, /a/b/c/d d -, /a/b d -, /a d -", false},
	{"a chain that ends, the last one first", "/a d -, /a/b/c/d d -, /a/b/c d -, /a/b d -", false},
	{"a directory begins, one in it ends", "/a - d, /a/b/c f1 -, /a/b d -", true},
	{"a directory begins, one in it ends, the wrong way round", "/a - d, /a/b d -, /a/b/c f1 -", false},
	{"a directory begins behind one in it that ends", "/a/b/c f1 -, /a/b d -, /a - d", false},
	{"a directory ends, one in it begins", "/a/b - d, /a/b/c - f1, /a d -", true},
	{"a directory ends, one in it begins, the wrong way round", "/a/b/c - f1, /a/b - d, /a d -", false},
	{"a directory ends ahead of one in it that begins", "/a d -, /a/b - d, /a/b/c - f1", false},
	{"the one between is not there", "/a - d, /a/b/c - f1", true},
	{"the one between is not there, the wrong way round", "/a/b/c - f1, /a - d", false},
	{"the one between does nothing", "/a/b f1 f2, /a/b/c f1 -, /a d -", true},
	{"the one between does nothing, the wrong way round", "/a/b/c f1 -, /a d -, /a/b f1 f2", false},
	{"two directories in turn", "/a - d, /b - d, /b/a - f1, /a/a - f1", true},
	{"two directories in turn, one of them wrong", "/a - d, /b/a - f1, /a/a - f1, /b - d", false},
	{"one ends and one begins", "/a - d, /b/a f1 -, /a/a - f1, /b d -", true},
	{"one ends and one begins, one of them wrong", "/a - d, /b d -, /a/a - f1, /b/a f1 -", false},
	{"canonical, but not possible: a file that changes in a directory that ends", "/a d -, /a/b f1 f2", false},
	{"canonical, but not possible: a file that ends in a directory that begins", "/a/b f1 -, /a - d", false},
	{"possible, but not canonical", "/b - f1, /a - f1, /c d -", true},
	{"the last path is removed last", "/a f1 -, /b f1 -, /c f1 -", true},

	{"the same command twice", "/a - f1, /a - f1", false},
	{"a command and what takes it back", "/a - f1, /a f1 -", false},
	{"a command that goes on", "/a f1 f2, /a f2 f3", false},
	{"a path twice, apart", "/a - f1, /b - f1, /a f1 f2", false},
	{"a path twice, with what is under it between", "/a - d, /a/b - f1, /a d f1", false},
	{"a path twice, at the end", "/c - d, /c/a - f1, /b - f1, /b f1 -", false},
	{"a directory ends, and is there again", "/a/b f1 -, /a d -, /a - d", false},
	{"two paths twice", "/a - d, /b - d, /a d f1, /b d f1", false},
}

func TestOrderFitsTable(t *testing.T) {
	for _, r := range orderRows {
		log := logFrom(r.log)
		if got := impl.OrderFits(log); got != r.fits {
			t.Errorf("%s: OrderFits of %q is %v", r.what, r.log, got)
		}
		if got := orderFitsOf(log); got != r.fits {
			t.Errorf("%s: orderFitsOf(%q) is %v", r.what, r.log, got)
		}
	}
}

func TestOrderFitsOfEmptyLogs(t *testing.T) {
	for _, log := range [][]impl.Command{nil, {}, make([]impl.Command, 0, 5), logFrom("/a - f1, /a - f1")[:0]} {
		if !impl.OrderFits(log) {
			t.Errorf("OrderFits of an empty log does not hold")
		}
	}
}

func TestOrderFitsOfManyLogs(t *testing.T) {
	counts := map[bool]int{}
	lengths := map[int]int{}
	for _, log := range slices.Concat(orderLogs(), countLogs(), anyLogs()) {
		want := orderFitsOf(log)
		if got := impl.OrderFits(log); got != want {
			t.Errorf("OrderFits of %q is %v", lineOf(log), got)
		}
		counts[want]++
		if want {
			lengths[len(log)]++
		}
	}
	for n := range impl.LogMax + 1 {
		if lengths[n] < 5 {
			t.Errorf("%v: too few orders of %d commands are possible", lengths, n)
		}
	}
	if counts[true] < 300 || counts[false] < 300 {
		t.Errorf("there are too few of one kind: %v", counts)
	}
}

// What OrderFits says of each order of the same commands is what MustPrecede says of each two of them.
func TestOrderFitsOfEachOrder(t *testing.T) {
	for _, line := range []string{
		"/a - d, /a/b - d, /a/b/c - f1, /c - d",
		"/a d -, /a/b f1 -, /a/c d -, /a/c/a f1 -",
		"/a - d, /a/b d -, /a/b/a f1 -, /a/b/c f1 -, /a/c - f1",
		"/a d f1, /a/b - d, /a/b/c f1 f2, /b f1 d, /b/b/b - f1",
		"/a f1 f2, /a/a f1 f2, /a/a/a f1 f2, /a/a/a/a f1 f2",
		"/a - d, /b d -, /c f1 f2, /a/a - f1, /b/a f1 -, /c/a f1 d",
		"/d/d - d, /d d -, /d/d/d d -, /d/d/d/d - d, /d/c f1 -",
	} {
		fine, orders := 0, ordersOf(logFrom(line))
		for _, log := range orders {
			want := true
			for i := range log {
				for _, d := range log[i+1:] {
					want = want && !impl.MustPrecede(d, log[i])
				}
			}
			if got := impl.OrderFits(log); got != want || want != isOrder(log) {
				t.Errorf("OrderFits of %q is %v", lineOf(log), got)
			}
			if want {
				fine++
			}
		}
		if fine == 0 {
			t.Errorf("no order of %q is possible", line)
		}
	}
}

// Two commands that are at any two places of a long log are as far from each other as can be, and in order or not.
func TestPairsWithManyCommandsBetween(t *testing.T) {
	rows := precedeRows
	for n := 2; n <= impl.LogMax; n += 3 {
		for i := range n {
			for k := i + 1; k < n; k++ {
				r := rows[(i*n+k)%len(rows)]
				first, second := commandFrom(r.first), commandFrom(r.second)
				// What is around them is elsewhere.
				if first.Path[:2] > "/b" {
					first.Path, second.Path = "/b"+first.Path[2:], "/b"+second.Path[2:]
				}
				if log := apart(n, i, k, first, second); !impl.OrderFits(log) || !orderFitsOf(log) {
					t.Errorf("%s: OrderFits of %q does not hold", r.what, lineOf(log))
				}
				if log := apart(n, i, k, second, first); impl.OrderFits(log) || orderFitsOf(log) {
					t.Errorf("%s: OrderFits of %q holds", r.what, lineOf(log))
				}
			}
		}
	}
}

// A path is not to be there twice, wherever it is and whatever is done at it.
func TestOrdersWithAPathTwice(t *testing.T) {
	pairs := [][2]string{{"/a - f1", "/a - f1"}, {"/a - f1", "/a f1 -"}, {"/a f1 f2", "/a f2 f3"}, {"/a - d", "/a d -"}, {"/a d -", "/a - d"}, {"/a d f1", "/a f1 d"}, {"/b/b d -", "/b/b d f1"}}
	for _, n := range []int{2, 3, 4, 5, 6, 7, impl.LogMax - 1, impl.LogMax} {
		for i := range n {
			for k := i + 1; k < n; k++ {
				pair := pairs[(i+k)%len(pairs)]
				log := apart(n, i, k, commandFrom(pair[0]), commandFrom(pair[1]))
				if impl.OrderFits(log) {
					t.Errorf("OrderFits of %q holds", lineOf(log))
				}
				if got := impl.OrdersCount(log); got != -1 {
					t.Errorf("OrdersCount of %q is %d", lineOf(log), got)
				}
				for j := range n {
					if got, ok := impl.OrderSwap(log, j); ok || len(got) > 0 {
						t.Errorf("OrderSwap of %q, %d is %q, %v", lineOf(log), j, lineOf(got), ok)
					}
				}
			}
		}
	}
}

func TestOrderFitsOfAllLengths(t *testing.T) {
	for n := range 2 * impl.LogMax {
		fine := n <= impl.LogMax
		if got := impl.OrderFits(fillers(n)); got != fine {
			t.Errorf("OrderFits of %d commands is %v", n, got)
		}
		// From the longest path on, and so in the order in which directories end.
		var ending []impl.Command
		for _, c := range fillers(n) {
			ending = slices.Insert(ending, 0, impl.Command{Path: c.Path, From: dir, To: none})
		}
		slices.SortStableFunc(ending, func(c, d impl.Command) int { return len(d.Path) - len(c.Path) })
		if got := impl.OrderFits(ending); got != fine {
			t.Errorf("OrderFits of %d directories that end is %v", n, got)
		}
		if slices.Reverse(ending); n == impl.LogMax && impl.OrderFits(ending) {
			t.Errorf("OrderFits of %q holds", lineOf(ending))
		}
	}
}

func TestInvalidLogsHaveNoOrder(t *testing.T) {
	for _, log := range notLogs() {
		if impl.OrderFits(log) {
			t.Errorf("OrderFits of %s holds", shown(log))
		}
		if got := impl.OrdersCount(log); got != -1 {
			t.Errorf("OrdersCount of %s is %d", shown(log), got)
		}
		for _, k := range []int{-1, 0, 1, len(log) / 2, len(log) - 2, len(log) - 1} {
			if got, ok := impl.OrderSwap(log, k); ok || len(got) > 0 {
				t.Errorf("OrderSwap of %s, %d is %s, %v", shown(log), k, shown(got), ok)
			}
		}
	}
	// An invalid command that no other one must precede, and that is on a path of its own, first, in the middle, and last.
	for _, bad := range []impl.Command{{}, {Path: "/", From: none, To: dir}, {Path: "/e", From: none, To: dir}, {Path: "/d", From: fileOf(1), To: fileOf(1)}, {Path: "/d", From: none, To: badContents[1]}} {
		for _, line := range []string{"/a - f1", "/a - d, /a/b - f1", "/a/b f1 -, /a d -, /c - f1", "/a - f1, /b - f1, /c - f1, /d/a - f1, /d/b - f1"} {
			log := logFrom(line)
			for k := range len(log) + 1 {
				other := slices.Insert(slices.Clone(log), k, bad)
				if impl.OrderFits(other) {
					t.Errorf("OrderFits of %q holds", lineOf(other))
				}
				if got := impl.OrdersCount(other); got != -1 {
					t.Errorf("OrdersCount of %q is %d", lineOf(other), got)
				}
				for j := range len(log) {
					if got, ok := impl.OrderSwap(other, j); ok || len(got) > 0 {
						t.Errorf("OrderSwap of %q, %d is %q, %v", lineOf(other), j, lineOf(got), ok)
					}
				}
			}
		}
	}
}

// Promise 70.
func TestCanonicalLogsAreInAPossibleOrder(t *testing.T) {
	for _, l := range logsThatFit() {
		if canon, ok := impl.LogCanon(l.log); !ok || !impl.OrderFits(canon) || !orderFitsOf(canon) {
			t.Errorf("OrderFits of LogCanon of %v, which is %q, does not hold", l, lineOf(canon))
		}
	}
}

// Promise 71, its first part: also of commands that fit no tree.
func TestLogsInAPossibleOrderHaveACanonicalLog(t *testing.T) {
	n := 0
	for _, log := range slices.Concat(orderLogs(), countLogs()) {
		if !impl.OrderFits(log) {
			continue
		}
		n++
		if canon, ok := impl.LogCanon(log); !ok || !sameCommands(canon, log) {
			t.Errorf("LogCanon of %q is %q, %v", lineOf(log), lineOf(canon), ok)
		}
	}
	if n < 300 {
		t.Errorf("only %d logs are in a possible order", n)
	}
}

// leads tells that commands fit a tree exactly if they are in a possible order, and then lead to another tree.
func (l logged) leads(t *testing.T, order []impl.Command, after []impl.Node) bool {
	t.Helper()
	fits := impl.OrderFits(order)
	got, done := impl.LogApply(l.tree, order)
	if fits != (done == len(order)) || fits && !sameNodes(got, after) || fits != impl.LogFits(l.tree, order) {
		t.Errorf("OrderFits of %q is %v, and it leads to %v, %d from %v", lineOf(order), fits, got, done, l.tree)
	}
	return fits
}

// Promises 71 and 72: with room for all nodes, commands fit a tree in all their possible orders, and in no others.
func TestTreesAfterEachOrder(t *testing.T) {
	r := rand.New(rand.NewSource(32))
	counts := map[bool]int{}
	long := 0
	for i, l := range fewFitting() {
		after, _ := logApplyOf(l.tree, l.log)
		var orders [][]impl.Command
		// All orders are for few commands only; of some logs with more of them, there are a few orders.
		switch {
		case len(l.log) < 4 || len(l.log) == 4 && i%5 == 0 || len(l.log) == 5 && i%40 == 0:
			orders = ordersOf(l.log)
		default:
			for range 4 {
				order := possibleOrder(r, l.log)
				orders = append(orders, order, exchanged(order, r.Intn(len(order)-1)))
			}
			long++
		}
		for _, order := range orders {
			counts[l.leads(t, order, after)]++
		}
	}
	if counts[true] < 5000 || counts[false] < 2000 || long < 500 {
		t.Errorf("%d orders are possible and %d are not; %d logs have more commands", counts[true], counts[false], long)
	}
}

// Directories that end and begin in one log, with all that is under them.
func TestTreesAfterEachOrderOfAFewCommands(t *testing.T) {
	for _, r := range []struct {
		tree, log string
		possible  int
	}{
		{"/a=d /a/b=f1 /a/c=d", "/a/c d -, /a/b f1 -, /a d f2", 2},
		{"/a=f1", "/a f1 d, /a/b - d, /a/b/c - f1, /a/d - f2", 3},
		{"/a=d /a/b=d /a/b/c=d /a/b/c/d=f1", "/a/b/c/d f1 -, /a/b/c d -, /a/b d -, /a d -", 1},
		{"", "/a - d, /a/b - d, /a/b/c - d, /a/b/c/d - d", 1},
		{"/a=d /a/b=f1 /b=f2", "/a/b f1 -, /a d f2, /b f2 d, /b/a - f1", 6},
		{"/a=d /a/b=d /a/b/a=f1 /a/b/c=f2", "/a/b/c f2 -, /a/b/a f1 -, /a/b d f1, /a/c - d, /a/c/a - f1", 20},
		{"/a=d /a/a=f1 /c=f1", "/a/a f1 f2, /a/b - f2, /c f1 f2, /d - d", 24},
	} {
		l := logged{treeFrom(r.tree), logFrom(r.log)}
		after, done := logApplyOf(l.tree, l.log)
		if done != len(l.log) || len(l.tree)+done > impl.NodeMax {
			t.Fatalf("%v does not fit", l)
		}
		fine := 0
		for _, order := range ordersOf(l.log) {
			if l.leads(t, order, after) {
				fine++
			}
		}
		if fine != r.possible || impl.OrdersCount(l.log) != fine {
			t.Errorf("%d orders of %v are possible, and OrdersCount is %d", fine, l, impl.OrdersCount(l.log))
		}
	}
}

// Promise 72: also without room for all nodes in each order, and for logs that are not canonical.
func TestLogsThatFitAreInAPossibleOrder(t *testing.T) {
	once, others := 0, 0
	for _, l := range logsThatFit() {
		if len(pathsOf(l.log)) < len(l.log) {
			continue
		}
		once++
		if !impl.OrderFits(l.log) {
			t.Errorf("OrderFits of %v does not hold", l)
		}
		if !isCanon(l.log) {
			others++
		}
	}
	if once < 1000 || others < 50 {
		t.Errorf("%d logs have each path once, and %d of these are not canonical", once, others)
	}
}

// A possible order may find no room for a node, and another one does.
func TestPossibleOrdersInAFullTree(t *testing.T) {
	l := logged{treeFrom(full), logFrom("/d/a f5 -, /d/b - f6")}
	other := exchanged(l.log, 0)
	if !impl.OrderFits(l.log) || !impl.LogFits(l.tree, l.log) {
		t.Errorf("%v does not fit", l)
	}
	if !impl.OrderFits(other) || impl.LogFits(l.tree, other) || impl.OrdersCount(other) != 2 {
		t.Errorf("OrderFits of %q is %v, and LogFits is %v", lineOf(other), impl.OrderFits(other), impl.LogFits(l.tree, other))
	}
}
