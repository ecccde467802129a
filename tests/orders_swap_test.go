package tests

import (
	"math"
	"slices"
	"testing"

	"loop.example/filereconciler/impl"
)

var swapRows = []struct {
	what, log string
	k         int
	result    string
}{
	{"two files", "/a - f1, /b - f1", 0, "/b - f1, /a - f1"},
	{"the first two", "/a - d, /b - d, /c - f1, /d - f1", 0, "/b - d, /a - d, /c - f1, /d - f1"},
	{"two in the middle", "/a - d, /b - d, /c - f1, /d - f1", 1, "/a - d, /c - f1, /b - d, /d - f1"},
	{"the last two", "/a - d, /b - d, /c - f1, /d - f1", 2, "/a - d, /b - d, /d - f1, /c - f1"},
	{"what is in a directory that begins", "/a - d, /a/b - f1, /a/c d -", 1, "/a - d, /a/c d -, /a/b - f1"},
	{"what is in a directory that ends", "/a/c f1 -, /a/b d -, /a d -", 0, "/a/b d -, /a/c f1 -, /a d -"},
	{"files that are under each other", "/a f1 f2, /a/b - f1", 0, "/a/b - f1, /a f1 f2"},
	{"one ends and one begins", "/a/b f1 -, /b - d, /a d -, /b/c - d", 1, "/a/b f1 -, /a d -, /b - d, /b/c - d"},
	{"a directory with another one's file", "/a - d, /b - d, /a/a - f1, /b/a - f1", 0, "/b - d, /a - d, /a/a - f1, /b/a - f1"},
	{"away from its directory", "/a - d, /a/b - f1, /c - d", 1, "/a - d, /c - d, /a/b - f1"},
	{"back to its directory", "/a - d, /c - d, /a/b - f1", 1, "/a - d, /a/b - f1, /c - d"},
}

func TestOrderSwapTable(t *testing.T) {
	for _, r := range swapRows {
		log := logFrom(r.log)
		if got, ok := impl.OrderSwap(log, r.k); !ok || lineOf(got) != r.result {
			t.Errorf("%s: OrderSwap of %q, %d is %q, %v", r.what, r.log, r.k, lineOf(got), ok)
		}
		if got, ok := swapOf(log, r.k); !ok || lineOf(got) != r.result {
			t.Errorf("%s: swapOf(%q, %d) is %q, %v", r.what, r.log, r.k, lineOf(got), ok)
		}
	}
}

// swapFails tells that OrderSwap has nothing.
func swapFails(t *testing.T, what string, log []impl.Command, k int) {
	t.Helper()
	if got, ok := impl.OrderSwap(log, k); ok || len(got) > 0 {
		t.Errorf("%s: OrderSwap of %.200q, %d is %.200q, %v", what, lineOf(log), k, lineOf(got), ok)
	}
}

func TestOrderSwapFails(t *testing.T) {
	for _, r := range []struct {
		what, log string
		k         int
	}{
		{"a directory that begins, and a file in it", "/a - d, /a/b - f1", 0},
		{"what is in a directory that ends, and this", "/a/b f1 -, /a d -", 0},
		{"what is in a directory that becomes a file, and this", "/a/b d -, /a d f1", 0},
		{"a file that becomes a directory, and what is deeper in it", "/a f1 d, /a/b/c/d - f1", 0},
		{"the last two must stay", "/c - f1, /b - d, /b/a - f1", 1},
		{"the first two must stay", "/b - d, /b/a - f1, /c - f1", 0},
		{"it would be possible behind it, but is not", "/a/b - f1, /a - d", 0},
		{"it would be possible behind it, at the end", "/c - f1, /a d -, /a/b f1 -", 1},
		{"the order is not possible elsewhere, ahead", "/a/b - f1, /a - d, /c - f1, /d - f1", 2},
		{"the order is not possible elsewhere, behind", "/c - f1, /d - f1, /a d -, /a/b f1 -", 0},
		{"the order is not possible around it", "/a/b - f1, /c - f1, /d - f1, /a - d", 1},
		{"a path twice, both exchanged", "/a - f1, /a f1 -", 0},
		{"a path twice, elsewhere", "/a - f1, /b - f1, /c - f1, /a f1 f2", 1},
		{"nothing", "", 0},
		{"nothing, one less", "", -1},
		{"one command", "/a - f1", 0},
		{"one command, one less", "/a - f1", -1},
		{"one command, one more", "/a - f1", 1},
	} {
		swapFails(t, r.what, logFrom(r.log), r.k)
		if _, ok := swapOf(logFrom(r.log), r.k); ok {
			t.Errorf("%s: swapOf(%q, %d) succeeds", r.what, r.log, r.k)
		}
	}
}

func TestOrderSwapOfIndicesThatAreNone(t *testing.T) {
	for _, n := range []int{0, 1, 2, 3, 6, 7, impl.LogMax - 1, impl.LogMax, impl.LogMax + 1, 300} {
		log := make([]impl.Command, n)
		if n <= 2*impl.LogMax {
			log = fillers(n)
		}
		for _, k := range []int{-1, -2, -n, -n - 1, 1 - n, n - 1, n, n + 1, n + 2, 2 * n, 1000, -1000, 1 << 31, 1 << 32, 1<<32 + 1, -1 << 31, -1 << 32,
			math.MaxInt, math.MaxInt - 1, math.MaxInt - n, math.MinInt, math.MinInt + 1, math.MinInt + n, math.MaxInt32, math.MinInt32, 255, 256, 65536} {
			if k < 0 || k >= n-1 || n > impl.LogMax {
				swapFails(t, "no such commands", log, k)
			}
		}
	}
}

func TestOrderSwapOfManyLogs(t *testing.T) {
	counts := map[bool]int{}
	first, last := 0, 0
	for _, log := range slices.Concat(orderLogs(), countLogs()) {
		for k := -2; k <= len(log)+2; k++ {
			want, fine := swapOf(log, k)
			if got, ok := impl.OrderSwap(log, k); ok != fine || !slices.Equal(got, want) {
				t.Errorf("OrderSwap of %q, %d is %q, %v", lineOf(log), k, lineOf(got), ok)
			}
			if fine && k == 0 {
				first++
			}
			if fine && k == len(log)-2 {
				last++
			}
			if orderFitsOf(log) && k >= 0 && k < len(log)-1 {
				counts[fine]++
			}
		}
	}
	if counts[true] < 1000 || counts[false] < 300 || first < 100 || last < 100 {
		t.Errorf("there are too few of one kind: %v, %d, %d", counts, first, last)
	}
}

// Promises 73 and 74.
func TestOrderSwapFailsForWhatMustPrecede(t *testing.T) {
	counts := map[bool]int{}
	for _, log := range slices.Concat(orderLogs(), countLogs()) {
		fits := impl.OrderFits(log)
		for k := range log[min(len(log), 1):] {
			got, ok := impl.OrderSwap(log, k)
			counts[ok]++
			if must := impl.MustPrecede(log[k], log[k+1]); fits && ok == must || !fits && ok {
				t.Errorf("OrderSwap of %q, %d is %q, %v, and MustPrecede is %v", lineOf(log), k, lineOf(got), ok, must)
			}
			if !ok {
				continue
			}
			if !impl.OrderFits(got) || !slices.Equal(got, exchanged(log, k)) || impl.MustPrecede(got[k], got[k+1]) {
				t.Errorf("OrderSwap of %q, %d is %q", lineOf(log), k, lineOf(got))
			}
			if back, fine := impl.OrderSwap(got, k); !fine || !slices.Equal(back, log) {
				t.Errorf("OrderSwap of %q, %d is %q, and again %q, %v", lineOf(log), k, lineOf(got), lineOf(back), fine)
			}
		}
	}
	if counts[true] < 1000 || counts[false] < 1000 {
		t.Errorf("there are too few of one kind: %v", counts)
	}
}

// From one possible order, exchanging neighbours leads to all others, and to no more.
func TestOrderSwapLeadsToEachOrder(t *testing.T) {
	for _, line := range []string{
		"", "/a - f1", "/a - d, /a/b - f1, /a/c - f1, /b - d",
		"/a/b f1 -, /a d -, /c - d, /c/a - f1", "/a/a - f1, /b - f1, /c - f1, /d - f1, /a f1 f2",
		"/a - d, /a/b/a f1 -, /a/b d -, /a/c - f1, /b f1 f2",
	} {
		seen := map[string]bool{line: true}
		orders := [][]impl.Command{logFrom(line)}
		// The list grows while it is walked through.
		for i := 0; i < len(orders); i++ {
			for k := range orders[i] {
				next, ok := impl.OrderSwap(orders[i], k)
				if ok && !seen[lineOf(next)] {
					seen[lineOf(next)] = true
					orders = append(orders, next)
				}
			}
		}
		if want := countOf(logFrom(line)); len(orders) != want || impl.OrdersCount(logFrom(line)) != want {
			t.Errorf("%d orders of %q are reached, and %d are possible", len(orders), line, want)
		}
	}
}

var countRows = []struct {
	what, log string
	count     int
}{
	{"nothing", "", 1},
	{"one command", "/a - f1", 1},
	{"one directory that ends", "/a/b d -", 1},
	{"two files", "/a - f1, /b - f1", 2},
	{"two directories", "/a - d, /b d -", 2},
	{"a directory and a file in it", "/a - d, /a/b - f1", 1},
	{"a directory and a file in it, in an order that is not possible", "/a/b - f1, /a - d", 1},
	{"a file is removed, and its directory", "/a/b f1 -, /a d -", 1},
	{"files that are under each other", "/a f1 f2, /a/b f1 f2", 2},
	{"three files", "/a - f1, /b - f1, /c f1 -", 6},
	{"a directory with a file, and another one", "/a - d, /a/b - f1, /c - d", 3},
	{"a directory with two files", "/a - d, /a/b - f1, /a/c - f1", 2},
	{"a directory in which one ends", "/a - d, /a/b/c f1 -, /a/b d -", 1},
	{"a directory that ends in which one begins", "/a/b - d, /a/b/c - f1, /a d -", 1},
	{"four files", "/a - f1, /b - f1, /c f1 -, /d f1 f2", 24},
	{"a chain that begins", "/a - d, /a/b - d, /a/b/c - d, /a/b/c/d - f1", 1},
	{"a chain that begins, the wrong way round", "/a/b/c/d - f1, /a/b/c - d, /a/b - d, /a - d", 1},
	{"a chain that ends", "/a d -, /a/b d -, /a/b/c d -, /a/b/c/d f1 -", 1},
	{"a chain that does nothing", "/a f1 f2, /a/b f1 f2, /a/b/c f1 f2, /a/b/c/d f1 f2", 24},
	{"a chain that begins with one file beside its end", "/a - d, /a/b - d, /a/b/c - d, /a/b/c/a - f1, /a/b/c/b - f1", 2},
	{"a chain, and one elsewhere", "/a - d, /a/b - d, /a/b/c - d, /a/b/c/d - d, /d - f1", 5},
	{"five files", "/a - f1, /b - f1, /c - f1, /d - f1, /a/a - f1", 120},
	{"six files", "/a f1 f2, /b - f1, /c f1 -, /d f1 f2, /a/a - f1, /b/b f1 -", 720},
	{"six directories that do not end or begin in each other", "/a/a - d, /a/b d -, /b/a - d, /b/b d f1, /c f1 d, /d d -", 720},
	{"a directory with one file, and four elsewhere", "/a - d, /a/a - f1, /b - f1, /c - f1, /d - f1, /b/b - f1", 360},
	{"a directory with four files, and one elsewhere", "/a - d, /a/a - f1, /a/b - f1, /a/c - f1, /a/d - f1, /b - f1", 144},
	{"a directory with five files below it", "/a/a f1 -, /a/b f1 -, /a/c f1 -, /a/d f1 -, /a/a/a - f1, /a d -", 120},
	{"three directories with one file each", "/a - d, /a/a - f1, /b d -, /b/a f1 -, /c f1 d, /c/a - d", 90},
	{"two directories with two files each", "/a - d, /a/a - f1, /a/b - f1, /b d -, /b/a f1 -, /b/b f1 -", 80},
	{"two chains of three", "/a - d, /a/a - d, /a/a/a - f1, /b d -, /b/b d -, /b/b/b f1 -", 20},
	{"a chain of four and one of two", "/a - d, /a/b - d, /a/b/c - d, /a/b/c/d - d, /b d -, /b/a f1 -", 15},
	{"a chain of four and two files", "/a - d, /a/b - d, /a/b/c - d, /a/b/c/d - d, /b d -, /c - f1", 30},
	{"one ends in one that begins", "/a f1 d, /a/b d -, /a/b/a f1 -, /a/b/b f1 -, /a/c - d, /a/c/a - f1", 20},
	{"six commands in as few orders as can be", "/a - d, /a/b - d, /a/b/c - d, /a/b/c/a - f1, /a/b/c/b - f1, /a/b/c/c - f1", 6},
	{"the same, as they end", "/a d -, /a/b d -, /a/b/c d -, /a/b/c/a f1 -, /a/b/c/b f1 -, /a/b/c/c f1 -", 6},

	{"seven files", "/a - f1, /b - f1, /c - f1, /d - f1, /a/a - f1, /b/b f1 -, /c/c f1 -", -1},
	{"seven commands", "/a - d, /a/a - f1, /a/b - f1, /a/c - f1, /a/d - f1, /b - d, /b/a - f1", -1},
	{"the same command twice", "/a - f1, /a - f1", -1},
	{"a path twice", "/a - f1, /b - f1, /a f1 -", -1},
	{"a path twice, of six", "/a - d, /a/a - f1, /b - f1, /c - f1, /d - f1, /a d f1", -1},
	{"a path twice, of seven", "/a - d, /a/a - f1, /b - f1, /c - f1, /d - f1, /d/d - f1, /a d f1", -1},
}

func TestOrdersCountTable(t *testing.T) {
	for _, r := range countRows {
		log := logFrom(r.log)
		if got := impl.OrdersCount(log); got != r.count {
			t.Errorf("%s: OrdersCount of %q is %d", r.what, r.log, got)
		}
		if got := countOf(log); got != r.count {
			t.Errorf("%s: countOf(%q) is %d", r.what, r.log, got)
		}
	}
	for n := range 3 * impl.LogMax / 2 {
		want := -1
		if n <= 6 {
			want = countOf(fillers(n))
		}
		if got := impl.OrdersCount(fillers(n)); got != want {
			t.Errorf("OrdersCount of %d commands is %d", n, got)
		}
	}
}

// Promise 75, and each number held against a count that tries each order.
func TestOrdersCountOfManyLogs(t *testing.T) {
	counts := map[int]int{}
	for _, log := range slices.Concat(countLogs(), orderLogs()) {
		got := impl.OrdersCount(log)
		if want := countOf(log); got != want {
			t.Errorf("OrdersCount of %q is %d", lineOf(log), got)
		}
		if got == -1 {
			continue
		}
		most := 1
		for n := range len(log) {
			most *= n + 1
		}
		// Some order is possible even if this one is not.
		if got > most || got < 1 {
			t.Errorf("OrdersCount of %q is %d", lineOf(log), got)
		}
		// With one order only, each path is under the one before it or above it, and there are no more such paths.
		if got == 1 && len(log) > impl.DepthMax {
			t.Errorf("OrdersCount of %q is %d", lineOf(log), got)
		}
		counts[got]++
	}
	if len(counts) < 20 || counts[720] == 0 || counts[1] == 0 {
		t.Errorf("there are too few numbers: %v", counts)
	}
}

// Promise 76.
func TestOrdersCountOfTheOtherDirection(t *testing.T) {
	for _, log := range countLogs() {
		back := slices.Clone(log)
		slices.Reverse(back)
		if got, want := impl.OrdersCount(back), impl.OrdersCount(log); got != want || got == -1 {
			t.Errorf("OrdersCount of %q is %d, and in the other direction %d", lineOf(log), want, got)
		}
	}
}

// Every order of the same commands gives the same number, and commands that are taken back have as many orders.
func TestOrdersCountOfEachOrder(t *testing.T) {
	for _, r := range countRows {
		log := logFrom(r.log)
		if len(log) > 6 {
			continue
		}
		for _, order := range ordersOf(log) {
			if got := impl.OrdersCount(order); got != r.count {
				t.Errorf("%s: OrdersCount of %q is %d", r.what, lineOf(order), got)
			}
		}
		if got := impl.OrdersCount(logUndoOf(log)); got != r.count {
			t.Errorf("%s: OrdersCount of %q is %d", r.what, lineOf(logUndoOf(log)), got)
		}
	}
}

// Calls change neither logs, nor what is behind them, nor each other's results.
func TestOrdersShareNoMemory(t *testing.T) {
	for _, log := range slices.Concat(orderLogs(), countLogs(), longLogs()[:3], unchainedLogs()[:100]) {
		list, array := markedCommands(log)
		before := slices.Clone(array)
		impl.OrderFits(list)
		impl.OrdersCount(list)
		for k := -1; k <= len(log); k++ {
			want, _ := swapOf(log, k)
			first, _ := impl.OrderSwap(list, k)
			second, _ := impl.OrderSwap(list, k)
			overwriteCommands(first)
			if !slices.Equal(second, want) {
				t.Fatalf("OrderSwap of %q, %d is %q", lineOf(log), k, lineOf(second))
			}
			overwriteCommands(second)
		}
		if !slices.Equal(array, before) {
			t.Fatalf("%q has changed: %v", lineOf(log), array)
		}
	}
	// A log may be a part of a longer one.
	whole := logFrom("/a - d, /b - d, /c d -, /d - f1")
	before := slices.Clone(whole)
	got, ok := impl.OrderSwap(whole[1:3], 0)
	if want := logFrom("/c d -, /b - d"); !ok || !slices.Equal(got, want) {
		t.Errorf("OrderSwap of a part is %q, %v", lineOf(got), ok)
	}
	overwriteCommands(got)
	if !slices.Equal(whole, before) {
		t.Errorf("what the log is a part of has changed: %q", lineOf(whole))
	}
}
