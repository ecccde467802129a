package tests

import (
	"runtime"
	"slices"
	"sync"
	"testing"

	"loop.example/filereconciler/impl"
)

// checkJournal tells that all functions return what they do by another way, for a log and for bytes.
func checkJournal(t *testing.T, log []impl.Command, bytes []int) {
	t.Helper()
	checkLogLoad(t, bytes)
	checkCommandFrom(t, bytes)
	checkLogBytes(t, log)
	// Some logs are very long: of these, the first commands will do.
	for _, c := range log[:min(len(log), impl.LogMax)] {
		checkCommandBytes(t, c)
		checkCommandFrom(t, rawBytes(c))
	}
}

func TestJournalsAreTheSameEachTime(t *testing.T) {
	defer runtime.GOMAXPROCS(runtime.GOMAXPROCS(0))
	logs := append(fewLogs(), notLogs()[:20]...)
	for _, n := range []int{1, 2, 8} {
		runtime.GOMAXPROCS(n)
		for i, bytes := range fewJournals() {
			checkJournal(t, logs[i%len(logs)], bytes)
		}
	}
}

// Calls with the same arguments that are made at the same time do not disturb each other.
func TestJournalsAtTheSameTime(t *testing.T) {
	logs := append(fewLogs(), notLogs()[:20]...)
	for i, bytes := range fewJournals() {
		if i%3 > 0 {
			continue
		}
		bytes, _ := marked(bytes)
		log, _ := markedCommands(logs[i%len(logs)])
		var calls sync.WaitGroup
		for range 4 {
			calls.Go(func() { checkJournal(t, log, bytes) })
		}
		calls.Wait()
	}
}

// Calls with other arguments that are made at the same time do not disturb each other, either.
func TestJournalsApartAtTheSameTime(t *testing.T) {
	logs := [][]impl.Command{fewCommands, nil, valueLog(impl.LogMax), fewCommands[6:8], logFrom("/c - d, /c/d - f8")}
	tails := [][]int{nil, {6, 0, 0, 2}, plainFrame([]int{5}), frameOf("/d d f1"), {1, 5, 223}}
	var calls sync.WaitGroup
	for k := range 15 {
		log := logs[k%5]
		bytes := slices.Concat(plainFrames(bodiesOf(log)), tails[k/3])
		calls.Go(func() {
			for range 20 {
				checkJournal(t, log, bytes)
				checkJournal(t, longLogs()[0], frameOf("/a f1 f2"))
			}
		})
	}
	calls.Wait()
}

// All goroutines of a call have ended with it, or will in a moment, wherever the log ends.
func TestJournalsLeaveNoGoroutines(t *testing.T) {
	good, bad := frameOf("/a - f4"), plainFrame([]int{5})
	lists := [][]int{nil, good, bad, good[:5], slices.Concat(good, bad), slices.Concat(bad, good), slices.Concat(good, bad, good), slices.Repeat(good, 19), slices.Repeat(good, 20),
		slices.Repeat(good, 21), slices.Repeat(good, 1000), slices.Concat(slices.Repeat(good, 20), bad), slices.Concat(slices.Repeat(good, 19), bad, good), {6, -1}}
	before := runtime.NumGoroutine()
	for range 50 {
		for _, list := range lists {
			checkJournal(t, nil, list)
		}
	}
	goroutinesEnd(t, before)
}

// Calls change neither bytes, nor what is behind them, nor each other's results.
func TestLogLoadSharesNoMemory(t *testing.T) {
	for _, list := range fewJournals() {
		bytes, array := marked(list)
		before := slices.Clone(array)
		want, count := logLoadOf(list)
		first, used := impl.LogLoad(bytes)
		second, again := impl.LogLoad(bytes)
		overwriteCommands(first)
		if used != count || again != count || !slices.Equal(second, want) {
			t.Fatalf("LogLoad of %s is %s, %d", shown(list), shown(lineOf(second)), again)
		}
		overwriteCommands(second)
		if !slices.Equal(array, before) {
			t.Fatalf("%s has changed: %s", shown(list), shown(array))
		}
	}
}

// The commands of a log are those that its bytes were when it was read, whatever becomes of these.
func TestLoadedLogsKeepNoBytes(t *testing.T) {
	for _, log := range fewLogs() {
		bytes, _ := impl.LogBytes(log)
		got, used := impl.LogLoad(bytes)
		count := len(bytes)
		overwrite(bytes)
		if used != count || !slices.Equal(got, log) {
			t.Fatalf("LogLoad of the bytes of %q is %q, %d", lineOf(log), lineOf(got), used)
		}
		for _, c := range log {
			body := impl.CommandBytes(c)
			back, ok := impl.CommandFrom(body)
			overwrite(body)
			if !ok || back != c {
				t.Fatalf("CommandFrom of the bytes of %q is %q, %v", wordsOf(c), wordsOf(back), ok)
			}
		}
	}
}

func TestLogBytesShareNoMemory(t *testing.T) {
	for _, list := range append(fewLogs(), notLogs()[:200]...) {
		log, array := markedCommands(list)
		before := slices.Clone(array)
		want, fine := logBytesOf(list)
		first, ok := impl.LogBytes(log)
		second, again := impl.LogBytes(log)
		overwrite(first)
		if ok != fine || again != fine || !slices.Equal(second, want) {
			t.Fatalf("LogBytes of %s is %s, %v", shown(lineOf(list)), shown(second), again)
		}
		overwrite(second)
		if !slices.Equal(array, before) {
			t.Fatalf("%s has changed: %s", shown(lineOf(list)), shown(lineOf(array)))
		}
	}
}

func TestCommandBytesShareNoMemory(t *testing.T) {
	for _, c := range append(slices.Clone(fewCommands), notCommands()[:50]...) {
		want := commandBytesOf(c)
		first, second := impl.CommandBytes(c), impl.CommandBytes(c)
		overwrite(first)
		if !slices.Equal(second, want) {
			t.Errorf("CommandBytes of %s is %v", shown(wordsOf(c)), second)
		}
		overwrite(second)
		if got := impl.CommandBytes(c); !slices.Equal(got, want) {
			t.Errorf("CommandBytes of %s is then %v", shown(wordsOf(c)), got)
		}
	}
	for i, list := range nearBodies() {
		if i%7 > 0 {
			continue
		}
		body, array := marked(list)
		before := slices.Clone(array)
		checkCommandFrom(t, body)
		if !slices.Equal(array, before) {
			t.Fatalf("%s has changed: %s", shown(list), shown(array))
		}
	}
}

// Commands and their bytes may be parts of one array, so that behind each part there is the next one.
func TestJournalsOfPartsOfOneArray(t *testing.T) {
	log, arrayLog := markedCommands(fewCommands)
	bytes, arrayBytes := marked(plainFrames(bodiesOf(fewCommands)))
	beforeLog, beforeBytes := slices.Clone(arrayLog), slices.Clone(arrayBytes)
	for from := range len(log) + 1 {
		for to := from; to <= len(log); to++ {
			checkLogBytes(t, log[from:to])
		}
	}
	for from := range len(bytes) + 1 {
		for _, n := range []int{0, 1, 6, 8, 10, 12, 14, 50} {
			part := bytes[from:min(from+n, len(bytes))]
			checkCommandFrom(t, part)
			checkLogLoad(t, part)
		}
	}
	if !slices.Equal(arrayLog, beforeLog) || !slices.Equal(arrayBytes, beforeBytes) {
		t.Errorf("the arrays have changed: %s, %v", lineOf(arrayLog), arrayBytes)
	}
}

// A nil slice and an empty one are the same, as arguments and as results.
func TestJournalsOfNilAndEmptySlices(t *testing.T) {
	for _, list := range [][]int{nil, {}, make([]int, 0, 20)} {
		if log, used := impl.LogLoad(list); len(log) > 0 || used != 0 {
			t.Errorf("LogLoad of no bytes is %q, %d", lineOf(log), used)
		}
		if c, ok := impl.CommandFrom(list); ok || c != (impl.Command{}) {
			t.Errorf("CommandFrom of no bytes is %q, %v", wordsOf(c), ok)
		}
	}
	for _, log := range [][]impl.Command{nil, {}, make([]impl.Command, 0, 20)} {
		if bytes, ok := impl.LogBytes(log); !ok || len(bytes) > 0 {
			t.Errorf("LogBytes of no commands is %v, %v", bytes, ok)
		}
	}
}
