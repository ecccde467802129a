package tests

import (
	"math/rand"
	"slices"
	"testing"

	"loop.example/filereconciler/impl"
)

// Promise 119: each content with each other one, and each path.
func TestCommandFromOfBytesIsTheCommand(t *testing.T) {
	for _, c := range append(manyCommands(), notCommands()...) {
		checkCommandBytes(t, c)
		bytes := impl.CommandBytes(c)
		if (len(bytes) > 0) != isCommand(c) {
			t.Errorf("CommandBytes of %s is %v", shown(wordsOf(c)), bytes)
		}
		if len(bytes) == 0 {
			continue
		}
		if got, ok := impl.CommandFrom(bytes); !ok || got != c || len(bytes) != len(c.Path)+4 {
			t.Errorf("CommandBytes of %q is %v, and CommandFrom of it is %q, %v", wordsOf(c), bytes, wordsOf(got), ok)
		}
	}
}

// Each path with contents at both ends of what there is.
func TestCommandBytesOfAllPaths(t *testing.T) {
	ends := []impl.Content{none, dir, fileOf(0), fileOf(1), fileOf(98), fileOf(99)}
	for _, p := range allPaths()[1:] {
		for _, from := range ends {
			for _, to := range ends {
				c := impl.Command{Path: p, From: from, To: to}
				checkCommandBytes(t, c)
				checkCommandFrom(t, rawBytes(c))
			}
		}
	}
}

// The bytes of commands that are invalid are those of no command: also if they are no bytes, but become some if they are cut.
func TestCommandFromOfInvalidCommands(t *testing.T) {
	for _, c := range notCommands() {
		if got, ok := impl.CommandFrom(rawBytes(c)); ok || got != (impl.Command{}) {
			t.Errorf("CommandFrom of the bytes of %s is %q, %v", shown(wordsOf(c)), wordsOf(got), ok)
		}
	}
}

// Each kind and each value of both contents near what they can be.
func TestCommandFromOfAllContents(t *testing.T) {
	for kind := -1; kind <= 4; kind++ {
		for value := -3; value <= 260; value++ {
			for _, other := range [][]int{{0, 0}, {1, 0}, {2, 0}, {2, 99}, {3, 0}, {0, 1}, {2, 100}} {
				checkCommandFrom(t, []int{kind, value, other[0], other[1], 47, 97})
				checkCommandFrom(t, []int{other[0], other[1], kind, value, 47, 98, 47, 99})
			}
		}
	}
}

// Each byte, and each number near the bytes, at each place of a path.
func TestCommandFromOfAllBytesOfPaths(t *testing.T) {
	for _, c := range fewCommands {
		body := rawBytes(c)
		for at := 4; at <= len(body); at++ {
			for b := -300; b <= 600; b++ {
				checkCommandFrom(t, slices.Insert(slices.Clone(body), at, b))
				if at < len(body) {
					list := slices.Clone(body)
					list[at] = b
					checkCommandFrom(t, list)
				}
			}
		}
	}
}

// Promise 120: what is near the bytes of commands, and all short lists of a few numbers.
func TestCommandBytesOfCommandFromAreTheBytes(t *testing.T) {
	found, missed := 0, 0
	lists := append(nearBodies(), listsOf([]int{0, 1, 2, 47, 97, 100}, 6)...)
	for _, body := range append(lists, append(manyBodies(), notBodies()...)...) {
		checkCommandFrom(t, body)
		c, ok := impl.CommandFrom(body)
		if !ok {
			missed++
			continue
		}
		found++
		if got := impl.CommandBytes(c); !isCommand(c) || !slices.Equal(got, body) {
			t.Errorf("CommandFrom of %v is %q, and CommandBytes of it is %v", body, wordsOf(c), got)
		}
	}
	if found < 500 || missed < 500 {
		t.Errorf("%d lists are the bytes of commands, and %d are none", found, missed)
	}
}

// Promise 121.
func TestLogLoadOfLogBytesIsTheLog(t *testing.T) {
	for _, log := range slices.Concat(anyLogs(), fewLogs()) {
		bytes, ok := impl.LogBytes(log)
		if got, used := impl.LogLoad(bytes); !ok || used != len(bytes) || !slices.Equal(got, log) {
			t.Errorf("LogBytes of %q is %v, %v, and LogLoad of it is %q, %d", lineOf(log), bytes, ok, lineOf(got), used)
		}
	}
}

func TestLogBytesOfManyLogs(t *testing.T) {
	for i, log := range slices.Concat(fewLogs(), anyLogs()) {
		if i%5 == 0 || len(log) > 1 {
			checkLogBytes(t, log)
		}
	}
}

// Logs of all lengths up to twice LogMax: those that are too long have no bytes.
func TestLogBytesOfAllLengths(t *testing.T) {
	for n := range 3*impl.LogMax + 3 {
		for _, c := range fewCommands {
			log := slices.Repeat([]impl.Command{c}, n)
			bytes, ok := impl.LogBytes(log)
			want := slices.Repeat(plainFrame(rawBytes(c)), n)
			if n > 20 {
				want = nil
			}
			if ok != (n <= 20) || !slices.Equal(bytes, want) {
				t.Errorf("LogBytes of %d times %q is %s, %v", n, wordsOf(c), shown(bytes), ok)
			}
		}
	}
}

// A log that is too long, or has an invalid command at any place, has no bytes.
func TestLogBytesOfInvalidLogs(t *testing.T) {
	for _, log := range notLogs() {
		if bytes, ok := impl.LogBytes(log); ok || len(bytes) > 0 {
			t.Errorf("LogBytes of %s is %s, %v", shown(lineOf(log)), shown(bytes), ok)
		}
	}
	invalid := notCommands()
	for i, bad := range invalid {
		n := 1 + i%impl.LogMax
		log := grownJournal(rand.New(rand.NewSource(int64(i))), n)
		for at := range n {
			good := log[at]
			log[at] = bad
			if bytes, ok := impl.LogBytes(log); ok || len(bytes) > 0 {
				t.Errorf("LogBytes with %s at %d of %d is %s, %v", shown(wordsOf(bad)), at, n, shown(bytes), ok)
			}
			log[at] = good
		}
		checkLogBytes(t, log)
	}
}

// Promise 122: each beginning of the bytes of a log has the commands whose frames are whole.
func TestLogLoadOfTheFirstBytes(t *testing.T) {
	for _, log := range fewLogs() {
		bytes, ok := impl.LogBytes(log)
		if !ok {
			t.Fatalf("LogBytes of %q fails", lineOf(log))
		}
		count, whole := 0, 0
		for k := range len(bytes) + 1 {
			if count < len(log) && whole+len(log[count].Path)+6 == k {
				count, whole = count+1, k
			}
			got, used := impl.LogLoad(bytes[:k])
			if used > k || used != whole || !slices.Equal(got, log[:count]) {
				t.Errorf("LogLoad of the first %d bytes of %q is %q, %d", k, lineOf(log), lineOf(got), used)
			}
		}
		if count != len(log) {
			t.Errorf("%d frames of %d commands", count, len(log))
		}
	}
}

func TestLogLoadOfManyBytes(t *testing.T) {
	torn, most := 0, 0
	for _, bytes := range manyJournals() {
		checkLogLoad(t, bytes)
		log, used := impl.LogLoad(bytes)
		if len(log) > 0 && used < len(bytes) {
			torn++
		}
		if len(log) == 20 && used < len(bytes) {
			most++
		}
	}
	if torn < 500 || most < 100 {
		t.Errorf("there is something behind %d logs, of which %d have LogMax commands", torn, most)
	}
}

// Promise 123, and promise 124: the bytes that are used are those of the log, and lead to the same.
func TestUsedBytesAreThoseOfTheLog(t *testing.T) {
	for _, bytes := range append(manyJournals(), manyLists()...) {
		log, used := impl.LogLoad(bytes)
		if !isLog(log) || used < 0 || used > len(bytes) {
			t.Fatalf("LogLoad of %s is %s, %d", shown(bytes), shown(lineOf(log)), used)
		}
		if got, ok := impl.LogBytes(log); !ok || !slices.Equal(got, bytes[:used]) {
			t.Errorf("LogLoad of %s is %q, %d, and LogBytes of it is %v, %v", shown(bytes), lineOf(log), used, got, ok)
		}
		if again, count := impl.LogLoad(bytes[:used]); count != used || !slices.Equal(again, log) {
			t.Errorf("LogLoad of %s is %q, %d, and then it is %q, %d", shown(bytes), lineOf(log), used, lineOf(again), count)
		}
	}
}

// Promise 125: a log in two parts, at each place.
func TestLogBytesOfTheFirstAndTheOthers(t *testing.T) {
	for _, log := range fewLogs() {
		bytes, ok := impl.LogBytes(log)
		for k := range len(log) + 1 {
			first, fine := impl.LogBytes(log[:k])
			others, good := impl.LogBytes(log[k:])
			if !ok || !fine || !good || !slices.Equal(bytes, slices.Concat(first, others)) {
				t.Errorf("LogBytes of %q is %v, and with %d apart it is %v and %v", lineOf(log), bytes, k, first, others)
			}
		}
	}
}

// A frame of a body that is no command's ends the log, wherever it is: what is behind it is not read.
func TestLogLoadOfBodiesThatAreNoCommands(t *testing.T) {
	r := rand.New(rand.NewSource(34))
	for i, body := range notCommandBodies() {
		frame := impl.FrameOf(body)
		for _, n := range []int{0, 1, 2, i % 20, 19, 20} {
			// Long logs are tried with a part of the bodies only.
			if n > 2 && i%5 > 0 {
				continue
			}
			log := grownJournal(r, n)
			bytes, _ := impl.LogBytes(log)
			behind, _ := impl.LogBytes(grownJournal(r, 3))
			hasLoaded(t, "no command behind commands", slices.Concat(bytes, frame), log, len(bytes))
			hasLoaded(t, "no command between commands", slices.Concat(bytes, frame, behind), log, len(bytes))
			hasLoaded(t, "no command twice", slices.Concat(bytes, frame, frame, behind), log, len(bytes))
		}
	}
}

// What is no frame ends the log, too, wherever it is.
func TestLogLoadOfNumbersThatAreNoFrame(t *testing.T) {
	r := rand.New(rand.NewSource(35))
	for what, list := range notFrames() {
		for _, n := range []int{0, 1, 2, 19, 20} {
			log := grownJournal(r, n)
			bytes, _ := impl.LogBytes(log)
			behind, _ := impl.LogBytes(grownJournal(r, 3))
			hasLoaded(t, what, slices.Concat(bytes, list), log, len(bytes))
			hasLoaded(t, what+", with commands behind", slices.Concat(bytes, list, behind), log, len(bytes))
		}
	}
}

// Each number of the bytes of a log is changed: the log ends ahead of the frame in which it is.
// Another byte may have the same sum, but not the next one; another length is tried by the other way.
func TestLogLoadWithOneNumberChanged(t *testing.T) {
	bytes, _ := impl.LogBytes(fewCommands)
	frame, begin := 0, 0
	for at, b := range bytes {
		if size := len(fewCommands[frame].Path) + 6; at == begin+size {
			frame, begin = frame+1, begin+size
		}
		for _, other := range slices.Concat([]int{b + 1, b - 1, b + 256, b - 256, b + 251, b - 251, -1, 0, 255, 256}, farNumbers) {
			list := slices.Clone(bytes)
			list[at] = other
			checkLogLoad(t, list)
			if next := other-b == 1 || b-other == 1; next && at > begin {
				hasLoaded(t, "a changed number", list, fewCommands[:frame], begin)
			}
		}
		checkLogLoad(t, slices.Delete(slices.Clone(bytes), at, at+1))
		checkLogLoad(t, slices.Insert(slices.Clone(bytes), at, b))
	}
}

// More commands than a log can have, and very many: the first LogMax are the log.
func TestLogLoadOfMoreThanLogMaxCommands(t *testing.T) {
	r := rand.New(rand.NewSource(36))
	for _, n := range []int{19, 20, 21, 22, 39, 40, 41, 60, 100, 255, 256, 257, 276, 5000} {
		log := grownJournal(r, n)
		bytes := plainFrames(bodiesOf(log))
		first := log[:min(n, 20)]
		want, _ := logBytesOf(first)
		for _, tail := range tailLists() {
			hasLoaded(t, "many commands", slices.Concat(bytes, tail), first, len(want))
		}
	}
	for _, b := range []int{-1, 0, 1, 6, 16, 47} {
		hasLoaded(t, "the same number all along", repeated(100000, b), nil, 0)
	}
	hasLoaded(t, "bodies of one byte all along", slices.Repeat([]int{1, 5, 222}, 50000), nil, 0)
}

// Frames may be split from each other anywhere: commands are read from whole frames only, which begin where the last one ended.
func TestLogLoadBehindOtherNumbers(t *testing.T) {
	bytes, _ := impl.LogBytes(fewCommands)
	for at := 1; at < len(bytes); at++ {
		checkLogLoad(t, bytes[at:])
		checkLogLoad(t, slices.Concat(bytes[:at], bytes))
	}
	for _, b := range append(slices.Clone(nearBytes), farNumbers...) {
		checkLogLoad(t, append([]int{b}, bytes...))
	}
}
