package tests

import (
	"fmt"
	"math/rand"
	"regexp"
	"slices"
	"strings"
	"sync"
	"testing"

	"loop.example/filereconciler/impl"
)

// rawBytes are the bytes of a command, valid or not.
func rawBytes(c impl.Command) []int {
	list := []int{c.From.Kind, c.From.Value, c.To.Kind, c.To.Value}
	for _, b := range []byte(c.Path) {
		list = append(list, int(b))
	}
	return list
}

// commandBytesOf is CommandBytes by another way.
func commandBytesOf(c impl.Command) []int {
	if !isCommand(c) {
		return nil
	}
	return rawBytes(c)
}

var bodyShape = regexp.MustCompile(`^(0 0|1 0|2 [0-9]|2 [1-9][0-9]) (0 0|1 0|2 [0-9]|2 [1-9][0-9])((?: 47 (?:97|98|99|100)){1,4})$`)

// commandFromOf is CommandFrom by another way: the numbers as a text have a shape.
func commandFromOf(body []int) (impl.Command, bool) {
	words := bodyShape.FindStringSubmatch(strings.Trim(fmt.Sprint(body), "[]"))
	if words == nil || words[1] == words[2] {
		return impl.Command{}, false
	}
	path := strings.NewReplacer(" 47", "/", " 97", "a", " 98", "b", " 99", "c", " 100", "d").Replace(words[3])
	return impl.Command{Path: path, From: impl.Content{Kind: body[0], Value: body[1]}, To: impl.Content{Kind: body[2], Value: body[3]}}, true
}

// bodiesOf returns the bytes of each of some commands.
func bodiesOf(list []impl.Command) [][]int {
	var bodies [][]int
	for _, c := range list {
		bodies = append(bodies, rawBytes(c))
	}
	return bodies
}

// logBytesOf is LogBytes by another way.
func logBytesOf(list []impl.Command) ([]int, bool) {
	if !isLog(list) {
		return nil, false
	}
	return plainFrames(bodiesOf(list)), true
}

// logLoadOf is LogLoad by another way.
func logLoadOf(list []int) ([]impl.Command, int) {
	bodies, _ := scanOf(list)
	var log []impl.Command
	used := 0
	for _, body := range bodies {
		c, ok := commandFromOf(body)
		if !ok || len(log) == 20 {
			break
		}
		log = append(log, c)
		used += len(body) + 2
	}
	return log, used
}

func checkCommandBytes(t *testing.T, c impl.Command) {
	t.Helper()
	if got, want := impl.CommandBytes(c), commandBytesOf(c); !slices.Equal(got, want) {
		t.Errorf("CommandBytes of %s is %s, not %v", shown(wordsOf(c)), shown(got), want)
	}
}

func checkCommandFrom(t *testing.T, body []int) {
	t.Helper()
	want, fine := commandFromOf(body)
	if got, ok := impl.CommandFrom(body); ok != fine || got != want {
		t.Errorf("CommandFrom of %s is %s, %v, not %s, %v", shown(body), shown(wordsOf(got)), ok, wordsOf(want), fine)
	}
}

func checkLogBytes(t *testing.T, list []impl.Command) {
	t.Helper()
	want, fine := logBytesOf(list)
	if got, ok := impl.LogBytes(list); ok != fine || !slices.Equal(got, want) {
		t.Errorf("LogBytes of %s is %s, %v, not %s, %v", shown(lineOf(list)), shown(got), ok, shown(want), fine)
	}
}

// hasLoaded tells that LogLoad returns a log and how many bytes it has used.
func hasLoaded(t *testing.T, what string, bytes []int, want []impl.Command, count int) {
	t.Helper()
	if got, used := impl.LogLoad(bytes); used != count || !slices.Equal(got, want) {
		t.Errorf("%s: LogLoad of %s is %s, %d, not %s, %d", what, shown(bytes), shown(lineOf(got)), used, shown(lineOf(want)), count)
	}
}

func checkLogLoad(t *testing.T, bytes []int) {
	t.Helper()
	want, count := logLoadOf(bytes)
	hasLoaded(t, "by another way", bytes, want, count)
}

// nearBytes are the ends of what a kind, a value and a byte of a path can be, and numbers beside them, and 255 and 256.
var nearBytes = []int{-1, 0, 1, 2, 3, 4, 9, 10, 46, 47, 48, 65, 68, 96, 97, 98, 99, 100, 101, 102, 127, 128, 254, 255, 256, 257}

// fewCommands are of all kinds, with values at both ends, and with paths from the shortest one to the longest one.
var fewCommands = logFrom("/a - d, /d d -, /b - f0, /c f99 -, /a/b d f4, /c/d/a f47 d, /d/d/d/d f99 f98, /a/a/a/a - d, /b/a f0 f1, /a/b/c/d f1 f0, /d f97 f47, /c d f99")

// changedBodies returns a body with each number changed to others, left out, and one more at each place, and with two numbers exchanged.
func changedBodies(body []int) [][]int {
	lists := [][]int{body}
	for at := range len(body) + 1 {
		values := append(slices.Clone(nearBytes), farNumbers...)
		if at < len(body) {
			b := body[at]
			lists = append(lists, slices.Delete(slices.Clone(body), at, at+1))
			values = append(values, -b)
			for _, more := range []int{1, -1, 256, -256, 512, 1 << 16, 1 << 32, -1 << 32} {
				values = append(values, b+more)
			}
			for other := range at {
				list := slices.Clone(body)
				list[at], list[other] = body[other], b
				lists = append(lists, list)
			}
		}
		for _, value := range values {
			lists = append(lists, slices.Insert(slices.Clone(body), at, value))
			if at < len(body) {
				list := slices.Clone(body)
				list[at] = value
				lists = append(lists, list)
			}
		}
	}
	return lists
}

// nearBodies returns what is near the bytes of some commands, of which a part is the bytes of others.
func nearBodies() [][]int {
	lists := [][]int{nil, {}, make([]int, 0, 9)}
	for _, c := range fewCommands {
		body := rawBytes(c)
		lists = append(lists, changedBodies(body)...)
		for k := range len(body) + 1 {
			lists = append(lists, body[:k], body[k:], slices.Concat(body[k:], body[:k]), slices.Concat(body, body[:k]), slices.Concat(body[k:], body))
		}
		reversed := slices.Clone(body)
		slices.Reverse(reversed)
		lists = append(lists, reversed, slices.Repeat(body, 100))
	}
	for _, c := range notCommands() {
		lists = append(lists, rawBytes(c))
	}
	return append(lists, repeated(100000, 0), repeated(100000, 47), append([]int{0, 0, 1, 0}, slices.Repeat([]int{47, 97}, 50000)...), append(repeated(100000, 0), 47, 97))
}

// notBodyRows are bodies of bytes that are those of no command, by what is wrong with them.
var notBodyRows = []struct{ what, bytes string }{
	{"one byte", "0"},
	{"one byte of a kind", "2"},
	{"one content", "2,4"},
	{"three bytes", "0,0,2"},
	{"no path", "0,0,2,4"},
	{"no path, and other contents", "1,0,0,0"},
	{"the path of the root", "0,0,2,4,47"},
	{"the path of the root, which is a directory", "1,0,0,0,47"},
	{"a name without a slash", "0,0,2,4,97"},
	{"a path alone", "47,97"},
	{"a long path alone", "47,97,47,98,47,99"},
	{"the bytes without the first one", "0,2,4,47,97"},
	{"one content and a path", "2,4,47,97"},
	{"three numbers and a path", "0,2,4,47,97"},
	{"five numbers and a path", "0,0,2,4,0,47,97"},
	{"the kind 3 of the first content", "3,0,0,0,47,97"},
	{"the kind 3 of the second content", "0,0,3,0,47,97"},
	{"the kind 255 of the first content", "255,0,0,0,47,97"},
	{"the kind 255 of the second content", "0,0,255,0,47,97"},
	{"the kind 3 of both contents", "3,4,3,5,47,97"},
	{"the value 100 of the first content", "2,100,0,0,47,97"},
	{"the value 100 of the second content", "0,0,2,100,47,97"},
	{"the value 255 of the first content", "2,255,1,0,47,97"},
	{"the value 255 of the second content", "1,0,2,255,47,97"},
	{"nothing with a value, first", "0,4,1,0,47,97"},
	{"nothing with a value, second", "1,0,0,4,47,97"},
	{"a directory with a value, first", "1,4,0,0,47,97"},
	{"a directory with a value, second", "0,0,1,99,47,97"},
	{"nothing with the value 1 and nothing", "0,1,0,0,47,97"},
	{"a directory and one with a value", "1,0,1,1,47,97"},
	{"the values ahead of the kinds", "0,0,4,2,47,97"},
	{"both kinds, then both values", "0,2,0,4,47,97"},
	{"the path ahead of the contents", "47,97,0,0,2,4"},
	{"the path between the contents", "0,0,47,97,2,4"},
	{"nothing twice", "0,0,0,0,47,97"},
	{"a directory twice", "1,0,1,0,47,97"},
	{"a file with the same value twice", "2,4,2,4,47,97"},
	{"the largest value twice", "2,99,2,99,47,97,47,98"},
	{"a name ahead of the slash", "0,0,2,4,97,47"},
	{"a slash at the end", "0,0,2,4,47,97,47"},
	{"two slashes", "0,0,2,4,47,47,97"},
	{"two slashes alone", "0,0,2,4,47,47"},
	{"a name of two letters", "0,0,2,4,47,97,98"},
	{"the letter behind the last name", "0,0,2,4,47,101"},
	{"the byte ahead of the first name", "0,0,2,4,47,96"},
	{"a capital letter", "0,0,2,4,47,65"},
	{"a dot for a name", "0,0,2,4,47,46"},
	{"the byte 0 for a name", "0,0,2,4,47,0"},
	{"the byte 255 for a name", "0,0,2,4,47,255"},
	{"a name and 128", "0,0,2,4,47,225"},
	{"a slash and 128", "0,0,2,4,175,97"},
	{"a letter of two bytes for a name", "0,0,2,4,47,195,161"},
	{"the byte 0 behind the path", "0,0,2,4,47,97,0"},
	{"the byte 0 ahead of the path", "0,0,2,4,0,47,97"},
	{"a blank behind the path", "0,0,2,4,47,97,32"},
	{"a blank ahead of the path", "0,0,2,4,32,47,97"},
	{"a line end behind the path", "0,0,2,4,47,97,10"},
	{"a backslash", "0,0,2,4,92,97"},
	{"a wrong second name", "0,0,2,4,47,97,47,101"},
	{"a wrong fourth name", "0,0,2,4,47,97,47,98,47,99,47,101"},
	{"five names", "0,0,2,4,47,97,47,98,47,99,47,100,47,97"},
	{"six names", "0,0,2,4,47,97,47,98,47,99,47,100,47,97,47,98"},
	{"five names of a half", "0,0,2,4,47,97,47,98,47,99,47,100,47"},
	{"two commands in one body", "0,0,2,4,47,97,0,0,2,4,47,97"},
	{"the frame of a command as a body", "6,0,0,2,4,47,97,140"},
	{"the length of the path ahead of it", "0,0,2,4,2,47,97"},
	{"the text of a command", "47,97,32,45,32,102,52"},
	{"as many bytes as can be, all 0", "16x0"},
	{"as many bytes as can be, all 255", "16x255"},
	{"the epoch of a book", "5"},
}

// notCommandBodies returns bodies that are those of no command: the ones above, and those made of commands that are invalid.
func notCommandBodies() [][]int {
	var bodies [][]int
	for _, r := range notBodyRows {
		bodies = append(bodies, bytesFrom(r.bytes))
	}
	for _, body := range nearBodies() {
		if _, ok := commandFromOf(body); !ok && isBody(body) {
			bodies = append(bodies, body)
		}
	}
	return bodies
}

// frameOf is the frame of a command.
func frameOf(line string) []int {
	return plainFrame(rawBytes(commandFrom(line)))
}

// grownJournal returns n valid commands of any kind.
func grownJournal(r *rand.Rand, n int) []impl.Command {
	all := journalCommands()
	log := make([]impl.Command, n)
	for i := range log {
		log[i] = all[r.Intn(len(all))]
	}
	return log
}

// Commands and lists of bytes are made once, and no test may change them.
var (
	journalCommands = sync.OnceValue(manyCommands)
	manyJournals    = sync.OnceValue(makeJournals)
)

// journalTails returns what can stand behind the last command: no frame, half of one, one with another sum, and one of no command, with commands behind it.
func journalTails() [][]int {
	lists := tailLists()
	for _, list := range notFrames() {
		lists = append(lists, list)
	}
	// The frames come in any order from the map, and are the same all the same.
	slices.SortFunc(lists, slices.Compare[[]int])
	for _, line := range []string{"/a - f4", "/d/d/d/d f99 f0"} {
		frame := frameOf(line)
		for k := range frame {
			lists = append(lists, frame[:k], frame[k:])
			for _, more := range []int{1, -1, 251, 256} {
				other := slices.Clone(frame)
				other[k] += more
				lists = append(lists, other)
			}
		}
	}
	for i, body := range notCommandBodies() {
		if i < len(notBodyRows) || i%40 == 0 {
			lists = append(lists, plainFrame(body))
		}
	}
	return lists
}

// makeJournals returns the bytes of logs with tails and commands behind them, the same ones disturbed, and numbers that are near nothing of this.
func makeJournals() [][]int {
	r := rand.New(rand.NewSource(32))
	lists := [][]int{nil, {}}
	behind := plainFrames(bodiesOf(fewCommands[:3]))
	for i, tail := range journalTails() {
		for _, n := range []int{0, 1, 2, i % 19, 19, 20} {
			bytes := plainFrames(bodiesOf(grownJournal(r, n)))
			lists = append(lists, slices.Concat(bytes, tail), slices.Concat(bytes, tail, behind))
		}
	}
	for i := range 400 {
		bytes := plainFrames(bodiesOf(grownJournal(r, i%24)))
		lists = append(lists, bytes, disturbed(r, bytes), disturbed(r, disturbed(r, bytes)))
	}
	for _, n := range []int{40, 41, 45, 100} {
		lists = append(lists, plainFrames(bodiesOf(grownJournal(r, n))))
	}
	for i, list := range manyLists() {
		if i%20 == 0 {
			lists = append(lists, list)
		}
	}
	return lists
}

// fewJournals returns some of them.
func fewJournals() [][]int {
	var lists [][]int
	for i, list := range manyJournals() {
		if i%25 == 0 {
			lists = append(lists, list)
		}
	}
	return lists
}

// fewLogs returns logs of all lengths.
func fewLogs() [][]impl.Command {
	r := rand.New(rand.NewSource(33))
	lists := [][]impl.Command{nil, {}, make([]impl.Command, 0, 5), fewCommands, valueLog(impl.LogMax), slices.Repeat(fewCommands[6:7], impl.LogMax)}
	for n := range 3 * (impl.LogMax + 1) {
		lists = append(lists, grownJournal(r, n%(impl.LogMax+1)))
	}
	return lists
}
