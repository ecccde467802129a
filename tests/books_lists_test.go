package tests

import (
	"fmt"
	"math/rand"
	"slices"
	"strconv"
	"strings"
	"sync"
	"testing"

	"loop.example/filereconciler/impl"
)

// bookFrom makes a book from a line such as "3: /a - d, /a/b - f4".
func bookFrom(line string) impl.Book {
	epoch, log, _ := strings.Cut(line, ":")
	n, err := strconv.Atoi(epoch)
	if err != nil {
		panic(line)
	}
	return impl.Book{Epoch: n, Log: logFrom(log)}
}

// bookLine leads back from bookFrom.
func bookLine(b impl.Book) string {
	return fmt.Sprintf("%d: %s", b.Epoch, lineOf(b.Log))
}

// sameBook tells whether books are the same. A nil slice is the same as an empty one.
func sameBook(a, b impl.Book) bool {
	return a.Epoch == b.Epoch && slices.Equal(a.Log, b.Log)
}

// isBook tells whether a book is valid.
func isBook(b impl.Book) bool {
	return b.Epoch >= 0 && b.Epoch <= 99 && isLog(b.Log)
}

// epochFrames has the frames of all epochs.
var epochFrames = sync.OnceValue(func() map[[3]int]int {
	frames := map[[3]int]int{}
	for epoch := range 100 {
		frames[[3]int(plainFrame([]int{epoch}))] = epoch
	}
	return frames
})

// bookBytesOf is BookBytes by another way.
func bookBytesOf(b impl.Book) ([]int, bool) {
	if !isBook(b) {
		return nil, false
	}
	return plainFrames(append([][]int{{b.Epoch}}, bodiesOf(b.Log)...)), true
}

// bookLoadOf is BookLoad by another way: the bytes begin with one of the frames of all epochs.
func bookLoadOf(bytes []int) (impl.Book, bool) {
	if len(bytes) < 3 {
		return impl.Book{}, false
	}
	epoch, ok := epochFrames()[[3]int(bytes)]
	if !ok {
		return impl.Book{}, false
	}
	log, _ := logLoadOf(bytes[3:])
	return impl.Book{Epoch: epoch, Log: log}, true
}

// bookOpenOf is BookOpen by another way.
func bookOpenOf(list []impl.Blob) (impl.Book, bool) {
	if !isDisk(list) {
		return impl.Book{}, false
	}
	bytes, _ := driveOf(list).read(1)
	return bookLoadOf(bytes)
}

// bookStepsOf is BookSteps by another way: each disk is made from the first one.
func bookStepsOf(list []impl.Blob, b impl.Book) ([][]impl.Blob, bool) {
	bytes, ok := bookBytesOf(b)
	if !ok || !isDisk(list) {
		return nil, false
	}
	var disks [][]impl.Blob
	for step := range 3 {
		d := driveOf(list)
		delete(d, 2)
		d[2-step/2] = cellsOf(bytes, step > 0)
		files, ok := d.files()
		if !ok {
			return nil, false
		}
		disks = append(disks, files)
	}
	return disks, true
}

// bookAddOf is BookAdd by another way.
func bookAddOf(list []impl.Blob, c impl.Command) ([]impl.Blob, bool) {
	b, ok := bookOpenOf(list)
	own, _ := bookBytesOf(b)
	d := driveOf(list)
	if !ok || !isCommand(c) || len(b.Log) > 19 || len(own) != len(d[1]) {
		return nil, false
	}
	d[1] = cellsOf(slices.Concat(own, plainFrame(rawBytes(c))), true)
	return d.files()
}

func checkBookBytes(t *testing.T, b impl.Book) {
	t.Helper()
	want, fine := bookBytesOf(b)
	if got, ok := impl.BookBytes(b); ok != fine || !slices.Equal(got, want) {
		t.Errorf("BookBytes of %s is %s, %v, not %s, %v", shown(bookLine(b)), shown(got), ok, shown(want), fine)
	}
}

// hasBook tells that a call, which is told by some words, has returned a book, or the zero value and false.
func hasBook(t *testing.T, got impl.Book, ok bool, want impl.Book, fine bool, call ...any) {
	t.Helper()
	if ok != fine || !sameBook(got, want) {
		t.Errorf("%s is %s, %v, not %s, %v", shown(call), shown(bookLine(got)), ok, shown(bookLine(want)), fine)
	}
}

func checkBookLoad(t *testing.T, bytes []int) {
	t.Helper()
	got, ok := impl.BookLoad(bytes)
	want, fine := bookLoadOf(bytes)
	hasBook(t, got, ok, want, fine, "BookLoad of", bytes)
}

func checkBookOpen(t *testing.T, list []impl.Blob) {
	t.Helper()
	got, ok := impl.BookOpen(list)
	want, fine := bookOpenOf(list)
	hasBook(t, got, ok, want, fine, "BookOpen of", list)
}

// sameDisks tells whether disks are the same.
func sameDisks(a, b [][]impl.Blob) bool {
	return slices.EqualFunc(a, b, sameDisk)
}

func checkBookSteps(t *testing.T, list []impl.Blob, b impl.Book) {
	t.Helper()
	want, fine := bookStepsOf(list, b)
	if got, ok := impl.BookSteps(list, b); ok != fine || !sameDisks(got, want) {
		t.Errorf("BookSteps of %s and %s is %s, %v, not %s, %v", shown(list), shown(bookLine(b)), shown(got), ok, shown(want), fine)
	}
}

func checkBookAdd(t *testing.T, list []impl.Blob, c impl.Command) {
	t.Helper()
	got, ok := impl.BookAdd(list, c)
	want, fine := bookAddOf(list, c)
	isDiskFrom(t, got, ok, want, fine, "BookAdd of", list, wordsOf(c))
}

// farEpochs are numbers that no epoch has, some of which become one, or have the sum of one, if they are made smaller.
var farEpochs = append([]int{-3, 100, 101, 127, 128, 199, 250, 251, 252, 254, 255, 350, 355, -99, -100, -156, -157, 1<<16 + 99, 1<<32 + 99}, farNumbers...)

// endEpochs are at both ends of the range of epochs, in its middle, and where the sum is SumBase - 1 and 0.
var endEpochs = []int{0, 1, 2, 33, 34, 50, 98, 99}

// longestLog returns n commands with as many bytes as a command can have.
func longestLog(n int) []impl.Command {
	return slices.Repeat(logFrom("/d/d/d/d f99 f98"), n)
}

// Books and disks are made once, and no test may change them.
var (
	manyBooks = sync.OnceValue(makeBooks)
	bookFiles = sync.OnceValue(makeBookFiles)
	bookDisks = sync.OnceValue(makeBookDisks)
)

// makeBooks returns books of all epochs and of logs of all lengths.
func makeBooks() []impl.Book {
	var books []impl.Book
	for epoch := range impl.EpochMax + 1 {
		books = append(books, impl.Book{Epoch: epoch}, impl.Book{Epoch: epoch, Log: []impl.Command{}})
	}
	logs := append(fewLogs(), longestLog(impl.LogMax), longestLog(impl.LogMax-1))
	for i, log := range logs {
		books = append(books, impl.Book{Epoch: endEpochs[i%len(endEpochs)], Log: log}, impl.Book{Epoch: i, Log: log})
	}
	for i, log := range anyLogs() {
		if i%50 == 0 {
			books = append(books, impl.Book{Epoch: i % 100, Log: log})
		}
	}
	return books
}

// fewBooks returns some of them.
func fewBooks() []impl.Book {
	var books []impl.Book
	for i, b := range manyBooks() {
		if i%15 == 0 || len(b.Log) == impl.LogMax && i%4 == 0 {
			books = append(books, b)
		}
	}
	return books
}

// notBooks returns books whose epoch, log, or both are invalid.
func notBooks() []impl.Book {
	var books []impl.Book
	invalid := notLogs()
	for i, epoch := range farEpochs {
		for _, log := range [][]impl.Command{nil, {}, fewCommands[:1], fewCommands, valueLog(impl.LogMax), invalid[i], invalid[len(invalid)-1-i]} {
			books = append(books, impl.Book{Epoch: epoch, Log: log})
		}
	}
	for i, log := range invalid {
		books = append(books, impl.Book{Epoch: endEpochs[i%len(endEpochs)], Log: log})
	}
	for _, log := range [][]impl.Command{longestLog(21), longestLog(22), longestLog(40), longestLog(1000)} {
		books = append(books, impl.Book{Log: log}, impl.Book{Epoch: 99, Log: log}, impl.Book{Epoch: 100, Log: log})
	}
	return books
}

// notEpochRows are numbers that do not begin with the frame of an epoch, whatever comes behind them, by what is wrong with them.
var notEpochRows = []struct{ what, bytes string }{
	{"a sum that is one more", "1,5,223"},
	{"a sum that is one less", "1,5,221"},
	{"the sum 0", "1,5,0"},
	{"the sum and SumBase", "1,5,473"},
	{"the sum and 256", "1,5,478"},
	{"the sum less SumBase", "1,5,-29"},
	{"the sum -1", "1,5,-1"},
	{"the epoch for its sum", "1,5,5"},
	{"the sum of no bytes", "1,5,7"},
	{"the sum of the next epoch", "1,6,222"},
	{"SumBase for the sum 0", "1,34,251"},
	{"0 for the sum SumBase - 1", "1,33,0"},
	{"one more than the largest epoch", "1,100,66"},
	{"one more, with the sum of the largest epoch", "1,100,65"},
	{"the largest epoch, with the sum of one more", "1,99,66"},
	{"two more than the largest epoch", "1,101,67"},
	{"the byte 127", "1,127,93"},
	{"the byte 128", "1,128,94"},
	{"the byte 250", "1,250,216"},
	{"the byte 251, with the sum of 0", "1,251,217"},
	{"the byte 255", "1,255,221"},
	{"256, with its sum", "1,256,222"},
	{"256 and 5, with its sum", "1,261,227"},
	{"256 and 5, with the sum of 5", "1,261,222"},
	{"-1, with its sum", "1,-1,216"},
	{"-1 twice", "1,-1,-1"},
	{"-1 three times", "-1,-1,-1"},
	{"100 and the sum -1", "1,100,-1"},
	{"no bytes, and their sum", "0,7"},
	{"no bytes, and the sum 0", "0,0"},
	{"no bytes, and the sum -1", "0,-1"},
	{"no bytes, ahead of an epoch", "0,1,5,222"},
	{"no bytes, and the epoch with its sum", "0,5,222"},
	{"two bytes for a length of one", "1,5,6,111"},
	{"two bytes", "2,5,6,111"},
	{"two bytes, the first one is 0", "2,0,5,206"},
	{"two bytes, and both are 0", "2,0,0,201"},
	{"three bytes", "3,1,5,222,39"},
	{"the length 2 and one byte", "2,5,222"},
	{"the length 3 and one byte", "3,5,222"},
	{"the length 16", "16,5,222"},
	{"the length 17", "17,5,222"},
	{"the length 256 and 1", "257,5,222"},
	{"the length -1", "-1,5,222"},
	{"the length below 0", "-255,5,222"},
	{"an epoch without a length", "5,222"},
	{"an epoch behind its sum", "1,222,5"},
	{"an epoch without a frame", "5"},
	{"a command", goodFrame},
	{"a longer command", longFrame},
	{"a command and an epoch", goodFrame + ",1,5,222"},
	{"16 bytes", "16,16x0,164"},
	{"17 bytes", "17,17x0,64"},
	{"17 bytes and the sum -1", "17,17x0,-1"},
	{"the same number all along", "100x1"},
	{"0 all along", "400x0"},
}

// bookTails returns what can stand behind the last command of a book: no frame, half of one, one with another sum, and one of no command, with commands behind it.
func bookTails() [][]int {
	var lists [][]int
	for i, tail := range journalTails() {
		lists = append(lists, tail)
		if i%9 == 0 {
			lists = append(lists, slices.Concat(tail, plainFrames(bodiesOf(fewCommands[:2]))))
		}
	}
	return append(lists, plainFrame([]int{0}), plainFrame([]int{99}), slices.Concat(plainFrame([]int{5}), plainFrames(bodiesOf(fewCommands[:2]))))
}

// makeBookFiles returns the bytes of books, which are whole, torn, disturbed or changed at their beginning, and have others behind them.
func makeBookFiles() [][]int {
	r := rand.New(rand.NewSource(41))
	lists := [][]int{nil, {}, make([]int, 0, 9)}
	epoch := func(i int) []int { return plainFrame([]int{endEpochs[i%len(endEpochs)]}) }
	for i, tail := range bookTails() {
		for _, n := range []int{0, 1, i % 19, 19, 20} {
			lists = append(lists, slices.Concat(epoch(i+n), plainFrames(bodiesOf(grownJournal(r, n))), tail))
		}
	}
	for i, row := range notEpochRows {
		begin := bytesFrom(row.bytes)
		lists = append(lists, begin, slices.Concat(begin, frameOf("/a - f4")), slices.Concat(begin, epoch(i), frameOf("/a - f4")), slices.Concat(epoch(i), begin, frameOf("/a - f4")))
	}
	for i := range 400 {
		bytes := slices.Concat(plainFrame([]int{i % 100}), plainFrames(bodiesOf(grownJournal(r, i%24))))
		lists = append(lists, bytes, disturbed(r, bytes), disturbed(r, disturbed(r, bytes)))
	}
	for i, list := range manyLists() {
		if i%100 == 0 {
			lists = append(lists, list, slices.Concat(epoch(i), list))
		}
	}
	return lists
}

// fewBookFiles returns some of them.
func fewBookFiles() [][]int {
	var lists [][]int
	for i, list := range bookFiles() {
		if i%25 == 0 {
			lists = append(lists, list)
		}
	}
	return lists
}

// besideBooks are the other files of a disk: none, one or both of them, with all parts that files have.
var besideBooks = []string{"", "2:|", "3:|", "2:1,2|3", "3:4|5,6", "2:|400x1", "2:400x2| 3:|400x3", "2:1,5,222| 3:|1,6,223", "2:|1,7,224,6,0,0,2,4,47,97,140", "2:0|255 3:|"}

// withBook returns a disk with a book file, of which the first bytes are safe, and others beside it.
func withBook(bytes []int, safe int, beside string) []impl.Blob {
	return slices.Insert(diskFrom(beside), 0, impl.Blob{Name: 1, Safe: bytes[:safe:safe], Fresh: bytes[safe:]})
}

// makeBookDisks returns disks without a book, with whole ones, and with those that are not. Some are no disks, as what is in their files is no bytes.
func makeBookDisks() [][]impl.Blob {
	var disks [][]impl.Blob
	for _, line := range besideBooks {
		disks = append(disks, diskFrom(line))
	}
	i := 0
	add := func(bytes []int) {
		for _, safe := range []int{0, min(3, len(bytes)), len(bytes) / 2, len(bytes)} {
			disks = append(disks, withBook(bytes, safe, besideBooks[i%len(besideBooks)]))
			i++
		}
	}
	for k, b := range manyBooks() {
		if bytes, _ := bookBytesOf(b); k%3 == 0 || len(b.Log) > 17 {
			add(bytes)
		}
	}
	for k, bytes := range bookFiles() {
		if k%7 == 0 {
			add(bytes)
		}
	}
	for n := 397; n <= 402; n++ {
		for _, begin := range []string{"1,5,222", "1,5,222," + goodFrame, "1,5,223"} {
			bytes := bytesFrom(begin)
			add(append(bytes, repeated(n-len(bytes), 0)...))
		}
	}
	return disks
}

// fewBookDisks returns some of them.
func fewBookDisks() [][]impl.Blob {
	var disks [][]impl.Blob
	for i, list := range bookDisks() {
		if i < len(besideBooks) || i%13 == 0 {
			disks = append(disks, list)
		}
	}
	return disks
}

// markedBook returns a copy of a book whose log has spare capacity, and the whole array behind it.
func markedBook(b impl.Book) (impl.Book, []impl.Command) {
	log, array := markedCommands(b.Log)
	return impl.Book{Epoch: b.Epoch, Log: log}, array
}
