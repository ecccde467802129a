package tests

import (
	"runtime"
	"slices"
	"sync"
	"testing"

	"loop.example/filereconciler/impl"
)

// checkBooks tells that all functions return what they do by another way, for a disk, a book and a command.
func checkBooks(t *testing.T, list []impl.Blob, b impl.Book, c impl.Command) {
	t.Helper()
	checkBookBytes(t, b)
	checkBookSteps(t, list, b)
	checkBookAdd(t, list, c)
	checkBookOpen(t, list)
	for _, f := range list[:min(len(list), 3)] {
		checkBookLoad(t, f.Safe)
		checkBookLoad(t, f.Fresh)
	}
}

// someCalls returns disks, books and commands of all kinds, some of them invalid, to be used by turns.
func someCalls() ([][]impl.Blob, []impl.Book, []impl.Command) {
	return append(fewBookDisks(), notDisks()[5:25]...), append(fewBooks(), notBooks()[:30]...), append(slices.Clone(fewCommands), notCommands()[:5]...)
}

func TestBooksAreTheSameEachTime(t *testing.T) {
	defer runtime.GOMAXPROCS(runtime.GOMAXPROCS(0))
	disks, books, commands := someCalls()
	for _, n := range []int{1, 2, 8} {
		runtime.GOMAXPROCS(n)
		for i, list := range disks {
			for range 2 {
				checkBooks(t, list, books[i%len(books)], commands[i%len(commands)])
			}
		}
	}
}

// Calls with the same arguments that are made at the same time do not disturb each other.
func TestBooksAtTheSameTime(t *testing.T) {
	disks, books, commands := someCalls()
	for i, list := range disks {
		list, _, _ := markedDisk(list)
		b, _ := markedBook(books[i%len(books)])
		var calls sync.WaitGroup
		for range 4 {
			calls.Go(func() { checkBooks(t, list, b, commands[i%len(commands)]) })
		}
		calls.Wait()
	}
}

// Calls with other arguments that are made at the same time do not disturb each other, either.
func TestBooksApartAtTheSameTime(t *testing.T) {
	disks := [][]impl.Blob{nil, diskFrom("1:1,5,222|" + goodFrame + " 2:|7"), diskFrom("1:1,0,217,6|0 3:8|"), diskFrom("1:1,99,65," + longFrame + "| 2:5| 3:6|"), diskFrom("2:|1,5,222"), diskFrom("2:| 1:1,5,222|")}
	books := []impl.Book{{}, {Epoch: 99, Log: fewCommands}, {Epoch: 34, Log: longestLog(20)}, {Epoch: 100}, {Epoch: 5, Log: valueLog(21)}}
	var calls sync.WaitGroup
	for k := range 15 {
		calls.Go(func() {
			for i := range 30 {
				checkBooks(t, disks[(k+i)%len(disks)], books[k%len(books)], fewCommands[(k+i)%len(fewCommands)])
			}
		})
	}
	calls.Wait()
}

// All goroutines of a call have ended with it, or will in a moment.
func TestBooksLeaveNoGoroutines(t *testing.T) {
	disks, books, commands := someCalls()
	before := runtime.NumGoroutine()
	for i, list := range disks {
		checkBooks(t, list, books[i%len(books)], commands[i%len(commands)])
	}
	goroutinesEnd(t, before)
}

// Calls change neither disks and books, nor what is behind them, nor each other's results; and the disks of one result are apart from each other.
func TestBookStepsShareNoMemory(t *testing.T) {
	disks, books, _ := someCalls()
	for i, list := range disks {
		b := books[i%len(books)]
		want, fine := bookStepsOf(list, b)
		files, array, arrays := markedDisk(list)
		book, arrayLog := markedBook(b)
		before, beforeArrays, beforeLog := slices.Clone(array), clonedLists(arrays), slices.Clone(arrayLog)
		first, ok := impl.BookSteps(files, book)
		second, again := impl.BookSteps(files, book)
		partsAreApart(t, first...)
		clear(first[:cap(first)])
		if ok != fine || again != fine || !sameDisks(second, want) {
			t.Fatalf("BookSteps of %s and %s is %s, %v", shown(list), shown(bookLine(b)), shown(second), again)
		}
		partsAreApart(t, second...)
		if !sameDisk(array, before) || !slices.EqualFunc(arrays, beforeArrays, slices.Equal[[]int]) || !slices.Equal(arrayLog, beforeLog) {
			t.Fatalf("%s and %s have changed: %s, %s", shown(list), shown(bookLine(b)), shown(array), shown(lineOf(arrayLog)))
		}
	}
}

func TestBookAddSharesNoMemory(t *testing.T) {
	for i, list := range append(bookDisks(), notDisks()[5:]...) {
		if i%3 > 0 {
			continue
		}
		c := fewCommands[i%len(fewCommands)]
		want, fine := bookAddOf(list, c)
		files, array, arrays := markedDisk(list)
		before, beforeArrays := slices.Clone(array), clonedLists(arrays)
		first, ok := impl.BookAdd(files, c)
		second, again := impl.BookAdd(files, c)
		partsAreApart(t, first)
		if ok != fine || again != fine || !sameDisk(second, want) {
			t.Fatalf("BookAdd of %s and %q is %s, %v", shown(list), wordsOf(c), shown(second), again)
		}
		partsAreApart(t, second)
		if !sameDisk(array, before) || !slices.EqualFunc(arrays, beforeArrays, slices.Equal[[]int]) {
			t.Fatalf("%s has changed: %s", shown(list), shown(array))
		}
	}
}

func TestBookOpenSharesNoMemory(t *testing.T) {
	for i, list := range append(bookDisks(), notDisks()[5:]...) {
		if i%3 > 0 {
			continue
		}
		want, fine := bookOpenOf(list)
		files, array, arrays := markedDisk(list)
		before, beforeArrays := slices.Clone(array), clonedLists(arrays)
		first, ok := impl.BookOpen(files)
		second, again := impl.BookOpen(files)
		overwriteCommands(first.Log)
		if ok != fine || again != fine || !sameBook(second, want) {
			t.Fatalf("BookOpen of %s is %s, %v", shown(list), shown(bookLine(second)), again)
		}
		overwriteCommands(second.Log)
		if !sameDisk(array, before) || !slices.EqualFunc(arrays, beforeArrays, slices.Equal[[]int]) {
			t.Fatalf("%s has changed: %s", shown(list), shown(array))
		}
	}
}

func TestBookBytesShareNoMemory(t *testing.T) {
	for _, b := range append(fewBooks(), notBooks()[:200]...) {
		want, fine := bookBytesOf(b)
		book, array := markedBook(b)
		before := slices.Clone(array)
		first, ok := impl.BookBytes(book)
		second, again := impl.BookBytes(book)
		overwrite(first)
		if ok != fine || again != fine || !slices.Equal(second, want) {
			t.Fatalf("BookBytes of %s is %s, %v", shown(bookLine(b)), shown(second), again)
		}
		overwrite(second)
		if !slices.Equal(array, before) {
			t.Fatalf("%s has changed: %s", shown(bookLine(b)), shown(lineOf(array)))
		}
	}
}

func TestBookLoadSharesNoMemory(t *testing.T) {
	for _, list := range fewBookFiles() {
		want, fine := bookLoadOf(list)
		bytes, array := marked(list)
		before := slices.Clone(array)
		first, ok := impl.BookLoad(bytes)
		second, again := impl.BookLoad(bytes)
		overwriteCommands(first.Log)
		if ok != fine || again != fine || !sameBook(second, want) {
			t.Fatalf("BookLoad of %s is %s, %v", shown(list), shown(bookLine(second)), again)
		}
		if !slices.Equal(array, before) {
			t.Fatalf("%s has changed: %s", shown(list), shown(array))
		}
		overwriteCommands(second.Log)
		third, _ := impl.BookLoad(bytes)
		overwrite(bytes)
		if !sameBook(third, want) {
			t.Fatalf("BookLoad of %s is then %s", shown(list), shown(bookLine(third)))
		}
	}
}

// Books stay as they are when the disks that they come from, or go to, change.
func TestBooksKeepNoDisks(t *testing.T) {
	for _, b := range fewBooks() {
		book, _ := markedBook(b)
		steps, ok := impl.BookSteps(diskFrom("1:5|6 2:|7 3:8|9"), book)
		overwriteCommands(book.Log)
		got, fine := impl.BookOpen(steps[2])
		added, more := impl.BookAdd(steps[2], fewCommands[0])
		partsAreApart(t, steps...)
		hasBook(t, got, ok && fine, b, true, "BookOpen of BookSteps")
		if more != (len(b.Log) < 20) {
			t.Errorf("BookAdd to %s is %v", shown(bookLine(b)), more)
		}
		if again, fine := impl.BookOpen(added); more {
			hasBook(t, again, fine, impl.Book{Epoch: b.Epoch, Log: append(slices.Clone(b.Log), fewCommands[0])}, true, "BookOpen of BookAdd")
		}
	}
}

// The bytes of all files, and the commands of all books, may lie in one array one behind the other.
func TestBooksOfPartsOfOneArray(t *testing.T) {
	array := bytesFrom("1,5,222," + goodFrame + ",1,6,223," + longFrame + "," + goodFrame)
	before := slices.Clone(array)
	log, arrayLog := markedCommands(fewCommands)
	beforeLog := slices.Clone(arrayLog)
	for from := range 12 {
		for to := from; to <= len(array); to += 4 {
			middle := (from + to) / 2
			list := []impl.Blob{{Name: 1, Safe: array[:from], Fresh: array[from:middle]}, {Name: 2, Safe: array[middle:to], Fresh: array[from:from]}, {Name: 3, Safe: array[from:to], Fresh: array[to:]}}
			same := clonedDisk(list)
			for n := range 3 {
				checkBooks(t, list, impl.Book{Epoch: 34, Log: log[n : n+to%10]}, log[n])
				checkBooks(t, list[:n], impl.Book{Epoch: 34, Log: log[:n]}, log[n])
			}
			if !sameDisk(list, same) {
				t.Fatalf("%s has become %s", shown(same), shown(list))
			}
			steps, _ := impl.BookSteps(list, impl.Book{Epoch: 3, Log: log[:2]})
			partsAreApart(t, steps...)
			if added, ok := impl.BookAdd(list, log[1]); ok {
				partsAreApart(t, added)
			}
		}
	}
	if !slices.Equal(array, before) || !slices.Equal(arrayLog, beforeLog) {
		t.Errorf("the arrays have changed: %v, %s", array, lineOf(arrayLog))
	}
}

// A nil slice and an empty one are the same, for logs, bytes, files and disks.
func TestBooksOfNilAndEmptySlices(t *testing.T) {
	for _, log := range [][]impl.Command{nil, {}, make([]impl.Command, 0, 20)} {
		b := impl.Book{Epoch: 5, Log: log}
		if bytes, ok := impl.BookBytes(b); !ok || !slices.Equal(bytes, []int{1, 5, 222}) {
			t.Errorf("BookBytes of no commands is %v, %v", bytes, ok)
		}
		for _, list := range [][]impl.Blob{nil, {}, make([]impl.Blob, 0, 5), {{Name: 2}}, {{Name: 2, Safe: []int{}, Fresh: make([]int, 0, 9)}}} {
			checkBookSteps(t, list, b)
		}
	}
	for _, list := range [][]int{nil, {}, make([]int, 0, 20)} {
		got, ok := impl.BookLoad(list)
		hasBook(t, got, ok, impl.Book{}, false, "BookLoad of no bytes")
		for _, disk := range [][]impl.Blob{nil, {}, make([]impl.Blob, 0, 3), {{Name: 1, Safe: list}}, {{Name: 1, Fresh: list}}, {{Name: 1, Safe: list, Fresh: list}}} {
			got, ok := impl.BookOpen(disk)
			hasBook(t, got, ok, impl.Book{}, false, "BookOpen of no bytes")
			if added, ok := impl.BookAdd(disk, fewCommands[0]); ok || len(added) > 0 {
				t.Errorf("BookAdd of no bytes is %s, %v", shown(added), ok)
			}
		}
		for _, disk := range [][]impl.Blob{{{Name: 1, Safe: []int{1, 5, 222}, Fresh: list}}, {{Name: 1, Safe: list, Fresh: []int{1, 5, 222}}}} {
			checkBooks(t, disk, impl.Book{}, fewCommands[0])
			got, ok := impl.BookOpen(disk)
			hasBook(t, got, ok, impl.Book{Epoch: 5}, true, "BookOpen of an epoch")
		}
	}
}
