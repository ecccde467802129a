package tests

import (
	"math/rand"
	"slices"
	"testing"

	"loop.example/filereconciler/impl"
)

// Promise 126.
func TestBookLoadOfBookBytesIsTheBook(t *testing.T) {
	for _, b := range manyBooks() {
		checkBookBytes(t, b)
		bytes, ok := impl.BookBytes(b)
		got, fine := impl.BookLoad(bytes)
		hasBook(t, got, ok && fine, b, true, "BookLoad of BookBytes", bytes)
	}
}

// Books whose epoch or log is invalid have no bytes, and make no steps, on whatever disk.
func TestInvalidBooks(t *testing.T) {
	disks := fewBookDisks()
	for i, b := range notBooks() {
		if isBook(b) {
			t.Fatalf("%s is a book", shown(bookLine(b)))
		}
		if got, ok := impl.BookBytes(b); ok || len(got) > 0 {
			t.Errorf("BookBytes of %s is %s, %v", shown(bookLine(b)), shown(got), ok)
		}
		for _, list := range [][]impl.Blob{nil, disks[i%len(disks)]} {
			if got, ok := impl.BookSteps(list, b); ok || len(got) > 0 {
				t.Errorf("BookSteps of %s and %s is %s, %v", shown(list), shown(bookLine(b)), shown(got), ok)
			}
		}
	}
}

// Each number around the epochs, with logs of all lengths around LogMax.
func TestBookBytesOfAllEpochsAndLengths(t *testing.T) {
	for epoch := -300; epoch <= 600; epoch++ {
		checkBookBytes(t, impl.Book{Epoch: epoch})
		checkBookBytes(t, impl.Book{Epoch: epoch, Log: fewCommands[:1]})
		if _, ok := impl.BookBytes(impl.Book{Epoch: epoch}); ok != (epoch >= 0 && epoch <= 99) {
			t.Errorf("BookBytes of the epoch %d is %v", epoch, ok)
		}
	}
	for n := range 45 {
		for _, epoch := range []int{-1, 0, 50, 99, 100} {
			for _, log := range [][]impl.Command{valueLog(n), longestLog(n)} {
				want := epoch >= 0 && epoch <= 99 && n <= 20
				bytes, ok := impl.BookBytes(impl.Book{Epoch: epoch, Log: log})
				if ok != want || (len(bytes) > 0) != want {
					t.Errorf("BookBytes of the epoch %d and %d commands is %s, %v", epoch, n, shown(bytes), ok)
				}
			}
		}
	}
}

// An invalid command at each place of a log.
func TestBooksWithOneInvalidCommand(t *testing.T) {
	for i, bad := range notCommands() {
		log := grownJournal(rand.New(rand.NewSource(int64(i))), 1+i%impl.LogMax)
		for at, good := range log {
			log[at] = bad
			b := impl.Book{Epoch: i % 100, Log: log}
			if got, ok := impl.BookBytes(b); ok || len(got) > 0 {
				t.Errorf("BookBytes of %s is %s, %v", shown(bookLine(b)), shown(got), ok)
			}
			if got, ok := impl.BookSteps(nil, b); ok || len(got) > 0 {
				t.Errorf("BookSteps of %s is %s, %v", shown(bookLine(b)), shown(got), ok)
			}
			log[at] = good
		}
	}
}

// Promise 127: each beginning of the bytes of a book, with other numbers behind it, too.
func TestBookLoadOfTheFirstBytes(t *testing.T) {
	for _, b := range append(fewBooks(), impl.Book{Epoch: 34, Log: fewCommands}, impl.Book{Epoch: 0, Log: longestLog(20)}) {
		bytes, _ := impl.BookBytes(b)
		count, whole := 0, 3
		for k := range len(bytes) + 1 {
			if count < len(b.Log) && whole+len(b.Log[count].Path)+6 == k {
				count, whole = count+1, k
			}
			want := impl.Book{Epoch: b.Epoch, Log: b.Log[:count]}
			if k < 3 {
				want = impl.Book{}
			}
			got, ok := impl.BookLoad(bytes[:k])
			hasBook(t, got, ok, want, k >= 3, "BookLoad of the first bytes", k, bytes)
			if k < len(bytes) {
				other := append(slices.Clone(bytes[:k]), bytes[k]+251, bytes[k])
				got, ok = impl.BookLoad(other)
				hasBook(t, got, ok, want, k >= 3, "BookLoad of the first bytes and others", k, other)
			}
		}
		if count != len(b.Log) {
			t.Errorf("%d frames of %d commands", count, len(b.Log))
		}
	}
}

// Each body that is no epoch, in a good frame, ahead of commands.
func TestBookLoadOfBodiesThatAreNoEpochs(t *testing.T) {
	commands, _ := impl.LogBytes(fewCommands)
	found := 0
	for _, body := range append(manyBodies(), bodiesOf(fewCommands)...) {
		frame := impl.FrameOf(body)
		isEpoch := len(body) == 1 && body[0] <= 99
		for _, behind := range [][]int{nil, commands, frame, plainFrame([]int{5}), {0}} {
			got, ok := impl.BookLoad(slices.Concat(frame, behind))
			if ok != isEpoch || ok && got.Epoch != body[0] || !ok && !sameBook(got, impl.Book{}) {
				t.Errorf("BookLoad of the frame of %v and %v is %s, %v", body, behind, bookLine(got), ok)
			}
			if ok {
				found++
			}
		}
	}
	if found < 5*100 {
		t.Errorf("only %d frames of epochs are found", found)
	}
}

// All three numbers of the first frame, near what they can be.
func TestBookLoadOfAllFirstFrames(t *testing.T) {
	for _, length := range []int{-1, 0, 1, 2, 16, 17, 257} {
		for epoch := -3; epoch <= 262; epoch++ {
			for sum := -3; sum <= 262; sum++ {
				want := length == 1 && epoch >= 0 && epoch <= 99 && sum == (217+epoch)%251
				got, ok := impl.BookLoad([]int{length, epoch, sum})
				if ok != want || len(got.Log) > 0 || ok && got.Epoch != epoch || !ok && got.Epoch != 0 {
					t.Fatalf("BookLoad of %d, %d, %d is %s, %v", length, epoch, sum, bookLine(got), ok)
				}
			}
		}
	}
	for _, far := range append(slices.Clone(farEpochs), nearBytes...) {
		for at := range 3 {
			bytes := slices.Concat(plainFrame([]int{5}), frameOf("/a - f4"))
			bytes[at] = far
			checkBookLoad(t, bytes)
			checkBookLoad(t, slices.Insert(bytes, at, far))
		}
		checkBookLoad(t, plainFrame([]int{far}))
		checkBookLoad(t, slices.Concat(plainFrame([]int{far}), frameOf("/a - f4")))
	}
}

func TestBookLoadOfManyBytes(t *testing.T) {
	torn, failed := 0, 0
	for _, bytes := range bookFiles() {
		checkBookLoad(t, bytes)
		b, ok := impl.BookLoad(bytes)
		if !ok {
			failed++
			continue
		}
		// Promise 133.
		if !isBook(b) {
			t.Errorf("BookLoad of %s is %s", shown(bytes), shown(bookLine(b)))
		}
		own, fine := impl.BookBytes(b)
		if !fine || len(own) > len(bytes) || !slices.Equal(own, bytes[:len(own)]) {
			t.Errorf("BookLoad of %s is %s, whose bytes are %s, %v", shown(bytes), shown(bookLine(b)), shown(own), fine)
		}
		if len(own) < len(bytes) {
			torn++
		}
	}
	if torn < 500 || failed < 200 {
		t.Errorf("%d books are torn, and %d are none", torn, failed)
	}
}

// Each number of the bytes of a book is changed, left out, or there twice.
func TestBookLoadWithOneNumberChanged(t *testing.T) {
	bytes, _ := impl.BookBytes(impl.Book{Epoch: 33, Log: fewCommands})
	for at, b := range bytes {
		for _, other := range slices.Concat([]int{b + 1, b - 1, b + 256, b - 256, b + 251, b - 251, -1, 0, 255, 256}, farNumbers) {
			list := slices.Clone(bytes)
			list[at] = other
			checkBookLoad(t, list)
		}
		checkBookLoad(t, slices.Delete(slices.Clone(bytes), at, at+1))
		checkBookLoad(t, slices.Insert(slices.Clone(bytes), at, b))
		checkBookLoad(t, bytes[at:])
		checkBookLoad(t, slices.Concat(bytes[:at], bytes))
	}
}

// All short lists of a few numbers, alone and behind an epoch.
func TestBookLoadOfShortLists(t *testing.T) {
	for _, list := range listsOf([]int{-1, 0, 1, 5, 34, 217, 222}, 4) {
		checkBookLoad(t, list)
		checkBookLoad(t, slices.Concat([]int{1, 99, 65}, list))
	}
}

func TestBookLoadOfVeryManyNumbers(t *testing.T) {
	for _, r := range []struct {
		what  string
		list  []int
		alone bool
		count int
	}{
		{"0 all along", repeated(100000, 0), false, 0},
		{"1 all along", repeated(100000, 1), false, 0},
		{"an epoch all along", slices.Repeat([]int{1, 5, 222}, 50000), true, 0},
		{"a command all along", slices.Repeat(frameOf("/a - f4"), 20000), false, 20},
		{"a byte that is no epoch all along", slices.Repeat(plainFrame([]int{100}), 50000), false, 0},
	} {
		want := impl.Book{Epoch: 5, Log: slices.Repeat(logFrom("/a - f4"), r.count)}
		got, ok := impl.BookLoad(slices.Concat([]int{1, 5, 222}, r.list))
		hasBook(t, got, ok, want, true, r.what, "behind an epoch")
		if !r.alone {
			want = impl.Book{}
		}
		got, ok = impl.BookLoad(r.list)
		hasBook(t, got, ok, want, r.alone, r.what)
	}
}

func TestBookDisksAreOfAllKinds(t *testing.T) {
	opened, torn, none, invalid := 0, 0, 0, 0
	for _, list := range bookDisks() {
		b, ok := bookOpenOf(list)
		own, _ := bookBytesOf(b)
		bytes, _ := driveOf(list).read(1)
		switch {
		case !isDisk(list):
			invalid++
		case !ok:
			none++
		case len(own) < len(bytes):
			torn++
		default:
			opened++
		}
	}
	if opened < 300 || torn < 300 || none < 100 || invalid < 20 {
		t.Errorf("of the disks, %d have a book, %d one with bytes behind it, and %d none; %d are no disks", opened, torn, none, invalid)
	}
}

func TestBookOpenOfManyDisks(t *testing.T) {
	for _, list := range slices.Concat(bookDisks(), fewDisks()) {
		checkBookOpen(t, list)
		got, ok := impl.BookOpen(list)
		if !ok {
			continue
		}
		// Promise 131.
		bytes, _ := impl.DiskRead(list, 1)
		own, fine := impl.BookBytes(got)
		if !fine || len(own) > len(bytes) || !slices.Equal(own, bytes[:len(own)]) {
			t.Errorf("BookOpen of %s is %s, whose bytes are %s", shown(list), shown(bookLine(got)), shown(own))
		}
		load, fine := impl.BookLoad(bytes)
		hasBook(t, load, fine, got, true, "BookLoad of the file of", list)
		// Promise 132: without all other files, and with others.
		alone, fine := impl.BookOpen(list[:1])
		hasBook(t, alone, fine, got, true, "without all other files, BookOpen of", list)
		for _, line := range besideBooks {
			beside, fine := impl.BookOpen(append(slices.Clone(list[:1]), diskFrom(line)...))
			hasBook(t, beside, fine, got, true, "with other files, BookOpen of", list, line)
		}
	}
}

// On what is no disk, no call does anything.
func TestBooksOfInvalidDisks(t *testing.T) {
	disks := notDisks()
	for _, line := range []string{"1:1,5,222| 1:1,5,222|", "0:| 1:1,5,222|", "2:| 1:1,5,222|", "1:1,5,222| 4:|", "1:1,5,222| 3:| 2:|", "1:1,5,222| 2:256|", "1:1,5,222| 3:|-1", "1:1,5,222| 2:401x1|", "1:1,5,222|398x1", "1:1,5,222|256"} {
		disks = append(disks, diskFrom(line))
	}
	for i, list := range disks {
		if got, ok := impl.BookOpen(list); ok || !sameBook(got, impl.Book{}) {
			t.Errorf("BookOpen of %s is %s, %v", shown(list), shown(bookLine(got)), ok)
		}
		for _, c := range fewCommands[:2] {
			if got, ok := impl.BookAdd(list, c); ok || len(got) > 0 {
				t.Errorf("BookAdd of %s is %s, %v", shown(list), shown(got), ok)
			}
		}
		for _, b := range []impl.Book{{}, {Epoch: i % 100, Log: fewCommands}, {Epoch: -1}} {
			if got, ok := impl.BookSteps(list, b); ok || len(got) > 0 {
				t.Errorf("BookSteps of %s is %s, %v", shown(list), shown(got), ok)
			}
		}
	}
}

func TestBookStepsOfManyDisks(t *testing.T) {
	books := fewBooks()
	for i, list := range slices.Concat(bookDisks(), manyDisks()) {
		for k := range 3 {
			checkBookSteps(t, list, books[(3*i+k)%len(books)])
		}
	}
	for _, b := range manyBooks() {
		for _, line := range []string{"", "1:1,5,222|" + goodFrame, "1:|7 2:8|9 3:5|6", "1:400x1| 2:1|399x2 3:|400x3"} {
			checkBookSteps(t, diskFrom(line), b)
		}
	}
}

// A book with as many bytes as there may be: a longer one has a command too many. No file has too many bytes by it.
func TestBookStepsOfTheLongestBooks(t *testing.T) {
	for n := range 22 {
		b := impl.Book{Epoch: 99, Log: longestLog(n)}
		for _, line := range append(slices.Clone(besideBooks), "1:400x1|", "1:400x1| 2:400x2| 3:400x3|", "1:|400x1 2:|400x2 3:|400x3") {
			list := diskFrom(line)
			checkBookSteps(t, list, b)
			steps, ok := impl.BookSteps(list, b)
			if ok != (n <= 20) {
				t.Errorf("BookSteps of %s and %d commands is %v", shown(list), n, ok)
			}
			if !ok {
				continue
			}
			if bytes, _ := impl.DiskRead(steps[2], 1); len(bytes) != 3+14*n {
				t.Errorf("%d commands have %d bytes", n, len(bytes))
			}
		}
	}
}

// someCrashes are numbers of bytes to keep: nothing, a part, and everything.
var someCrashes = [][]int{nil, {}, {0}, {1}, {2}, {3}, {4}, {12}, {400}, {0, 1}, {0, 400}, {5, 3}, {400, 2}, {400, 400}, {0, 0, 400}, {400, 0, 1}, {400, 400, 400}}

// Promises 128 and 129: behind a crash there is the old book until the last step, and the new one from then on.
func TestBookStepsOutliveCrashes(t *testing.T) {
	books, tried, others := fewBooks(), 0, 0
	for i, list := range slices.Concat(bookDisks(), fewDisks()) {
		b := books[i%len(books)]
		steps, ok := impl.BookSteps(list, b)
		if !ok {
			continue
		}
		if len(steps) != 3 {
			t.Fatalf("BookSteps of %s and %s are %d disks", shown(list), shown(bookLine(b)), len(steps))
		}
		got, ok := impl.BookOpen(steps[2])
		hasBook(t, got, ok, b, true, "BookOpen of the last one of", list)
		for _, keep := range someCrashes {
			last, _ := impl.DiskCrash(steps[2], keep)
			got, ok := impl.BookOpen(last)
			hasBook(t, got, ok, b, true, "behind a crash, BookOpen of the last one of", list, keep)
			crash, _ := impl.DiskCrash(list, keep)
			want, fine := impl.BookOpen(crash)
			for k := range 2 {
				crash, _ = impl.DiskCrash(steps[k], keep)
				got, ok := impl.BookOpen(crash)
				hasBook(t, got, ok, want, fine, "behind a crash, BookOpen of one of", list, k, keep)
			}
			if fine && !sameBook(want, b) {
				others++
			}
			tried++
		}
	}
	if others < 1000 || tried < 5000 {
		t.Errorf("another book is there behind %d of %d crashes", others, tried)
	}
}

// The disks are those of the calls of chapter 31, one behind the other.
func TestBookStepsAreThoseOfDisks(t *testing.T) {
	books := fewBooks()
	for i, list := range bookDisks() {
		if !impl.DiskValid(list) {
			continue
		}
		b := books[i%len(books)]
		bytes, _ := impl.BookBytes(b)
		without := slices.DeleteFunc(slices.Clone(list), func(f impl.Blob) bool { return f.Name == impl.TempFile })
		written, _ := impl.DiskWrite(without, impl.TempFile, bytes)
		synced, _ := impl.DiskSync(written, impl.TempFile)
		renamed, _ := impl.DiskRename(synced, impl.TempFile, impl.BookFile)
		got, ok := impl.BookSteps(list, b)
		if want := [][]impl.Blob{written, synced, renamed}; !ok || !sameDisks(got, want) {
			t.Errorf("BookSteps of %s and %s is %s, %v, not %s", shown(list), shown(bookLine(b)), shown(got), ok, shown(want))
		}
	}
}

func TestBookAddOfManyDisks(t *testing.T) {
	invalid := notCommands()
	for i, list := range slices.Concat(bookDisks(), fewDisks()) {
		for k := range 3 {
			checkBookAdd(t, list, fewCommands[(3*i+k)%len(fewCommands)])
		}
		checkBookAdd(t, list, invalid[i%len(invalid)])
	}
	for _, c := range append(manyCommands(), invalid...) {
		for _, line := range []string{"1:1,0,217|", "1:1,99,65|" + goodFrame + " 2:|7 3:5|6"} {
			checkBookAdd(t, diskFrom(line), c)
		}
	}
}

// An invalid command is added to no book, whatever its log and its disk are.
func TestBookAddOfInvalidCommands(t *testing.T) {
	disks := fewBookDisks()
	for i, bad := range notCommands() {
		for _, list := range [][]impl.Blob{diskFrom("1:1,5,222|"), diskFrom("1:1,5,222|" + goodFrame), diskFrom("1:1,0,217| 2:| 3:5|"), disks[i%len(disks)]} {
			if got, ok := impl.BookAdd(list, bad); ok || len(got) > 0 {
				t.Errorf("BookAdd of %s and %s is %s, %v", shown(list), shown(wordsOf(bad)), shown(got), ok)
			}
		}
	}
}

// Promise 130: commands are added to a book one by one, until there are LogMax of them.
func TestBookAddUntilThereAreLogMax(t *testing.T) {
	r := rand.New(rand.NewSource(42))
	for i, line := range append(slices.Clone(besideBooks), "1:5|6 2:7|", "1:|1,7,224") {
		steps, _ := impl.BookSteps(diskFrom(line), impl.Book{Epoch: 11 * i % 100})
		list, others := steps[2], steps[2][1:]
		log := grownJournal(r, impl.LogMax)
		if i%2 == 0 {
			log = longestLog(impl.LogMax)
		}
		for k, c := range log {
			next, ok := impl.BookAdd(list, c)
			want := impl.Book{Epoch: 11 * i % 100, Log: log[:k+1]}
			for _, keep := range append([][]int{{-1}}, someCrashes...) {
				crash, found := impl.DiskCrash(next, keep)
				if !found {
					crash = next
				}
				got, fine := impl.BookOpen(crash)
				hasBook(t, got, ok && fine, want, true, "behind BookAdd and a crash, BookOpen of", list, wordsOf(c), keep)
			}
			if len(next) == 0 || !sameDisk(next[1:], others) || len(next[0].Fresh) > 0 {
				t.Fatalf("BookAdd of %s is %s", shown(list), shown(next))
			}
			list = next
		}
		for _, c := range fewCommands {
			if got, ok := impl.BookAdd(list, c); ok || len(got) > 0 {
				t.Errorf("BookAdd with LogMax commands of %s is %s, %v", shown(list), shown(got), ok)
			}
		}
	}
}

// If a command can be added, it is behind all others, also if the bytes ahead of it were fresh, and a crash keeps nothing.
func TestAddedCommandsOutliveCrashes(t *testing.T) {
	added := 0
	for i, list := range bookDisks() {
		c := fewCommands[i%len(fewCommands)]
		got, ok := impl.BookAdd(list, c)
		if !ok {
			continue
		}
		added++
		b, _ := impl.BookOpen(list)
		want := impl.Book{Epoch: b.Epoch, Log: append(slices.Clone(b.Log), c)}
		for _, keep := range someCrashes {
			crash, _ := impl.DiskCrash(got, keep)
			after, fine := impl.BookOpen(crash)
			hasBook(t, after, fine, want, true, "behind BookAdd and a crash, BookOpen of", list, wordsOf(c), keep)
		}
		bytes, _ := impl.BookBytes(want)
		if file, _ := impl.DiskRead(got, 1); !slices.Equal(file, bytes) || !sameDisk(got[1:], list[1:]) {
			t.Errorf("BookAdd of %s and %q is %s", shown(list), wordsOf(c), shown(got))
		}
	}
	if added < 300 {
		t.Errorf("only %d commands are added", added)
	}
}

// To a book that is torn at any place, a command is added only where a frame has ended.
func TestBookAddToTornBooks(t *testing.T) {
	for _, log := range [][]impl.Command{nil, fewCommands, longestLog(20), valueLog(19)} {
		bytes, _ := impl.BookBytes(impl.Book{Epoch: 34, Log: log})
		ends := map[int]bool{3: true}
		for k := range log {
			first, _ := impl.BookBytes(impl.Book{Epoch: 34, Log: log[:k+1]})
			ends[len(first)] = k+1 < impl.LogMax
		}
		for k := range len(bytes) + 1 {
			for _, safe := range []int{0, k / 2, k} {
				list := withBook(bytes[:k], safe, "3:5|6")
				checkBookAdd(t, list, fewCommands[0])
				checkBookOpen(t, list)
				if _, ok := impl.BookAdd(list, fewCommands[0]); ok != ends[k] {
					t.Errorf("BookAdd behind the first %d bytes of %s is %v", k, shown(bytes), ok)
				}
			}
		}
	}
}

// All that can stand behind a book, in the file as it is: no command is added, and the book is the same.
func TestBookAddToBooksWithBytesBehind(t *testing.T) {
	for i, tail := range bookTails() {
		for _, n := range []int{0, 1, 19, 20} {
			b := impl.Book{Epoch: i % 100, Log: valueLog(n)}
			own, _ := impl.BookBytes(b)
			if rest, used := logLoadOf(tail); len(tail) == 0 || used > 0 || len(rest) > 0 {
				continue
			}
			list := withBook(slices.Concat(own, tail), len(own), besideBooks[i%len(besideBooks)])
			if got, ok := impl.BookAdd(list, fewCommands[0]); ok || len(got) > 0 {
				t.Errorf("BookAdd of %s is %s, %v", shown(list), shown(got), ok)
			}
			got, ok := impl.BookOpen(list)
			if !isDisk(list) {
				b = impl.Book{}
			}
			hasBook(t, got, ok, b, isDisk(list), "BookOpen of", list)
		}
	}
}
