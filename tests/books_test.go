package tests

import (
	"fmt"
	"slices"
	"strings"
	"testing"

	"loop.example/filereconciler/impl"
)

func TestBookConstants(t *testing.T) {
	if impl.EpochMax != 99 || impl.BookFile != 1 || impl.TempFile != 2 {
		t.Errorf("EpochMax is %d, BookFile is %d, and TempFile is %d", impl.EpochMax, impl.BookFile, impl.TempFile)
	}
}

// bookBytesRows are books and their bytes.
var bookBytesRows = []struct{ what, book, bytes string }{
	{"the first epoch", "0:", "1,0,217"},
	{"the second epoch", "1:", "1,1,218"},
	{"another epoch", "5:", "1,5,222"},
	{"an epoch with the largest sum", "33:", "1,33,250"},
	{"an epoch with the sum 0", "34:", "1,34,0"},
	{"the last epoch but one", "98:", "1,98,64"},
	{"the last epoch", "99:", "1,99,65"},
	{"one command", "3: /a - f4", "1,3,220," + goodFrame},
	{"one command and the first epoch", "0: /a - f4", "1,0,217," + goodFrame},
	{"one command and the last epoch", "99: /a - f4", "1,99,65," + goodFrame},
	{"the longest command", "3: /d/d/d/d f99 f0", "1,3,220," + longFrame},
	{"two commands", "3: /a - f4, /b d -", "1,3,220," + goodFrame + ",6,1,0,0,0,47,98,58"},
	{"in the other order", "3: /b d -, /a - f4", "1,3,220,6,1,0,0,0,47,98,58," + goodFrame},
	{"a command twice", "3: /a - f4, /a - f4", "1,3,220," + goodFrame + "," + goodFrame},
	{"commands of other lengths", "7: /a - d, /c/a d f99, /d/d/d/d f99 f0", "1,7,224,6,0,0,1,0,47,97,139,8,1,0,2,99,47,99,47,97,24," + longFrame},
}

func TestBookBytesTable(t *testing.T) {
	for _, r := range bookBytesRows {
		b, bytes := bookFrom(r.book), bytesFrom(r.bytes)
		if got, ok := impl.BookBytes(b); !ok || !slices.Equal(got, bytes) {
			t.Errorf("%s: BookBytes of %q is %v, %v, not %v", r.what, r.book, got, ok, bytes)
		}
		got, ok := impl.BookLoad(bytes)
		hasBook(t, got, ok, b, true, r.what, "BookLoad of", bytes)
		got, ok = bookLoadOf(bytes)
		hasBook(t, got, ok, b, true, r.what, "by another way, BookLoad of", bytes)
		checkBookBytes(t, b)
	}
}

func TestBookBytesOfInvalidBooksTable(t *testing.T) {
	wrong := impl.Command{Path: "/", To: fileOf(4)}
	good := commandFrom("/a - f4")
	for _, r := range []struct {
		what string
		b    impl.Book
	}{
		{"an epoch below 0", impl.Book{Epoch: -1}},
		{"an epoch that is too large", impl.Book{Epoch: 100}},
		{"an epoch that is too large for a byte", impl.Book{Epoch: 256}},
		{"256 and an epoch", impl.Book{Epoch: 261}},
		{"256 less than an epoch", impl.Book{Epoch: -251}},
		{"an epoch below 0 and a command", impl.Book{Epoch: -1, Log: []impl.Command{good}}},
		{"an epoch that is too large and a command", impl.Book{Epoch: 100, Log: []impl.Command{good}}},
		{"an invalid command", impl.Book{Epoch: 3, Log: []impl.Command{wrong}}},
		{"the zero value of a command", impl.Book{Log: make([]impl.Command, 1)}},
		{"an invalid command first", impl.Book{Epoch: 3, Log: []impl.Command{wrong, good, good}}},
		{"an invalid command between others", impl.Book{Epoch: 3, Log: []impl.Command{good, wrong, good}}},
		{"an invalid command last", impl.Book{Epoch: 3, Log: []impl.Command{good, good, wrong}}},
		{"an invalid command as the last one of LogMax", impl.Book{Epoch: 3, Log: append(valueLog(19), wrong)}},
		{"a command that changes nothing", impl.Book{Epoch: 3, Log: []impl.Command{{Path: "/a", From: fileOf(4), To: fileOf(4)}}}},
		{"a command more than LogMax", impl.Book{Epoch: 3, Log: valueLog(21)}},
		{"twice LogMax commands", impl.Book{Epoch: 99, Log: valueLog(40)}},
		{"a command more than LogMax, each as long as can be", impl.Book{Log: longestLog(21)}},
		{"an epoch below 0 and too many commands", impl.Book{Epoch: -1, Log: valueLog(21)}},
		{"an epoch that is too large and an invalid command", impl.Book{Epoch: 100, Log: []impl.Command{wrong}}},
	} {
		if got, ok := impl.BookBytes(r.b); ok || len(got) > 0 {
			t.Errorf("%s: BookBytes is %v, %v", r.what, got, ok)
		}
		for _, line := range []string{"", "1:1,5,222|", "2:|7 3:|"} {
			if got, ok := impl.BookSteps(diskFrom(line), r.b); ok || len(got) > 0 {
				t.Errorf("%s: BookSteps of %q is %s, %v", r.what, line, shown(got), ok)
			}
		}
	}
}

func TestBookLoadTable(t *testing.T) {
	const head, none = "1,5,222", "5:"
	const one, two = "5: /a - f4", "5: /a - f4, /d/d/d/d f99 f0"
	for _, r := range []struct{ what, bytes, book string }{
		{"an epoch alone", head, none},
		{"a command", head + "," + goodFrame, one},
		{"two commands", head + "," + goodFrame + "," + longFrame, two},

		{"an epoch and a length", head + ",6", none},
		{"an epoch and half a frame", head + ",6,0,0,2,4", none},
		{"an epoch and a frame without its sum", head + ",6,0,0,2,4,47,97", none},
		{"a command and a length", head + "," + goodFrame + ",12", one},
		{"a command and half a frame", head + "," + goodFrame + ",12,2,99,2,0,47,100", one},
		{"a command and a frame without its sum", head + "," + goodFrame + ",6,0,0,2,4,47,97", one},
		{"half a frame, and a command", head + ",6,0,0,2," + goodFrame, none},
		{"a command without its length", head + ",0,0,2,4,47,97,140", none},
		{"a body without a frame", head + ",0,0,2,4,47,97", none},

		{"a wrong sum", head + ",6,0,0,2,4,47,97,141", none},
		{"a wrong sum ahead of a command", head + ",6,0,0,2,4,47,97,141," + goodFrame, none},
		{"a wrong sum behind a command", head + "," + goodFrame + ",6,0,0,2,4,47,97,141", one},
		{"a wrong sum between two commands", head + "," + goodFrame + ",6,0,0,2,4,47,97,141," + longFrame, one},
		{"a sum and SumBase", head + ",6,0,0,2,4,47,97,391", none},
		{"another byte in a frame", head + ",6,0,0,2,5,47,97,140", none},

		{"0 behind the epoch", head + ",0", none},
		{"0 ahead of a command", head + ",0," + goodFrame, none},
		{"many 0 behind a command", head + "," + goodFrame + ",300x0", one},
		{"256 behind the epoch", head + ",256", none},
		{"256 ahead of a command", head + ",256," + goodFrame, none},
		{"-1 behind the epoch", head + ",-1", none},
		{"-1 behind a command", head + "," + goodFrame + ",-1", one},
		{"no byte in a frame", head + ",6,0,0,2,4,47,353,145", none},

		{"another epoch behind the epoch", head + ",1,6,223", none},
		{"the same epoch twice", head + "," + head, none},
		{"another epoch ahead of a command", head + ",1,6,223," + goodFrame, none},
		{"another epoch behind a command", head + "," + goodFrame + ",1,6,223", one},
		{"another book behind a book", head + "," + goodFrame + "," + head + "," + goodFrame, one},
		{"a good frame of no command behind the epoch", head + ",5,0,0,2,4,47,220", none},
		{"a good frame of no command ahead of a command", head + ",4,0,0,2,4,208," + goodFrame, none},
		{"a good frame of no command between two commands", head + "," + goodFrame + ",6,0,0,2,100,47,97,28," + longFrame, one},
		{"a good frame of no command behind two commands", head + "," + goodFrame + "," + longFrame + ",6,0,0,0,0,47,97,217", two},

		{"the first epoch and a command", "1,0,217," + goodFrame, "0: /a - f4"},
		{"the last epoch and a command", "1,99,65," + goodFrame, "99: /a - f4"},
		{"the epoch with the sum 0 and a command", "1,34,0," + goodFrame, "34: /a - f4"},
	} {
		bytes := bytesFrom(r.bytes)
		got, ok := impl.BookLoad(bytes)
		hasBook(t, got, ok, bookFrom(r.book), true, r.what, "BookLoad of", bytes)
		checkBookLoad(t, bytes)
	}
}

// Here, the commands are LogMax, or near.
func TestBookLoadLogMaxTable(t *testing.T) {
	for _, r := range []struct {
		what         string
		ahead, count int
		tail         string
	}{
		{"one less than LogMax", 19, 19, ""},
		{"LogMax", 20, 20, ""},
		{"one more", 21, 20, ""},
		{"very many", 20000, 20, ""},
		{"LogMax and half a frame", 20, 20, "6,0,0"},
		{"LogMax and a wrong sum", 20, 20, "6,0,0,2,4,47,97,141"},
		{"LogMax and no command", 20, 20, "1,5,222"},
		{"one less and half a frame", 19, 19, "6,0,0"},
		{"one less and no command", 19, 19, "1,5,222," + goodFrame},
		{"one less and the last one", 19, 20, goodFrame + ",6,0"},
	} {
		bytes := bytesFrom("1,5,222," + strings.Repeat(goodFrame+",", r.ahead) + r.tail)
		got, ok := impl.BookLoad(bytes)
		hasBook(t, got, ok, impl.Book{Epoch: 5, Log: slices.Repeat(logFrom("/a - f4"), r.count)}, true, r.what, "BookLoad of", bytes)
	}
}

// Each beginning of an epoch's frame, and what is no frame of an epoch.
func TestBookLoadWithoutAnEpochTable(t *testing.T) {
	rows := append(slices.Clone(notEpochRows), []struct{ what, bytes string }{{"no bytes", ""}, {"a length alone", "1"}, {"an epoch without its sum", "1,5"}}...)
	for k, r := range rows {
		lists := [][]int{bytesFrom(r.bytes)}
		if k < len(notEpochRows) {
			for _, behind := range []string{goodFrame, "1,5,222", "1,5,222," + goodFrame, "222", "0", "400x0"} {
				lists = append(lists, bytesFrom(r.bytes+","+behind))
			}
		}
		for _, bytes := range lists {
			got, ok := impl.BookLoad(bytes)
			hasBook(t, got, ok, impl.Book{}, false, r.what, "BookLoad of", bytes)
			got, ok = bookLoadOf(bytes)
			hasBook(t, got, ok, impl.Book{}, false, r.what, "by another way, BookLoad of", bytes)
		}
	}
}

func TestBookStepsTable(t *testing.T) {
	const four = "1,3,220," + goodFrame
	for _, r := range []struct{ what, line, book, first, second, third string }{
		{"no files", "", "3:", "2:|1,3,220", "2:1,3,220|", "1:1,3,220|"},
		{"no files, and a command", "", "3: /a - f4", "2:|" + four, "2:" + four + "|", "1:" + four + "|"},
		{"a book that is safe", "1:1,2,219|", "3:", "1:1,2,219| 2:|1,3,220", "1:1,2,219| 2:1,3,220|", "1:1,3,220|"},
		{"a book that is fresh", "1:|1,2,219", "3:", "1:|1,2,219 2:|1,3,220", "1:|1,2,219 2:1,3,220|", "1:1,3,220|"},
		{"a book that is both", "1:1,2|219", "3:", "1:1,2|219 2:|1,3,220", "1:1,2|219 2:1,3,220|", "1:1,3,220|"},
		{"a longer book", "1:" + four + "|6,7", "4:", "1:" + four + "|6,7 2:|1,4,221", "1:" + four + "|6,7 2:1,4,221|", "1:1,4,221|"},
		{"the same book", "1:1,3,220|", "3:", "1:1,3,220| 2:|1,3,220", "1:1,3,220| 2:1,3,220|", "1:1,3,220|"},
		{"a file that is no book", "1:5|6", "3:", "1:5|6 2:|1,3,220", "1:5|6 2:1,3,220|", "1:1,3,220|"},
		{"a file without bytes", "1:|", "3:", "1:| 2:|1,3,220", "1:| 2:1,3,220|", "1:1,3,220|"},

		{"another file that is safe", "2:1,2,219|", "3:", "2:|1,3,220", "2:1,3,220|", "1:1,3,220|"},
		{"another file that is fresh", "2:|1,2,219", "3:", "2:|1,3,220", "2:1,3,220|", "1:1,3,220|"},
		{"another file without bytes", "2:|", "3:", "2:|1,3,220", "2:1,3,220|", "1:1,3,220|"},
		{"the beginning of the book in the other file", "2:1,3|", "3:", "2:|1,3,220", "2:1,3,220|", "1:1,3,220|"},
		{"another file that is full and safe", "2:400x7|", "3:", "2:|1,3,220", "2:1,3,220|", "1:1,3,220|"},
		{"another file that is full and fresh", "2:|400x7", "3:", "2:|1,3,220", "2:1,3,220|", "1:1,3,220|"},

		{"both files", "1:1,2,219| 2:4|5", "3:", "1:1,2,219| 2:|1,3,220", "1:1,2,219| 2:1,3,220|", "1:1,3,220|"},
		{"both files, full", "1:400x5| 2:|400x6", "3:", "1:400x5| 2:|1,3,220", "1:400x5| 2:1,3,220|", "1:1,3,220|"},
		{"all files", "1:1|2 2:3|4 3:5|6", "3:", "1:1|2 2:|1,3,220 3:5|6", "1:1|2 2:1,3,220| 3:5|6", "1:1,3,220| 3:5|6"},
		{"all files, full", "1:1|399x2 2:3|399x4 3:5|399x6", "3:", "1:1|399x2 2:|1,3,220 3:5|399x6", "1:1|399x2 2:1,3,220| 3:5|399x6", "1:1,3,220| 3:5|399x6"},
		{"the third file alone", "3:5|6", "3:", "2:|1,3,220 3:5|6", "2:1,3,220| 3:5|6", "1:1,3,220| 3:5|6"},
		{"the book and the third file", "1:1|2 3:|6", "99:", "1:1|2 2:|1,99,65 3:|6", "1:1|2 2:1,99,65| 3:|6", "1:1,99,65| 3:|6"},
		{"the other file and the third one", "2:1|2 3:5|", "0:", "2:|1,0,217 3:5|", "2:1,0,217| 3:5|", "1:1,0,217| 3:5|"},

		{"a number twice", "1:| 1:|", "3:", fails, "", ""},
		{"the other file twice", "2:| 2:|", "3:", fails, "", ""},
		{"out of order", "2:| 1:|", "3:", fails, "", ""},
		{"the number 0", "0:|", "3:", fails, "", ""},
		{"the number 4", "1:1,2,219| 4:|", "3:", fails, "", ""},
		{"no byte in the book", "1:1,2,256|", "3:", fails, "", ""},
		{"no byte in the file that would be gone", "2:|-1", "3:", fails, "", ""},
		{"no byte in the third file", "3:256|", "3:", fails, "", ""},
		{"a byte too many in the book", "1:1|400x2", "3:", fails, "", ""},
		{"a byte too many in the file that would be gone", "2:401x1|", "3:", fails, "", ""},
		{"a byte too many in the third file", "1:| 3:|401x0", "3:", fails, "", ""},
	} {
		b := bookFrom(r.book)
		got, ok := impl.BookSteps(diskFrom(r.line), b)
		want := [][]impl.Blob{diskFrom(r.second), diskFrom(r.third)}
		if r.first == fails {
			want = nil
		} else {
			want = slices.Insert(want, 0, diskFrom(r.first))
		}
		if ok != (want != nil) || !sameDisks(got, want) {
			t.Errorf("%s: BookSteps of %q and %q is %v, %v, not %v", r.what, r.line, r.book, got, ok, want)
		}
		checkBookSteps(t, diskFrom(r.line), b)
	}
}

func TestBookAddTable(t *testing.T) {
	const command = "/a - f4"
	for _, r := range []struct{ what, line, command, result string }{
		{"a book without commands", "1:1,3,220|", command, "1:1,3,220," + goodFrame + "|"},
		{"a book that is fresh", "1:|1,3,220", command, "1:1,3,220," + goodFrame + "|"},
		{"a book that is both", "1:1|3,220", command, "1:1,3,220," + goodFrame + "|"},
		{"a longer command", "1:1,3,220|", "/d/d/d/d f99 f0", "1:1,3,220," + longFrame + "|"},
		{"a book with a command", "1:1,3,220," + goodFrame + "|", "/d/d/d/d f99 f0", "1:1,3,220," + goodFrame + "," + longFrame + "|"},
		{"a book with a command that is fresh", "1:1,3,220|" + goodFrame, "/d/d/d/d f99 f0", "1:1,3,220," + goodFrame + "," + longFrame + "|"},
		{"the same command", "1:1,3,220," + goodFrame + "|", command, "1:1,3,220," + goodFrame + "," + goodFrame + "|"},
		{"a command that does not fit", "1:1,3,220," + goodFrame + "|", "/a f5 d", "1:1,3,220," + goodFrame + ",6,2,5,1,0,47,97," + fmt.Sprint(plainSum(bytesFrom("2,5,1,0,47,97"))) + "|"},
		{"the first epoch", "1:1,0,217|", command, "1:1,0,217," + goodFrame + "|"},
		{"the last epoch", "1:1,99,65|", command, "1:1,99,65," + goodFrame + "|"},
		{"other files", "1:1,3,220| 2:5|6 3:7|8", command, "1:1,3,220," + goodFrame + "| 2:5|6 3:7|8"},
		{"other files that are full", "1:1,3,220| 2:400x5| 3:|400x8", command, "1:1,3,220," + goodFrame + "| 2:400x5| 3:|400x8"},
		{"LogMax - 1 commands", "1:1,3,220" + strings.Repeat(","+goodFrame, 19) + "|", command, "1:1,3,220" + strings.Repeat(","+goodFrame, 20) + "|"},
		{"LogMax - 1 commands, each as long as can be", "1:1,3,220" + strings.Repeat(","+longFrame, 19) + "|", "/d/d/d/d f99 f0", "1:1,3,220" + strings.Repeat(","+longFrame, 20) + "|"},

		{"LogMax commands", "1:1,3,220" + strings.Repeat(","+goodFrame, 20) + "|", command, fails},
		{"LogMax commands and one behind them", "1:1,3,220" + strings.Repeat(","+goodFrame, 21) + "|", command, fails},
		{"LogMax commands, each as long as can be", "1:1,3,220" + strings.Repeat(","+longFrame, 20) + "|", command, fails},
		{"as many bytes as there may be", "1:1,3,220,397x0|", command, fails},
		{"as many bytes as there may be, and commands", "1:1,3,220" + strings.Repeat(","+longFrame, 19) + ",131x0|", command, fails},
		{"one byte more", "1:1,3,220,398x0|", command, fails},

		{"no files", "", command, fails},
		{"no such file", "2:1,3,220|", command, fails},
		{"no such file, of two", "2:1,3,220| 3:1,3,220|", command, fails},
		{"no bytes", "1:|", command, fails},
		{"a torn epoch", "1:1,3|", command, fails},
		{"a torn epoch that is fresh", "1:1|3", command, fails},
		{"a wrong sum of the epoch", "1:1,3,221|", command, fails},
		{"a number that is no epoch", "1:1,100,66|", command, fails},
		{"a command instead of an epoch", "1:" + goodFrame + "|", command, fails},
		{"a torn command", "1:1,3,220,6,0,0,2,4,47,97|", command, fails},
		{"a torn command that is fresh", "1:1,3,220|6,0,0,2,4,47,97", command, fails},
		{"a length behind the book", "1:1,3,220,6|", command, fails},
		{"a byte behind the book", "1:1,3,220|0", command, fails},
		{"a byte behind a command", "1:1,3,220," + goodFrame + "|0", command, fails},
		{"a wrong sum behind a command", "1:1,3,220," + goodFrame + ",6,0,0,2,4,47,97,141|", command, fails},
		{"a good frame of no command", "1:1,3,220,1,5,222|", command, fails},
		{"a good frame of no command behind a command", "1:1,3,220," + goodFrame + ",4,0,0,2,4,208|", command, fails},

		{"the root", "1:1,3,220|", "/ - f4", fails},
		{"a path that is none", "1:1,3,220|", "/e - f4", fails},
		{"a path that is too long", "1:1,3,220|", "/a/a/a/a/a - d", fails},
		{"a value that is too large", "1:1,3,220|", "/a - f100", fails},
		{"a command that changes nothing", "1:1,3,220|", "/a f4 f4", fails},
		{"an invalid command, and no file", "", "/ - f4", fails},
		{"an invalid command, and LogMax", "1:1,3,220" + strings.Repeat(","+goodFrame, 20) + "|", "/ - f4", fails},

		{"no disk, a number twice", "1:1,3,220| 1:1,3,220|", command, fails},
		{"no disk, out of order", "2:| 1:1,3,220|", command, fails},
		{"no disk, the number 4", "1:1,3,220| 4:|", command, fails},
		{"no disk, no byte in another file", "1:1,3,220| 2:256|", command, fails},
		{"no disk, a byte too many in another file", "1:1,3,220| 3:1|400x1", command, fails},
		{"no disk, no byte behind the book", "1:1,3,220|-1", command, fails},
	} {
		list, c := diskFrom(r.line), commandLike(r.command)
		got, ok := impl.BookAdd(list, c)
		hasDisk(t, fmt.Sprintf("%s: BookAdd of %s and %q", r.what, shown(list), r.command), got, ok, r.result)
		checkBookAdd(t, list, c)
	}
}

// commandLike makes a command from a line such as "/a - f4", or one that is invalid.
func commandLike(line string) impl.Command {
	content := func(word string) impl.Content {
		var value int
		if n, _ := fmt.Sscanf(word, "f%d", &value); n == 1 {
			return fileOf(value)
		}
		return contentFrom(word)
	}
	words := strings.Fields(line)
	return impl.Command{Path: words[0], From: content(words[1]), To: content(words[2])}
}

func TestBookOpenTable(t *testing.T) {
	for _, r := range []struct{ what, line, book string }{
		{"bytes that are safe", "1:1,3,220|", "3:"},
		{"bytes that are fresh", "1:|1,3,220", "3:"},
		{"both", "1:1,3|220", "3:"},
		{"a command that is fresh", "1:1,3,220|" + goodFrame, "3: /a - f4"},
		{"a command of which a part is safe", "1:1,3,220,6,0,0|2,4,47,97,140", "3: /a - f4"},
		{"a torn command", "1:1,3,220," + goodFrame + "|6,0,0", "3: /a - f4"},
		{"a wrong sum", "1:1,3,220," + goodFrame + ",6,0,0,2,4,47,97,141|" + goodFrame, "3: /a - f4"},
		{"the first epoch", "1:1,0,217|", "0:"},
		{"the last epoch", "1:|1,99,65", "99:"},
		{"a full file", "1:1,3,220|397x0", "3:"},
		{"a book in the other file", "1:1,3,220| 2:1,4,221|", "3:"},
		{"books in all files", "1:1,3,220| 2:|1,4,221 3:1,5,222|", "3:"},
		{"other files without bytes", "1:1,3,220| 2:| 3:|", "3:"},
		{"a third file that is full", "1:1,3,220| 3:200x1|200x1", "3:"},

		{"no files", "", fails},
		{"a book in the other file alone", "2:1,3,220|", fails},
		{"a book in the third file alone", "3:1,3,220|", fails},
		{"books in both other files", "2:1,3,220| 3:|1,3,220", fails},
		{"no bytes", "1:|", fails},
		{"no bytes, and a book in the other file", "1:| 2:1,3,220|", fails},
		{"a torn epoch", "1:1,3|", fails},
		{"a torn epoch, and its sum in the other file", "1:1,3| 2:220|", fails},
		{"a wrong sum of the epoch", "1:1,3|221", fails},
		{"a number that is no epoch", "1:1,100|66", fails},
		{"a command", "1:" + goodFrame + "|", fails},
		{"no disk, a number twice", "1:1,3,220| 1:1,3,220|", fails},
		{"no disk, out of order", "2:| 1:1,3,220|", fails},
		{"no disk, out of order behind the book", "1:1,3,220| 3:| 2:|", fails},
		{"no disk, the number 0", "0:| 1:1,3,220|", fails},
		{"no disk, the number 4", "1:1,3,220| 4:|", fails},
		{"no disk, no byte behind the book", "1:1,3,220,256|", fails},
		{"no disk, no byte in another file", "1:1,3,220| 2:|-1", fails},
		{"no disk, a byte too many in the file", "1:1,3,220|398x0", fails},
		{"no disk, a byte too many in another file", "1:1,3,220| 3:1|400x0", fails},
	} {
		list, want := diskFrom(r.line), impl.Book{}
		if r.book != fails {
			want = bookFrom(r.book)
		}
		got, ok := impl.BookOpen(list)
		hasBook(t, got, ok, want, r.book != fails, r.what, "BookOpen of", list)
		checkBookOpen(t, list)
	}
}

// A book is replaced, with a crash behind each step, which keeps nothing, a part, or everything of the fresh bytes.
func TestBookCrashTable(t *testing.T) {
	for _, r := range []struct {
		what, line, keep string
		before           string
		first, second    string
	}{
		{"no book, and nothing is kept", "", "", fails, fails, fails},
		{"no book, and everything is kept", "", "400,400,400", fails, fails, fails},
		{"a safe book, and nothing is kept", "1:1,3,220," + goodFrame + "|", "", "3: /a - f4", "3: /a - f4", "3: /a - f4"},
		{"a safe book, and a part is kept", "1:1,3,220," + goodFrame + "|", "1,2,0", "3: /a - f4", "3: /a - f4", "3: /a - f4"},
		{"a safe book, and everything is kept", "1:1,3,220," + goodFrame + "|", "400,400,400", "3: /a - f4", "3: /a - f4", "3: /a - f4"},
		{"a fresh book, and nothing is kept", "1:|1,3,220", "", fails, fails, fails},
		{"a fresh book, and a part is kept", "1:|1,3,220", "2,400,400", fails, fails, fails},
		{"a fresh book, and everything is kept", "1:|1,3,220", "3", "3:", "3:", "3:"},
		{"a fresh command, and nothing is kept", "1:1,3,220|" + goodFrame, "0,400", "3:", "3:", "3:"},
		{"a fresh command, and a part is kept", "1:1,3,220|" + goodFrame, "7,1", "3:", "3:", "3:"},
		{"a fresh command, and everything is kept", "1:1,3,220|" + goodFrame, "8,1", "3: /a - f4", "3: /a - f4", "3: /a - f4"},
		{"two files, and nothing is kept", "1:1,3,220| 2:1,4,221|", "", "3:", "3:", "3:"},
		{"two files, and everything is kept", "1:1,3,220| 2:1,4,221|", "400,400", "3:", "3:", "3:"},
	} {
		steps, ok := impl.BookSteps(diskFrom(r.line), bookFrom("9: /b d -"))
		if !ok || len(steps) != 3 {
			t.Fatalf("%s: BookSteps is %v, %v", r.what, steps, ok)
		}
		disks := slices.Insert(steps, 0, diskFrom(r.line))
		for k, line := range []string{r.before, r.first, r.second, "9: /b d -"} {
			want := impl.Book{}
			if line != fails {
				want = bookFrom(line)
			}
			crash, _ := impl.DiskCrash(disks[k], bytesFrom(r.keep))
			got, ok := impl.BookOpen(crash)
			hasBook(t, got, ok, want, line != fails, r.what, "behind a crash, BookOpen of", disks[k])
		}
	}
}
