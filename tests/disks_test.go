package tests

import (
	"fmt"
	"slices"
	"strings"
	"testing"

	"loop.example/filereconciler/impl"
)

func TestDiskConstants(t *testing.T) {
	if impl.FileMax != 3 || impl.ByteMax != 400 {
		t.Errorf("FileMax is %d, and ByteMax is %d", impl.FileMax, impl.ByteMax)
	}
}

func TestDiskValidTable(t *testing.T) {
	for _, r := range []struct {
		what, line string
		valid      bool
	}{
		{"no files", "", true},
		{"a file without bytes", "1:|", true},
		{"safe bytes alone", "1:5,6|", true},
		{"fresh bytes alone", "2:|5,6", true},
		{"both", "3:5|6", true},
		{"two files", "1:5| 2:|6", true},
		{"two files with numbers apart", "1:5| 3:|6", true},
		{"the last two files", "2:5| 3:|6", true},
		{"as many files as can be", "1:| 2:5| 3:|6", true},
		{"one more", "1:| 2:5| 3:|6 4:|", false},
		{"the number 0", "0:|", false},
		{"the number 0 with bytes", "0:5|6", false},
		{"the number 0 ahead of others", "0:| 1:|", false},
		{"the largest number", "3:5|", true},
		{"one more than the largest number", "4:5|", false},
		{"one more behind others", "1:| 4:5|", false},
		{"a number below 0", "-1:|", false},
		{"descending", "2:| 1:|", false},
		{"descending, with numbers apart", "3:5|6 1:7|8", false},
		{"descending, three files", "3:| 2:| 1:|", false},
		{"out of order at the end", "1:| 3:| 2:|", false},
		{"out of order at the beginning", "2:| 1:| 3:|", false},
		{"a number twice", "1:| 1:|", false},
		{"a number twice with other bytes", "2:5| 2:|6", false},
		{"a number twice at the end", "1:| 3:| 3:|", false},
		{"a number twice, apart", "1:| 2:| 1:|", false},
		{"the byte 0 is safe", "1:0|", true},
		{"the byte 0 is fresh", "1:|0", true},
		{"the byte 255 is safe", "1:255|", true},
		{"the byte 255 is fresh", "1:|255", true},
		{"the byte -1 is safe", "1:-1|", false},
		{"the byte -1 is fresh", "1:|-1", false},
		{"the byte 256 is safe", "1:256|", false},
		{"the byte 256 is fresh", "1:|256", false},
		{"the byte -1 among safe ones", "1:5,-1,6|7", false},
		{"the byte 256 among fresh ones", "1:7|5,256,6", false},
		{"the byte 256 as the last safe one", "1:5,6,256|7", false},
		{"the byte -1 as the first fresh one", "1:7|-1,5", false},
		{"the byte -1 in a second file", "1:5| 2:-1|", false},
		{"the byte 256 in a third file", "1:5| 2:| 3:|256", false},
		{"ByteMax safe bytes", "1:400x5|", true},
		{"ByteMax fresh bytes", "2:|400x5", true},
		{"ByteMax bytes in both parts", "3:399x5|6", true},
		{"ByteMax bytes in both parts, most of them fresh", "3:5|399x6", true},
		{"ByteMax bytes in each file", "1:400x0| 2:|400x255 3:200x1|200x2", true},
		{"one safe byte more", "1:401x5|", false},
		{"one fresh byte more", "2:|401x5", false},
		{"one byte more in both parts", "3:400x5|6", false},
		{"one byte more in both parts, most of them fresh", "3:5|400x6", false},
		{"one byte more in halves", "1:200x5|201x6", false},
		{"one byte more in a second file", "1:5| 2:201x5|200x6", false},
		{"one byte more in a third file", "1:| 2:| 3:401x5|", false},
	} {
		list := diskFrom(r.line)
		if isDisk(list) != r.valid {
			t.Fatalf("%s: %s is a disk is %v", r.what, shown(list), !r.valid)
		}
		if got := impl.DiskValid(list); got != r.valid {
			t.Errorf("%s: DiskValid of %s is %v", r.what, shown(list), got)
		}
	}
}

func TestDiskReadTable(t *testing.T) {
	for _, r := range []struct {
		what, line string
		name       int
		bytes      string
		ok         bool
	}{
		{"no files", "", 1, "", false},
		{"a file without bytes", "1:|", 1, "", true},
		{"safe bytes", "1:5,6|", 1, "5,6", true},
		{"fresh bytes", "1:|5,6", 1, "5,6", true},
		{"safe ones first", "1:5,6|7,8,9", 1, "5,6,7,8,9", true},
		{"safe ones first, in no order", "2:9,1|8,0", 2, "9,1,8,0", true},
		{"the first file", "1:1|2 2:3|4 3:5|6", 1, "1,2", true},
		{"the second file", "1:1|2 2:3|4 3:5|6", 2, "3,4", true},
		{"the third file", "1:1|2 2:3|4 3:5|6", 3, "5,6", true},
		{"a file that is the second one, and not", "1:1|2 3:5|6", 3, "5,6", true},
		{"a file that is the first one, and not", "2:1|2 3:5|6", 2, "1,2", true},
		{"as many bytes as can be", "3:200x0|200x255", 3, "200x0,200x255", true},
		{"the first file is not there", "2:1| 3:2|", 1, "", false},
		{"the second file is not there", "1:1| 3:2|", 2, "", false},
		{"the third file is not there", "1:1| 2:2|", 3, "", false},
		{"the number 0", "1:1| 2:2| 3:3|", 0, "", false},
		{"one more than the largest number", "1:1| 2:2| 3:3|", 4, "", false},
		{"a number below 0", "1:1| 2:2| 3:3|", -1, "", false},
		{"no disk, a number twice", "1:1| 1:1|", 1, "", false},
		{"no disk, out of order", "2:1| 1:1|", 1, "", false},
		{"no disk, a number 0", "0:5| 1:1|", 0, "", false},
		{"no disk, a number too large", "1:1| 4:5|", 1, "", false},
		{"no disk, another file has no bytes", "1:5| 2:-1|", 1, "", false},
		{"no disk, another file has too many", "1:5| 3:401x1|", 1, "", false},
		{"no disk, too many bytes", "1:200x5|201x6", 1, "", false},
	} {
		list := diskFrom(r.line)
		if got, ok := impl.DiskRead(list, r.name); ok != r.ok || !slices.Equal(got, bytesFrom(r.bytes)) {
			t.Errorf("%s: DiskRead of %s and %d is %s, %v", r.what, shown(list), r.name, shown(got), ok)
		}
	}
}

// hasDisk tells that a call has returned the files of a line, or nothing and false.
func hasDisk(t *testing.T, call string, got []impl.Blob, ok bool, line string) {
	t.Helper()
	if line == fails {
		isDiskFrom(t, got, ok, nil, false, call)
		return
	}
	want := diskFrom(line)
	isDiskFrom(t, got, ok, want, true, call)
	if !impl.DiskValid(want) {
		t.Errorf("%s: DiskValid does not hold", call)
	}
}

func TestDiskWriteTable(t *testing.T) {
	for _, r := range []struct {
		what, line string
		name       int
		bytes      string
		result     string
	}{
		{"a file that is there", "1:|", 1, "5", "1:|5"},
		{"behind safe bytes", "1:5,6|", 1, "7,8", "1:5,6|7,8"},
		{"behind fresh bytes", "1:|5,6", 1, "7,8", "1:|5,6,7,8"},
		{"behind both", "1:5|6", 1, "7,8", "1:5|6,7,8"},
		{"the first of three files", "1:1|2 2:3|4 3:5|6", 1, "9", "1:1|2,9 2:3|4 3:5|6"},
		{"the second of three files", "1:1|2 2:3|4 3:5|6", 2, "9", "1:1|2 2:3|4,9 3:5|6"},
		{"the third of three files", "1:1|2 2:3|4 3:5|6", 3, "9", "1:1|2 2:3|4 3:5|6,9"},
		{"no files", "", 1, "5,6", "1:|5,6"},
		{"no files, the largest number", "", 3, "5,6", "3:|5,6"},
		{"a file ahead of the others", "2:1| 3:2|", 1, "9,8", "1:|9,8 2:1| 3:2|"},
		{"a file between the others", "1:1| 3:2|", 2, "9,8", "1:1| 2:|9,8 3:2|"},
		{"a file behind the others", "1:1| 2:2|", 3, "9,8", "1:1| 2:2| 3:|9,8"},
		{"a file behind another one, with room between", "1:1|", 3, "9", "1:1| 3:|9"},
		{"a file ahead of another one, with room between", "3:1|", 1, "9", "1:|9 3:1|"},
		{"no bytes", "1:5|6", 1, "", "1:5|6"},
		{"no bytes, and none in the file", "1:|", 1, "", "1:|"},
		{"no bytes, and no files", "", 2, "", "2:|"},
		{"no bytes, and no such file", "1:5|6 3:|", 2, "", "1:5|6 2:| 3:|"},
		{"no bytes, and no room", "1:400x5|", 1, "", "1:400x5|"},
		{"the bytes 0 and 255", "1:|", 1, "0,255", "1:|0,255"},
		{"the byte -1", "1:|", 1, "-1", fails},
		{"the byte 256", "1:|", 1, "256", fails},
		{"the byte -1 first", "1:5|6", 1, "-1,5,5", fails},
		{"the byte -1 between", "1:5|6", 1, "5,-1,5", fails},
		{"the byte 256 last", "1:5|6", 1, "5,5,256", fails},
		{"the byte 256, and no such file", "1:5|6", 2, "256", fails},
		{"as large as ByteMax at once", "", 2, "400x7", "2:|400x7"},
		{"one byte larger at once", "", 2, "401x7", fails},
		{"as large as ByteMax behind safe bytes", "1:399x5|", 1, "7", "1:399x5|7"},
		{"one byte larger behind safe bytes", "1:399x5|", 1, "7,8", fails},
		{"as large as ByteMax behind fresh bytes", "1:|399x5", 1, "7", "1:|399x5,7"},
		{"one byte larger behind fresh bytes", "1:|399x5", 1, "7,8", fails},
		{"as large as ByteMax behind both", "1:100x5|200x6", 1, "100x7", "1:100x5|200x6,100x7"},
		{"one byte larger behind both", "1:100x5|200x6", 1, "101x7", fails},
		{"a byte behind ByteMax safe ones", "1:400x5|", 1, "7", fails},
		{"a byte behind ByteMax fresh ones", "1:|400x5", 1, "7", fails},
		{"a byte behind ByteMax of both", "1:399x5|6", 1, "7", fails},
		{"other files are full", "1:400x5| 2:|400x6 3:5|", 3, "399x7", "1:400x5| 2:|400x6 3:5|399x7"},
		{"the number 0", "1:|", 0, "5", fails},
		{"one more than the largest number", "1:|", 4, "5", fails},
		{"a number below 0", "1:|", -1, "5", fails},
		{"the number 0, and no files", "", 0, "5", fails},
		{"the number 0, and no bytes", "", 0, "", fails},
		{"one more than the largest number, and no bytes", "1:5|", 4, "", fails},
		{"no disk, a number twice", "1:| 1:|", 1, "5", fails},
		{"no disk, a number twice, and the other file", "1:| 1:|", 2, "5", fails},
		{"no disk, out of order", "3:| 1:|", 2, "5", fails},
		{"no disk, the number 0", "0:|", 0, "5", fails},
		{"no disk, the number 0, and another one", "0:|", 1, "", fails},
		{"no disk, a number too large", "4:|", 4, "5", fails},
		{"no disk, no byte", "1:-1|", 2, "5", fails},
		{"no disk, no byte, and no bytes", "1:|256", 1, "", fails},
		{"no disk, too many bytes", "1:400x5|6 2:|", 2, "", fails},
	} {
		list, bytes := diskFrom(r.line), bytesFrom(r.bytes)
		got, ok := impl.DiskWrite(list, r.name, bytes)
		hasDisk(t, fmt.Sprintf("%s: DiskWrite of %s, %d and %s", r.what, shown(list), r.name, shown(bytes)), got, ok, r.result)
	}
}

func TestDiskSyncTable(t *testing.T) {
	for _, r := range []struct {
		what, line string
		name       int
		result     string
	}{
		{"a file without bytes", "1:|", 1, "1:|"},
		{"a file without fresh bytes", "1:5,6|", 1, "1:5,6|"},
		{"fresh bytes", "1:|5,6", 1, "1:5,6|"},
		{"both, the safe ones first", "1:9,5|6,1", 1, "1:9,5,6,1|"},
		{"as many as can be", "2:|400x5", 2, "2:400x5|"},
		{"as many as can be of both", "3:1|399x5", 3, "3:1,399x5|"},
		{"the first of three files", "1:1|2 2:3|4 3:5|6", 1, "1:1,2| 2:3|4 3:5|6"},
		{"the second of three files", "1:1|2 2:3|4 3:5|6", 2, "1:1|2 2:3,4| 3:5|6"},
		{"the third of three files", "1:1|2 2:3|4 3:5|6", 3, "1:1|2 2:3|4 3:5,6|"},
		{"a file that is the second one, and not", "1:1|2 3:5|6", 3, "1:1|2 3:5,6|"},
		{"no files", "", 1, fails},
		{"no such file ahead of others", "2:1|2 3:3|4", 1, fails},
		{"no such file between others", "1:1|2 3:3|4", 2, fails},
		{"no such file behind others", "1:1|2 2:3|4", 3, fails},
		{"the number 0", "1:1|2", 0, fails},
		{"one more than the largest number", "1:1|2 2:3|4 3:5|6", 4, fails},
		{"a number below 0", "1:1|2", -1, fails},
		{"no disk, a number twice", "1:|5 1:|5", 1, fails},
		{"no disk, out of order", "2:|5 1:|5", 1, fails},
		{"no disk, a number 0", "0:|5", 0, fails},
		{"no disk, a number too large", "1:|5 4:|", 1, fails},
		{"no disk, no byte", "1:|256", 1, fails},
		{"no disk, no byte in another file", "1:|5 2:-1|", 1, fails},
		{"no disk, too many bytes", "1:1|400x5", 1, fails},
	} {
		list := diskFrom(r.line)
		got, ok := impl.DiskSync(list, r.name)
		hasDisk(t, fmt.Sprintf("%s: DiskSync of %s and %d", r.what, shown(list), r.name), got, ok, r.result)
		if !ok {
			continue
		}
		again, fine := impl.DiskSync(got, r.name)
		hasDisk(t, r.what+": DiskSync once more", again, fine, r.result)
		crash, fine := impl.DiskCrash(got, nil)
		want, _ := impl.DiskRead(list, r.name)
		if bytes, found := impl.DiskRead(crash, r.name); !fine || !found || !slices.Equal(bytes, want) {
			t.Errorf("%s: behind a crash, there is %s, not %s", r.what, shown(bytes), shown(want))
		}
	}
}

func TestDiskRenameTable(t *testing.T) {
	for _, r := range []struct {
		what, line string
		from, to   int
		result     string
	}{
		{"to a free number", "1:5|6", 1, 2, "2:5|6"},
		{"to the largest number", "1:5|6", 1, 3, "3:5|6"},
		{"to a smaller number", "3:5|6", 3, 1, "1:5|6"},
		{"to a free number behind others", "1:1|2 2:3|4", 1, 3, "2:3|4 3:1|2"},
		{"to a free number ahead of others", "2:1|2 3:3|4", 3, 1, "1:3|4 2:1|2"},
		{"to a free number between others", "1:1|2 3:3|4", 1, 2, "2:1|2 3:3|4"},
		{"to a number that another file has", "1:1|2 2:3|4", 1, 2, "2:1|2"},
		{"to a smaller number that another file has", "1:1|2 2:3|4", 2, 1, "1:3|4"},
		{"to a number that another file has, of three", "1:1|2 2:3|4 3:5|6", 1, 3, "2:3|4 3:1|2"},
		{"to a smaller number that another file has, of three", "1:1|2 2:3|4 3:5|6", 3, 1, "1:5|6 2:3|4"},
		{"the first two of three", "1:1|2 2:3|4 3:5|6", 2, 1, "1:3|4 3:5|6"},
		{"the last two of three", "1:1|2 2:3|4 3:5|6", 2, 3, "1:1|2 3:3|4"},
		{"a file without bytes to one with bytes", "1:| 2:3|4", 1, 2, "2:|"},
		{"a file with bytes to one without bytes", "1:| 2:3|4", 2, 1, "1:3|4"},
		{"as many bytes as can be", "1:400x1| 2:|400x2", 1, 2, "2:400x1|"},
		{"to its own number", "1:5|6", 1, 1, "1:5|6"},
		{"to its own number, among others", "1:1|2 2:3|4 3:5|6", 2, 2, "1:1|2 2:3|4 3:5|6"},
		{"to its own number, the largest one", "3:|", 3, 3, "3:|"},
		{"to the number 0", "1:5|6", 1, 0, fails},
		{"to one more than the largest number", "1:5|6", 1, 4, fails},
		{"to a number below 0", "1:5|6", 1, -1, fails},
		{"no files", "", 1, 2, fails},
		{"no files, to the same number", "", 1, 1, fails},
		{"no such file", "1:5|6", 2, 3, fails},
		{"no such file, to a number that a file has", "1:5|6", 2, 1, fails},
		{"no such file, to its own number", "1:5|6 3:|", 2, 2, fails},
		{"from the number 0", "1:5|6", 0, 1, fails},
		{"from the number 0 to itself", "1:5|6", 0, 0, fails},
		{"from one more than the largest number", "1:5|6 2:| 3:|", 4, 1, fails},
		{"from one more than the largest number to itself", "1:5|6 2:| 3:|", 4, 4, fails},
		{"from a number below 0", "1:5|6", -1, 1, fails},
		{"no disk, a number twice", "1:5|6 1:5|6", 1, 2, fails},
		{"no disk, out of order", "2:5|6 1:5|6", 1, 3, fails},
		{"no disk, the number 0", "0:5|6", 0, 1, fails},
		{"no disk, a number too large", "1:5|6 4:|", 1, 2, fails},
		{"no disk, from a number too large", "4:5|6", 4, 1, fails},
		{"no disk, no byte", "1:5|256", 1, 2, fails},
		{"no disk, no byte in the file that would be gone", "1:5|6 2:-1|", 1, 2, fails},
		{"no disk, too many bytes in the file that would be gone", "1:5|6 2:400x1|2", 1, 2, fails},
	} {
		list := diskFrom(r.line)
		got, ok := impl.DiskRename(list, r.from, r.to)
		hasDisk(t, fmt.Sprintf("%s: DiskRename of %s from %d to %d", r.what, shown(list), r.from, r.to), got, ok, r.result)
		if other, fine := impl.DiskRead(list, r.to); ok && !fine && len(other) == 0 {
			back, fine := impl.DiskRename(got, r.to, r.from)
			hasDisk(t, r.what+": DiskRename back", back, fine, r.line)
		}
	}
}

func TestDiskCrashTable(t *testing.T) {
	for _, r := range []struct {
		what, line, keep string
		result           string
	}{
		{"no files", "", "", ""},
		{"no files, and some are kept", "", "1,2,3", ""},
		{"a file without bytes", "1:|", "1", "1:|"},
		{"safe bytes alone", "1:5,6|", "", "1:5,6|"},
		{"safe bytes alone, and some are kept", "1:5,6|", "1", "1:5,6|"},
		{"safe bytes alone, and all are kept", "1:5,6|", "400", "1:5,6|"},
		{"fresh bytes alone, and none is kept", "1:|5,6,7", "0", "1:|"},
		{"fresh bytes alone, and one is kept", "1:|5,6,7", "1", "1:5|"},
		{"fresh bytes alone, and all but one are kept", "1:|5,6,7", "2", "1:5,6|"},
		{"fresh bytes alone, and all are kept", "1:|5,6,7", "3", "1:5,6,7|"},
		{"fresh bytes alone, and more are kept", "1:|5,6,7", "4", "1:5,6,7|"},
		{"fresh bytes alone, and ByteMax are kept", "1:|5,6,7", "400", "1:5,6,7|"},
		{"both, and none is kept", "1:8,9|5,6,7", "0", "1:8,9|"},
		{"both, and some are kept", "1:8,9|5,6,7", "2", "1:8,9,5,6|"},
		{"both, and all are kept", "1:8,9|5,6,7", "3", "1:8,9,5,6,7|"},
		{"both, and more are kept", "1:8,9|5,6,7", "5", "1:8,9,5,6,7|"},
		{"both, and ByteMax are kept", "1:8,9|5,6,7", "400", "1:8,9,5,6,7|"},
		{"ByteMax fresh bytes, and none is kept", "2:|400x5", "0,0", "2:|"},
		{"ByteMax fresh bytes, and all but one are kept", "2:|400x5", "0,399", "2:399x5|"},
		{"ByteMax fresh bytes, and all are kept", "2:|400x5", "0,400", "2:400x5|"},
		{"ByteMax bytes of both", "2:1|399x5", "0,398", "2:1,398x5|"},
		{"three files, no elements", "1:1|2,2 2:3|4,4 3:5|6,6", "", "1:1| 2:3| 3:5|"},
		{"three files, one element", "1:1|2,2 2:3|4,4 3:5|6,6", "1", "1:1,2| 2:3| 3:5|"},
		{"three files, two elements", "1:1|2,2 2:3|4,4 3:5|6,6", "1,2", "1:1,2| 2:3,4,4| 3:5|"},
		{"three files, three elements", "1:1|2,2 2:3|4,4 3:5|6,6", "1,0,2", "1:1,2| 2:3| 3:5,6,6|"},
		{"three files, the last one alone", "1:1|2,2 2:3|4,4 3:5|6,6", "0,0,1", "1:1| 2:3| 3:5,6|"},
		{"a later file alone, the element of another one", "2:1|2,2", "2", "2:1|"},
		{"a later file alone, its own element", "2:1|2,2", "0,1", "2:1,2|"},
		{"the last file alone, the elements of others", "3:1|2,2", "2,2", "3:1|"},
		{"the last file alone, its own element", "3:1|2,2", "0,0,1", "3:1,2|"},
		{"two files, with numbers apart", "1:1|2,2 3:5|6,6", "0,2,1", "1:1| 3:5,6|"},
		{"more elements than files", "1:1|2,2", "1,2,3", "1:1,2|"},
		{"as many elements as can be, ByteMax each", "1:1|2,2", "400,400,400", "1:1,2,2|"},
		{"an element more", "1:1|2,2", "1,1,1,1", fails},
		{"an element more, and no files", "", "0,0,0,0", fails},
		{"the element -1", "1:1|2,2", "-1", fails},
		{"the element ByteMax and one", "1:1|2,2", "401", fails},
		{"the element -1 where there is no file", "1:1|2,2", "1,-1", fails},
		{"the element -1 last, where there is no file", "1:1|2,2", "1,1,-1", fails},
		{"the element ByteMax and one where there is no file", "1:1|2,2", "1,401", fails},
		{"the element ByteMax and one ahead of the file", "3:1|2,2", "401,0,1", fails},
		{"the element -1 ahead of the file", "2:1|2,2", "-1,1", fails},
		{"the element -1, and no files", "", "-1", fails},
		{"the element ByteMax and one, and no files", "", "0,0,401", fails},
		{"the element -1 of a file without fresh bytes", "1:1|", "-1", fails},
		{"no disk, a number twice", "1:1|2 1:1|2", "1", fails},
		{"no disk, out of order", "2:1|2 1:1|2", "", fails},
		{"no disk, the number 0", "0:1|2", "", fails},
		{"no disk, a number too large", "4:1|2", "1,1,1", fails},
		{"no disk, no byte that is kept", "1:1|2,256", "1", fails},
		{"no disk, no byte that is safe", "1:-1|2", "1", fails},
		{"no disk, too many bytes of which few are kept", "1:1|400x2", "1", fails},
	} {
		list, keep := diskFrom(r.line), bytesFrom(r.keep)
		got, ok := impl.DiskCrash(list, keep)
		hasDisk(t, fmt.Sprintf("%s: DiskCrash of %s and %s", r.what, shown(list), shown(keep)), got, ok, r.result)
		if ok {
			again, fine := impl.DiskCrash(got, keep)
			hasDisk(t, r.what+": DiskCrash once more", again, fine, r.result)
		}
	}
}

// One step behind the other, and the disk after each of them.
func TestDiskStepsTable(t *testing.T) {
	for _, r := range []struct {
		what  string
		steps string
	}{
		{"a file is replaced whole", "write 1 1,2 > 1:|1,2; sync 1 > 1:1,2|; write 2 5,6,7 > 1:1,2| 2:|5,6,7; sync 2 > 1:1,2| 2:5,6,7|; rename 2 1 > 1:5,6,7|; crash > 1:5,6,7|"},
		{"a crash ahead of the sync", "write 1 1,2 > 1:|1,2; sync 1 > 1:1,2|; write 2 5,6,7 > 1:1,2| 2:|5,6,7; crash 0,2 > 1:1,2| 2:5,6|; rename 2 1 > 1:5,6|"},
		{"fresh bytes are renamed and lost", "write 2 1,2 > 2:|1,2; rename 2 1 > 1:|1,2; crash > 1:|"},
		{"fresh bytes are renamed and kept by the new number", "write 2 1,2 > 2:|1,2; rename 2 3 > 3:|1,2; crash 0,0,1 > 3:1|"},
		{"bytes behind a sync are lost alone", "write 1 1 > 1:|1; sync 1 > 1:1|; write 1 2 > 1:1|2; crash > 1:1|; write 1 3 > 1:1|3; crash 1 > 1:1,3|"},
		{"a crash makes what it keeps safe", "write 1 1,2,3 > 1:|1,2,3; crash 2 > 1:1,2|; crash > 1:1,2|; crash 400 > 1:1,2|"},
		{"a file becomes full, and is replaced", "write 3 399x5 > 3:|399x5; write 3 6 > 3:|399x5,6; write 3 7 > fails; write 1 7 > 1:|7 3:|399x5,6; rename 1 3 > 3:|7"},
		{"what fails changes nothing", "write 2 5 > 2:|5; sync 1 > fails; rename 1 2 > fails; rename 2 4 > fails; write 2 256 > fails; crash 401 > fails; sync 2 > 2:5|"},
	} {
		var list []impl.Blob
		for step := range strings.SplitSeq(r.steps, "; ") {
			step, line, _ := strings.Cut(step, " > ")
			next, ok := doneStep(step, list)
			hasDisk(t, fmt.Sprintf("%s: %s of %s", r.what, step, shown(list)), next, ok, line)
			if ok {
				list = next
			}
		}
	}
}

// doneStep does a step such as "write 1 5,6" or "crash 0,2".
func doneStep(step string, list []impl.Blob) ([]impl.Blob, bool) {
	words := append(strings.Split(step, " "), "", "")
	numbers := append(bytesFrom(words[1]), 0)
	switch words[0] {
	case "write":
		return impl.DiskWrite(list, numbers[0], bytesFrom(words[2]))
	case "sync":
		return impl.DiskSync(list, numbers[0])
	case "rename":
		return impl.DiskRename(list, numbers[0], bytesFrom(words[2])[0])
	case "crash":
		return impl.DiskCrash(list, bytesFrom(words[1]))
	}
	panic(step)
}
