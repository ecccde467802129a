package tests

import (
	"fmt"
	"maps"
	"math"
	"math/rand"
	"slices"
	"strconv"
	"strings"
	"sync"
	"testing"

	"loop.example/filereconciler/impl"
)

// bytesFrom makes numbers from a text such as "5,6,3x255", where the last part is the number 255 three times.
func bytesFrom(text string) []int {
	var list []int
	for part := range strings.SplitSeq(text, ",") {
		if part == "" {
			continue
		}
		times, number, many := strings.Cut(part, "x")
		n := 1
		if many {
			n, _ = strconv.Atoi(times)
		} else {
			number = part
		}
		b, err := strconv.Atoi(number)
		if err != nil {
			panic(text)
		}
		list = append(list, repeated(n, b)...)
	}
	return list
}

// diskFrom makes a disk from a line such as "1:5,6|7 3:|": the number of each file, the bytes that are safe, and the fresh ones.
func diskFrom(line string) []impl.Blob {
	var list []impl.Blob
	for word := range strings.FieldsSeq(line) {
		name, bytes, _ := strings.Cut(word, ":")
		safe, fresh, ok := strings.Cut(bytes, "|")
		n, err := strconv.Atoi(name)
		if err != nil || !ok {
			panic(line)
		}
		list = append(list, impl.Blob{Name: n, Safe: bytesFrom(safe), Fresh: bytesFrom(fresh)})
	}
	return list
}

func sameFile(a, b impl.Blob) bool {
	return a.Name == b.Name && slices.Equal(a.Safe, b.Safe) && slices.Equal(a.Fresh, b.Fresh)
}

// sameDisk tells whether files are the same. A nil slice is the same as an empty one.
func sameDisk(a, b []impl.Blob) bool {
	return slices.EqualFunc(a, b, sameFile)
}

// clonedDisk copies files and their bytes.
func clonedDisk(list []impl.Blob) []impl.Blob {
	list = slices.Clone(list)
	for i, f := range list {
		list[i].Safe, list[i].Fresh = slices.Clone(f.Safe), slices.Clone(f.Fresh)
	}
	return list
}

// areByteValues tells whether numbers are bytes.
func areByteValues(list []int) bool {
	return len(list) == 0 || slices.Min(list) >= 0 && slices.Max(list) <= 255
}

// isDisk tells without DiskValid whether files are a disk: their numbers are one of the eight lists that are in order.
func isDisk(list []impl.Blob) bool {
	names := ""
	for _, f := range list {
		all := slices.Concat(f.Safe, f.Fresh)
		if len(all) > 400 || !areByteValues(all) || len(names) > 20 {
			return false
		}
		names += strconv.Itoa(f.Name) + " "
	}
	return slices.Contains([]string{"", "1 ", "2 ", "3 ", "1 2 ", "1 3 ", "2 3 ", "1 2 3 "}, names)
}

// cell is a byte of a file, and whether it is safe.
type cell struct {
	value int
	safe  bool
}

// drive is a disk by another way: one list of bytes by the number of a file.
type drive map[int][]cell

func cellsOf(list []int, safe bool) []cell {
	var cells []cell
	for _, b := range list {
		cells = append(cells, cell{b, safe})
	}
	return cells
}

func driveOf(list []impl.Blob) drive {
	d := drive{}
	for _, f := range list {
		d[f.Name] = append(cellsOf(f.Safe, true), cellsOf(f.Fresh, false)...)
	}
	return d
}

// files returns the files of a drive in order, and true. It fails if they are no disk.
func (d drive) files() ([]impl.Blob, bool) {
	var list []impl.Blob
	for _, name := range slices.Sorted(maps.Keys(d)) {
		f := impl.Blob{Name: name}
		for _, c := range d[name] {
			if c.safe {
				f.Safe = append(f.Safe, c.value)
			} else {
				f.Fresh = append(f.Fresh, c.value)
			}
		}
		list = append(list, f)
	}
	if !isDisk(list) {
		return nil, false
	}
	return list, true
}

// read is DiskRead by another way.
func (d drive) read(name int) ([]int, bool) {
	cells, ok := d[name]
	var list []int
	for _, c := range cells {
		list = append(list, c.value)
	}
	return list, ok
}

// writtenOf is DiskWrite by another way.
func writtenOf(list []impl.Blob, name int, bytes []int) ([]impl.Blob, bool) {
	d := driveOf(list)
	d[name] = append(d[name], cellsOf(bytes, false)...)
	return d.files()
}

// syncedOf is DiskSync by another way.
func syncedOf(list []impl.Blob, name int) ([]impl.Blob, bool) {
	d := driveOf(list)
	bytes, ok := d.read(name)
	if !ok {
		return nil, false
	}
	d[name] = cellsOf(bytes, true)
	return d.files()
}

// renamedOf is DiskRename by another way.
func renamedOf(list []impl.Blob, from, to int) ([]impl.Blob, bool) {
	d := driveOf(list)
	cells, ok := d[from]
	if !ok {
		return nil, false
	}
	delete(d, from)
	d[to] = cells
	return d.files()
}

// isKeep tells whether a crash can keep so many bytes.
func isKeep(keep []int) bool {
	for _, n := range keep {
		if n < 0 || n > 400 {
			return false
		}
	}
	return len(keep) < 4
}

// crashedOf is DiskCrash by another way: bytes are lost one by one, the last one first.
func crashedOf(list []impl.Blob, keep []int) ([]impl.Blob, bool) {
	if !isKeep(keep) {
		return nil, false
	}
	d := driveOf(list)
	for _, f := range list {
		most := len(f.Safe)
		if f.Name <= len(keep) {
			most += keep[f.Name-1]
		}
		for len(d[f.Name]) > most {
			d[f.Name] = d[f.Name][:len(d[f.Name])-1]
		}
		for i := range d[f.Name] {
			d[f.Name][i].safe = true
		}
	}
	return d.files()
}

// isDiskFrom tells that a call, which is told by some words, has returned the files of another way, or nothing and false if they are none.
func isDiskFrom(t *testing.T, got []impl.Blob, ok bool, want []impl.Blob, fine bool, call ...any) {
	t.Helper()
	if ok != fine || !sameDisk(got, want) {
		var words []string
		for _, word := range call {
			words = append(words, shown(word))
		}
		t.Errorf("%s is %s, %v, not %s, %v", strings.Join(words, " "), shown(got), ok, shown(want), fine)
	}
}

func checkRead(t *testing.T, list []impl.Blob, name int) {
	t.Helper()
	want, fine := driveOf(list).read(name)
	if got, ok := impl.DiskRead(list, name); ok != fine || !slices.Equal(got, want) {
		t.Errorf("DiskRead of %s and %d is %s, %v, not %s, %v", shown(list), name, shown(got), ok, shown(want), fine)
	}
}

func checkWrite(t *testing.T, list []impl.Blob, name int, bytes []int) {
	t.Helper()
	got, ok := impl.DiskWrite(list, name, bytes)
	want, fine := writtenOf(list, name, bytes)
	isDiskFrom(t, got, ok, want, fine, "DiskWrite of", list, name, bytes)
}

func checkSync(t *testing.T, list []impl.Blob, name int) {
	t.Helper()
	got, ok := impl.DiskSync(list, name)
	want, fine := syncedOf(list, name)
	isDiskFrom(t, got, ok, want, fine, "DiskSync of", list, name)
}

func checkRename(t *testing.T, list []impl.Blob, from, to int) {
	t.Helper()
	got, ok := impl.DiskRename(list, from, to)
	want, fine := renamedOf(list, from, to)
	isDiskFrom(t, got, ok, want, fine, "DiskRename of", list, from, to)
}

func checkCrash(t *testing.T, list []impl.Blob, keep []int) {
	t.Helper()
	got, ok := impl.DiskCrash(list, keep)
	want, fine := crashedOf(list, keep)
	isDiskFrom(t, got, ok, want, fine, "DiskCrash of", list, keep)
}

// fileNames are the numbers that a file can have, and others, some of which become such a number if they are made smaller.
var fileNames = []int{1, 2, 3, 0, 4, 5, -1, -2, -3, 255, 256, 257, 258, 259, 1<<16 + 1, 1<<32 + 1, 1<<32 + 2, 1<<32 + 3, math.MaxInt, math.MinInt, math.MinInt + 1, math.MinInt + 3}

// someParts are both parts of a file: none, one or both of them, up to ByteMax bytes.
var someParts = []string{"|", "7|", "|8", "1,2,3|", "|4,5,6", "0,255|255,0", "1|2,3,4,5", "1,2,3,4|5", "9|9",
	"400x1|", "|400x2", "399x1|2", "1|399x2", "200x1|200x2", "399x1|", "|399x2", "200x1|199x2", "396x255|0,1,2", "397x0|255,0"}

// smallDisks returns all disks whose files have some of a few parts.
func smallDisks(parts []string) [][]impl.Blob {
	lines := []string{""}
	for name := 1; name <= 3; name++ {
		for _, line := range lines {
			for _, part := range parts {
				lines = append(lines, fmt.Sprintf("%s %d:%s", line, name, part))
			}
		}
	}
	var disks [][]impl.Blob
	for _, line := range lines {
		disks = append(disks, diskFrom(line))
	}
	return disks
}

// grownFile returns a file with any bytes, and often with as many as can be, or nearly.
func grownFile(r *rand.Rand, name int) impl.Blob {
	n := []int{0, 1, 2, 3, 10, 100, 397, 398, 399, 400, 400}[r.Intn(11)]
	bytes, safe := grownBody(r, n), 0
	switch r.Intn(4) {
	case 0:
		safe = n
	case 1, 2:
		safe = r.Intn(n + 1)
	}
	return impl.Blob{Name: name, Safe: bytes[:safe:safe], Fresh: bytes[safe:]}
}

func grownDisk(r *rand.Rand) []impl.Blob {
	var list []impl.Blob
	for name := 1; name <= 3; name++ {
		if r.Intn(4) > 0 {
			list = append(list, grownFile(r, name))
		}
	}
	return list
}

// Disks take long to make, so they are made once, and no test may change them.
var manyDisks = sync.OnceValue(makeDisks)

func makeDisks() [][]impl.Blob {
	disks := slices.Concat([][]impl.Blob{nil, {}}, smallDisks([]string{"|", "1|", "|2", "3,4|5,6"}), smallDisks(someParts[9:13]))
	for _, name := range []int{1, 2, 3} {
		for _, part := range someParts {
			disks = append(disks, diskFrom(fmt.Sprintf("%d:%s", name, part)))
		}
	}
	r := rand.New(rand.NewSource(70))
	for range 200 {
		disks = append(disks, grownDisk(r))
	}
	return disks
}

// fewDisks returns some of them.
func fewDisks() [][]impl.Blob {
	var disks [][]impl.Blob
	for i, list := range manyDisks() {
		if i%8 == 0 {
			disks = append(disks, list)
		}
	}
	return disks
}

// notDisks returns files that are no disk: other numbers, other orders, numbers that are no bytes, and too many bytes.
func notDisks() [][]impl.Blob {
	disks := [][]impl.Blob{make([]impl.Blob, 1), make([]impl.Blob, 3), make([]impl.Blob, 100000), slices.Repeat(diskFrom("1:| 2:| 3:|"), 2), slices.Repeat(diskFrom("2:1|2"), 1000)}
	for _, line := range []string{
		"0:|", "4:|", "-1:|", "0:1|2 1:|", "0:| 1:| 2:|", "0:| 1:| 2:| 3:|", "1:| 2:| 3:| 4:|", "3:| 4:|", "1:| 4:5|6", "-1:| 3:|", "0:| 0:|", "-3:| -2:| -1:|",
		"1:| 1:|", "2:| 2:|", "3:| 3:|", "1:5|6 1:5|6", "1:| 1:| 2:|", "1:| 2:| 2:|", "1:| 3:| 3:|", "2:| 3:| 3:|", "1:| 2:| 3:| 3:|", "1:| 1:| 2:| 3:|", "1:| 2:| 2:| 3:|",
		"2:| 1:|", "3:| 2:|", "3:| 1:|", "3:| 2:| 1:|", "2:| 1:| 3:|", "1:| 3:| 2:|", "2:| 3:| 1:|", "3:| 1:| 2:|", "1:| 2:| 1:|", "2:| 3:| 2:|", "1:| 3:| 1:|",
		"1:401x5|", "1:|401x5", "1:400x5|6", "1:5|400x6", "2:200x5|201x6", "2:201x5|200x6", "3:401x5|401x6", "3:800x5|", "1:65536x5|", "2:|65936x0", "3:256x1|256x1",
		"1:| 2:401x5|", "1:401x5| 2:|", "2:| 3:|401x5", "1:400x5| 2:400x5|1 3:400x5|", "1:| 2:| 3:200x5|201x5",
		"1:-1|", "1:|-1", "1:256|", "1:|256", "2:1,2,-1|", "2:-1,1,2|", "2:1,-1,2|", "3:|1,256,2", "3:|1,2,256", "3:|256,1,2", "1:5|-1", "1:-1|5", "1:399x5|256", "1:256|399x5",
		"1:| 2:-1|", "1:-1| 2:|", "2:| 3:|256", "1:| 2:|256 3:|", "1:| 2:| 3:-1|", "1:400x256|", "1:|400x-1",
	} {
		disks = append(disks, diskFrom(line))
	}
	for _, far := range farNumbers {
		for _, line := range []string{"1:%d|", "1:|%d", "2:5,%d,6|7", "3:5|6,%d", "1:| 2:%d|", "1:| 3:|5,%d,5", "%d:|", "%d:5|6"} {
			disks = append(disks, diskFrom(fmt.Sprintf(line, far)))
		}
	}
	for _, name := range fileNames[3:] {
		disks = append(disks, diskFrom(fmt.Sprintf("%d:1|2", name)), diskFrom(fmt.Sprintf("1:| %d:1|2", name)), diskFrom(fmt.Sprintf("%d:1|2 2:|", name)))
	}
	return disks
}

// someBytes are no bytes, one, some, and as many as files have room for, and one more.
func someBytes() [][]int {
	var lists [][]int
	for _, text := range []string{"", "0", "255", "7", "5,6", "1,2,3,4", "0,255,0", "199x3", "200x3", "201x3", "396x3", "397x3", "398x3", "399x3", "400x3", "401x3", "800x3", "2000x0"} {
		lists = append(lists, bytesFrom(text))
	}
	return append(lists, []int{})
}

// notBytes are numbers of which one or all are no bytes.
func notBytes() [][]int {
	var lists [][]int
	for _, far := range farNumbers {
		for _, n := range []int{1, 2, 3, 400} {
			for _, at := range []int{0, n / 2, n - 1} {
				list := repeated(n, 9)
				list[at] = far
				lists = append(lists, list)
			}
		}
		lists = append(lists, []int{far, far}, []int{0, far, 255})
	}
	return lists
}

// someKeeps returns all lists of at most FileMax of a few numbers of bytes to keep, and others.
func someKeeps() [][]int {
	return append(listsOf([]int{0, 1, 2, 400}, 3), []int{}, []int{3}, []int{399}, []int{3, 5, 200}, []int{200, 199, 201}, []int{398, 399, 400})
}

// notKeeps returns numbers of bytes that no crash can keep: too many of them, and below 0 or above ByteMax at each place.
func notKeeps() [][]int {
	lists := [][]int{{0, 0, 0, 0}, {1, 1, 1, 1}, {400, 400, 400, 400}, {0, 0, 0, -1}, {0, 0, 0, 401}, {1, 2, 3, 4, 5}, {-1, 0, 0, 0},
		repeated(255, 1), repeated(256, 0), repeated(257, 0), repeated(65536, 0), repeated(65539, 1), repeated(100000, 400)}
	for _, bad := range append([]int{-1, 401, 402, 656, 800, -400, -401}, slices.DeleteFunc(slices.Clone(farNumbers), func(n int) bool { return n >= 0 && n <= 400 })...) {
		for _, good := range []int{0, 1, 400} {
			for n := 1; n <= 3; n++ {
				for at := range n {
					list := repeated(n, good)
					list[at] = bad
					lists = append(lists, list)
				}
			}
		}
		lists = append(lists, repeated(3, bad))
	}
	return lists
}

// markedDisk returns a copy of files that has spare capacity, as their bytes have, with what is behind all of them.
func markedDisk(list []impl.Blob) ([]impl.Blob, []impl.Blob, [][]int) {
	var arrays [][]int
	var copies []impl.Blob
	for _, f := range list {
		safe, arraySafe := marked(f.Safe)
		fresh, arrayFresh := marked(f.Fresh)
		arrays = append(arrays, arraySafe, arrayFresh)
		copies = append(copies, impl.Blob{Name: f.Name, Safe: safe, Fresh: fresh})
	}
	array := append(copies, slices.Repeat([]impl.Blob{{Name: mark}}, 5)...)
	return array[:len(list)], array, arrays
}

// overwriteDisk fills files, their bytes and the spare capacity of all of them.
func overwriteDisk(list []impl.Blob) {
	list = list[:cap(list)]
	for i, f := range list {
		overwrite(f.Safe)
		overwrite(f.Fresh)
		list[i] = impl.Blob{Name: -mark}
	}
}
