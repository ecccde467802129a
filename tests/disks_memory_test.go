package tests

import (
	"runtime"
	"slices"
	"sync"
	"testing"

	"loop.example/filereconciler/impl"
)

// checkDisk tells that all functions return what they do by another way, with some other arguments.
func checkDisk(t *testing.T, list []impl.Blob) {
	t.Helper()
	for name := range 5 {
		checkRead(t, list, name)
		checkSync(t, list, name)
		for _, bytes := range [][]int{nil, {5, 6}, {256}, repeated(398, 1)} {
			checkWrite(t, list, name, bytes)
		}
		for to := range 5 {
			checkRename(t, list, name, to)
		}
	}
	for _, keep := range [][]int{nil, {0, 1}, {1, 2, 400}, {-1}, {0, 0, 0, 0}} {
		checkCrash(t, list, keep)
	}
}

func TestDisksAreTheSameEachTime(t *testing.T) {
	defer runtime.GOMAXPROCS(runtime.GOMAXPROCS(0))
	for _, n := range []int{1, 2, 8} {
		runtime.GOMAXPROCS(n)
		for _, list := range fewDisks() {
			checkDisk(t, list)
		}
	}
}

// Calls on the same disk that are made at the same time do not disturb each other.
func TestDisksAtTheSameTime(t *testing.T) {
	for i, list := range append(fewDisks(), notDisks()...) {
		if i%4 > 0 {
			continue
		}
		list, _, _ := markedDisk(list)
		bytes, _ := marked([]int{5, 6})
		keep, _ := marked([]int{1, 0, 2})
		invalid := !isDisk(list)
		var calls sync.WaitGroup
		for range 4 {
			calls.Go(func() {
				if invalid {
					hasNoDisk(t, list, 1, bytes, keep)
					return
				}
				checkDisk(t, list)
				checkWrite(t, list, 2, bytes)
				checkCrash(t, list, keep)
			})
		}
		calls.Wait()
	}
}

// Calls on other disks that are made at the same time do not disturb each other, either.
func TestDisksApartAtTheSameTime(t *testing.T) {
	lists := [][]impl.Blob{diskFrom("1:1|2"), diskFrom("1:3,4|5 2:|6"), diskFrom("2:7| 3:|8,9"), nil, diskFrom("1:400x1| 2:200x2|200x3 3:|400x4")}
	var calls sync.WaitGroup
	for k := range 15 {
		calls.Go(func() {
			for range 40 {
				checkDisk(t, lists[k%5])
				hasNoDisk(t, diskFrom("3:| 1:5|6"), 1, nil, nil)
			}
		})
	}
	calls.Wait()
}

func TestDisksLeaveNoGoroutines(t *testing.T) {
	before := runtime.NumGoroutine()
	for range 20 {
		checkDisk(t, diskFrom("1:1|2 3:|5,6"))
		hasNoDisk(t, diskFrom("1:| 1:|"), 1, []int{5}, nil)
	}
	if after := runtime.NumGoroutine(); after > before {
		t.Errorf("there were %d goroutines, and there are %d", before, after)
	}
}

// diskCall is a call that returns a disk.
type diskCall func(list []impl.Blob) ([]impl.Blob, bool)

// diskCalls returns calls that change files in all ways, or fail.
func diskCalls(bytes, keep []int) []diskCall {
	var calls []diskCall
	for name := range 5 {
		calls = append(calls,
			func(list []impl.Blob) ([]impl.Blob, bool) { return impl.DiskWrite(list, name, bytes) },
			func(list []impl.Blob) ([]impl.Blob, bool) { return impl.DiskWrite(list, name, nil) },
			func(list []impl.Blob) ([]impl.Blob, bool) { return impl.DiskSync(list, name) })
		for to := range 5 {
			calls = append(calls, func(list []impl.Blob) ([]impl.Blob, bool) { return impl.DiskRename(list, name, to) })
		}
	}
	return append(calls,
		func(list []impl.Blob) ([]impl.Blob, bool) { return impl.DiskCrash(list, keep) },
		func(list []impl.Blob) ([]impl.Blob, bool) { return impl.DiskCrash(list, nil) })
}

// partsAreApart overwrites each part of each file of some disks with its spare capacity, and then the files of each disk: no other part changes by it, and no other disk.
func partsAreApart(t *testing.T, disks ...[]impl.Blob) {
	t.Helper()
	var parts [][]int
	for _, list := range disks {
		for _, f := range list {
			parts = append(parts, f.Safe[:cap(f.Safe)], f.Fresh[:cap(f.Fresh)])
		}
	}
	for k, part := range parts {
		before := clonedLists(parts)
		overwrite(part)
		for i := range parts {
			if i != k && !slices.Equal(parts[i], before[i]) {
				t.Fatalf("parts %d and %d of %s share memory", k, i, shown(disks))
			}
		}
	}
	for k, list := range disks {
		var before [][]impl.Blob
		for _, other := range disks {
			before = append(before, clonedDisk(other[:cap(other)]))
		}
		overwriteDisk(list)
		for i, other := range disks {
			if i != k && !sameDisk(other[:cap(other)], before[i]) {
				t.Fatalf("disks %d and %d share memory", k, i)
			}
		}
	}
}

// Calls change neither a disk, nor bytes, nor what is behind them, nor each other's results.
func TestDisksShareNoMemory(t *testing.T) {
	bytes, arrayBytes := marked([]int{5, 6, 7})
	keep, arrayKeep := marked([]int{1, 2, 0})
	beforeBytes, beforeKeep := slices.Clone(arrayBytes), slices.Clone(arrayKeep)
	for _, list := range slices.Concat(fewDisks(), [][]impl.Blob{diskFrom("2:| 1:|"), diskFrom("1:1|2 1:1|2"), diskFrom("1:256|3"), diskFrom("1:1,2|3 2:4|5 3:|6,7")}) {
		files, array, arrays := markedDisk(list)
		before, beforeArrays := slices.Clone(array), clonedLists(arrays)
		for k, call := range diskCalls(bytes, keep) {
			got, _ := call(list)
			want := clonedDisk(got)
			first, ok := call(files)
			second, fine := call(files)
			partsAreApart(t, first)
			if ok != fine || !sameDisk(second, want) {
				t.Fatalf("call %d of %s is %s, %v", k, shown(list), shown(second), fine)
			}
			partsAreApart(t, second)
			partsAreApart(t, got)
		}
		for name := 1; name <= 3; name++ {
			want, _ := driveOf(list).read(name)
			first, ok := impl.DiskRead(files, name)
			second, _ := impl.DiskRead(files, name)
			overwrite(first)
			if ok && !slices.Equal(second, want) {
				t.Fatalf("DiskRead of %s and %d is %s", shown(list), name, shown(second))
			}
			overwrite(second)
		}
		if !sameDisk(array, before) || !slices.EqualFunc(arrays, beforeArrays, slices.Equal[[]int]) {
			t.Fatalf("%s has changed: %s", shown(list), shown(array))
		}
	}
	if !slices.Equal(arrayBytes, beforeBytes) || !slices.Equal(arrayKeep, beforeKeep) {
		t.Errorf("the bytes are %v, and those to keep are %v", arrayBytes, arrayKeep)
	}
}

func clonedLists(lists [][]int) [][]int {
	copies := make([][]int, len(lists))
	for i, list := range lists {
		copies[i] = slices.Clone(list)
	}
	return copies
}

// All bytes of a disk may lie in one array one behind the other, so that behind those of each part there are others, and what is written and kept, too.
func TestDisksOfPartsOfOneArray(t *testing.T) {
	array := []int{1, 2, 3, 0, 1, 2, 7, 8, 9, 10, 11, 12, 13, 14}
	before := slices.Clone(array)
	list := []impl.Blob{{Name: 1, Safe: array[:2], Fresh: array[2:5]}, {Name: 2, Safe: array[5:5], Fresh: array[5:8]}, {Name: 3, Safe: array[8:10], Fresh: array[10:10]}}
	same := clonedDisk(list)
	checkDisk(t, list)
	for _, bytes := range [][]int{array[:3], array[2:5], array[5:5], array[10:], array} {
		for name := range 5 {
			checkWrite(t, list, name, bytes)
		}
	}
	for _, keep := range [][]int{array[:3], array[3:6], array[1:2], array[5:5]} {
		checkCrash(t, list, keep)
	}
	for _, call := range diskCalls(array[2:5], array[3:6]) {
		got, _ := call(list)
		partsAreApart(t, got)
	}
	if !slices.Equal(array, before) || !sameDisk(list, same) {
		t.Errorf("%s has changed: %v", shown(list), array)
	}
	// Files may have their bytes in common, and both parts of one, too.
	common := array[3:7]
	checkDisk(t, []impl.Blob{{Name: 1, Safe: common, Fresh: common}, {Name: 3, Safe: common, Fresh: common[1:]}})
	if !slices.Equal(array, before) {
		t.Errorf("the array has changed: %v", array)
	}
}

// A nil slice and an empty one are the same, for files, bytes and what is kept.
func TestDisksOfNilAndEmptySlices(t *testing.T) {
	empty, spare := []int{}, make([]int, 0, 10)
	for _, parts := range [][2][]int{{nil, nil}, {empty, empty}, {nil, empty}, {spare, nil}, {spare, spare}, {nil, []int{5}}, {empty, []int{5}}, {[]int{5}, spare}} {
		list := []impl.Blob{{Name: 2, Safe: parts[0], Fresh: parts[1]}}
		checkDisk(t, list)
		for _, none := range [][]int{nil, empty, spare} {
			for name := range 5 {
				checkWrite(t, list, name, none)
				checkWrite(t, nil, name, none)
				checkWrite(t, []impl.Blob{}, name, none)
			}
			checkCrash(t, list, none)
			checkCrash(t, nil, none)
			checkCrash(t, make([]impl.Blob, 0, 5), none)
		}
		for _, call := range diskCalls(spare, spare) {
			got, _ := call(list)
			partsAreApart(t, got)
		}
	}
	if got := spare[:10]; !slices.Equal(got, make([]int, 10)) {
		t.Errorf("the spare capacity has changed: %v", got)
	}
}
