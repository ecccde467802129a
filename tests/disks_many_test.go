package tests

import (
	"fmt"
	"slices"
	"testing"

	"loop.example/filereconciler/impl"
)

func TestDiskValidOfManyFiles(t *testing.T) {
	for _, list := range manyDisks() {
		if !isDisk(list) || !impl.DiskValid(list) {
			t.Errorf("DiskValid of %s does not hold", shown(list))
		}
	}
	for _, list := range notDisks() {
		if isDisk(list) || impl.DiskValid(list) {
			t.Errorf("DiskValid of %s holds", shown(list))
		}
	}
}

// All lists of up to four files with some numbers.
func TestDiskValidOfAllOrders(t *testing.T) {
	for _, names := range listsOf([]int{-1, 0, 1, 2, 3, 4}, 4) {
		for _, part := range []string{"|", "1|2"} {
			line := ""
			for _, name := range names {
				line += fmt.Sprintf(" %d:%s", name, part)
			}
			if list := diskFrom(line); impl.DiskValid(list) != isDisk(list) {
				t.Errorf("DiskValid of %s is %v", shown(list), !isDisk(list))
			}
		}
	}
}

// Files of all sizes, whose bytes are in one part or in both.
func TestDiskValidOfAllSizes(t *testing.T) {
	for n := range 2*impl.ByteMax + 3 {
		for _, safe := range []int{0, 1, n / 2, n - 1, n} {
			if safe < 0 || safe > n {
				continue
			}
			f := impl.Blob{Name: 2, Safe: repeated(safe, 5), Fresh: repeated(n-safe, 6)}
			for _, list := range [][]impl.Blob{{f}, {{Name: 1}, f}, {f, {Name: 3, Fresh: []int{1}}}} {
				if impl.DiskValid(list) != (n <= 400) {
					t.Errorf("DiskValid of %d and %d bytes is %v", safe, n-safe, n > 400)
				}
			}
		}
	}
}

// Each number near the bytes, and others, at each place of both parts.
func TestDiskValidOfAllBytes(t *testing.T) {
	numbers := slices.Clone(farNumbers)
	for b := -300; b <= 600; b++ {
		numbers = append(numbers, b)
	}
	for _, b := range numbers {
		for k := range 6 {
			all := []int{0, 255, 9, 7, 255, 0}
			all[k] = b
			list := []impl.Blob{{Name: 1, Safe: []int{3}}, {Name: 3, Safe: all[:3], Fresh: all[3:]}}
			if impl.DiskValid(list) != (b >= 0 && b <= 255) {
				t.Errorf("DiskValid of %s is wrong", shown(list))
			}
			_, ok := impl.DiskWrite(nil, 1, all)
			_, fine := impl.DiskRead(list, 1)
			if want := b >= 0 && b <= 255; ok != want || fine != want {
				t.Errorf("DiskWrite of %v is %v, and DiskRead of %s is %v", all, ok, shown(list), fine)
			}
		}
	}
}

func TestDisksOfManyFiles(t *testing.T) {
	bytes, keeps := append(someBytes(), notBytes()[:20]...), append(someKeeps(), notKeeps()[:20]...)
	for i, list := range manyDisks() {
		for k, name := range fileNames {
			// Numbers that no file can have take as long as others, so some of them will do for each disk.
			if k >= 5 && (i+k)%6 > 0 {
				continue
			}
			checkRead(t, list, name)
			checkSync(t, list, name)
			for _, to := range fileNames {
				checkRename(t, list, name, to)
			}
			for j, more := range bytes {
				if len(list) < 2 || (i+j+k)%3 == 0 {
					checkWrite(t, list, name, more)
				}
			}
		}
		for j, keep := range keeps {
			if len(list) < 2 || (i+j)%3 == 0 {
				checkCrash(t, list, keep)
			}
		}
	}
}

// What is no bytes, or very many, is written by no call, whatever the disk and the number are.
func TestDiskWriteOfNoBytes(t *testing.T) {
	lists := append(notBytes(), repeated(100000, 0), repeated(65536, 7))
	for _, list := range append(fewDisks(), notDisks()[:20]...) {
		for _, bytes := range lists {
			for _, name := range []int{1, 2, 3, 0, 4} {
				if got, ok := impl.DiskWrite(list, name, bytes); ok || len(got) > 0 {
					t.Errorf("DiskWrite of %s, %d and %s is %s, %v", shown(list), name, shown(bytes), shown(got), ok)
				}
			}
		}
	}
}

// What no crash can keep is kept by none, whatever the disk is.
func TestDiskCrashOfNoKeep(t *testing.T) {
	for _, list := range append(fewDisks(), notDisks()[:20]...) {
		for _, keep := range notKeeps() {
			if got, ok := impl.DiskCrash(list, keep); ok || len(got) > 0 || isKeep(keep) {
				t.Errorf("DiskCrash of %s and %s is %s, %v", shown(list), shown(keep), shown(got), ok)
			}
		}
	}
}

// Each number of elements, and each element that can be kept, or nearly.
func TestDiskCrashOfAllKeeps(t *testing.T) {
	list := diskFrom("1:5|6,7 2:|400x8 3:100x1|300x2")
	for n := range 300 {
		for _, most := range []int{0, 1, 400} {
			checkCrash(t, list, repeated(n, most))
		}
	}
	for most := -5; most <= 900; most++ {
		for _, keep := range [][]int{{most}, {0, most}, {0, 0, most}, {most, most, most}, {1, most, 1}} {
			checkCrash(t, list, keep)
			checkCrash(t, diskFrom("2:1,2|3"), keep)
			checkCrash(t, nil, keep)
		}
	}
}

// Files that are written to until there is no room: all sizes, with each number of bytes that is near what is left.
func TestDiskWriteOfAllSizes(t *testing.T) {
	for n := range impl.ByteMax + 1 {
		for _, safe := range []int{0, n / 2, n} {
			list := []impl.Blob{{Name: 1, Fresh: repeated(400, 9)}, {Name: 2, Safe: repeated(safe, 5), Fresh: repeated(n-safe, 6)}}
			for more := max(0, 398-n); more <= 402-n; more++ {
				checkWrite(t, list, 2, repeated(more, 7))
				if _, ok := impl.DiskWrite(list, 2, repeated(more, 7)); ok != (n+more <= 400) {
					t.Errorf("DiskWrite of %d bytes behind %d and %d is %v", more, safe, n-safe, ok)
				}
			}
		}
	}
}

// hasNoDisk tells that all functions return nothing and false.
func hasNoDisk(t *testing.T, list []impl.Blob, name int, bytes, keep []int) {
	t.Helper()
	if got, ok := impl.DiskRead(list, name); ok || len(got) > 0 {
		t.Errorf("DiskRead of %s and %d is %s, %v", shown(list), name, shown(got), ok)
	}
	if got, ok := impl.DiskWrite(list, name, bytes); ok || len(got) > 0 {
		t.Errorf("DiskWrite of %s, %d and %s is %s, %v", shown(list), name, shown(bytes), shown(got), ok)
	}
	if got, ok := impl.DiskSync(list, name); ok || len(got) > 0 {
		t.Errorf("DiskSync of %s and %d is %s, %v", shown(list), name, shown(got), ok)
	}
	for to := range 5 {
		if got, ok := impl.DiskRename(list, name, to); ok || len(got) > 0 {
			t.Errorf("DiskRename of %s from %d to %d is %s, %v", shown(list), name, to, shown(got), ok)
		}
	}
	if got, ok := impl.DiskCrash(list, keep); ok || len(got) > 0 {
		t.Errorf("DiskCrash of %s and %s is %s, %v", shown(list), shown(keep), shown(got), ok)
	}
}

func TestInvalidDisks(t *testing.T) {
	for _, list := range notDisks() {
		for k, name := range fileNames[:9] {
			for _, bytes := range [][]int{nil, {5}, {256}} {
				hasNoDisk(t, list, name, bytes, [][]int{nil, {0}, {1, 2, 3}, {400, 400, 400}}[k%4])
			}
		}
	}
}

// Promise 110.
func TestWrittenBytesAreReadBehindOthers(t *testing.T) {
	for _, list := range manyDisks() {
		for name := range 5 {
			for _, bytes := range someBytes() {
				got, ok := impl.DiskWrite(list, name, bytes)
				if !ok {
					continue
				}
				if !impl.DiskValid(got) {
					t.Errorf("DiskWrite of %s, %d and %s is %s", shown(list), name, shown(bytes), shown(got))
				}
				for other := range 5 {
					before, was := impl.DiskRead(list, other)
					if other == name {
						before, was = append(before, bytes...), true
					}
					if after, is := impl.DiskRead(got, other); is != was || !slices.Equal(after, before) {
						t.Errorf("behind DiskWrite of %s, %d and %s, there is %s in %d", shown(list), name, shown(bytes), shown(after), other)
					}
				}
			}
		}
	}
}

// Promises 111 and 112.
func TestSyncedBytesAreSafe(t *testing.T) {
	for _, list := range manyDisks() {
		for name := range 5 {
			got, ok := impl.DiskSync(list, name)
			want, fine := impl.DiskRead(list, name)
			if ok != fine {
				t.Errorf("DiskSync of %s and %d is %v", shown(list), name, ok)
			}
			if !ok {
				continue
			}
			again, fine := impl.DiskSync(got, name)
			isDiskFrom(t, again, fine, got, true, "DiskSync once more of", got, name)
			for _, keep := range [][]int{nil, {}, {0}, {0, 0}, {0, 0, 0}} {
				crash, fine := impl.DiskCrash(got, keep)
				before, _ := impl.DiskRead(got, name)
				after, found := impl.DiskRead(crash, name)
				if !fine || !found || !slices.Equal(before, want) || !slices.Equal(after, want) {
					t.Errorf("DiskRead of %s and %d is %s, and behind a crash %s, not %s", shown(got), name, shown(before), shown(after), shown(want))
				}
			}
			for other := 1; other <= 3; other++ {
				before, was := impl.DiskRead(list, other)
				if after, is := impl.DiskRead(got, other); is != was || !slices.Equal(after, before) {
					t.Errorf("behind DiskSync of %s and %d, there is %s in %d", shown(list), name, shown(after), other)
				}
			}
		}
	}
}

// Promise 113.
func TestRenamedFilesAreTheSame(t *testing.T) {
	for _, list := range manyDisks() {
		for from := range 5 {
			for to := range 5 {
				got, ok := impl.DiskRename(list, from, to)
				want, fine := impl.DiskRead(list, from)
				if ok != (fine && to >= 1 && to <= 3) {
					t.Errorf("DiskRename of %s from %d to %d is %v", shown(list), from, to, ok)
				}
				if !ok {
					continue
				}
				if bytes, found := impl.DiskRead(got, to); !found || !slices.Equal(bytes, want) || !impl.DiskValid(got) {
					t.Errorf("behind DiskRename of %s from %d to %d, there is %s", shown(list), from, to, shown(got))
				}
				if bytes, found := impl.DiskRead(got, from); from != to && (found || len(bytes) > 0) {
					t.Errorf("behind DiskRename of %s from %d to %d, there is still %s", shown(list), from, to, shown(bytes))
				}
				for other := 1; other <= 3; other++ {
					before, was := impl.DiskRead(list, other)
					if after, is := impl.DiskRead(got, other); other != from && other != to && (is != was || !slices.Equal(after, before)) {
						t.Errorf("behind DiskRename of %s from %d to %d, there is %s in %d", shown(list), from, to, shown(after), other)
					}
				}
			}
		}
	}
}

// Promise 118.
func TestRenamedFilesAreRenamedBack(t *testing.T) {
	for _, list := range manyDisks() {
		for from := range 5 {
			for to := range 5 {
				got, ok := impl.DiskRename(list, from, to)
				if _, taken := impl.DiskRead(list, to); !ok || taken && from != to {
					continue
				}
				back, fine := impl.DiskRename(got, to, from)
				isDiskFrom(t, back, fine, list, true, "DiskRename and back of", list, from, to)
			}
		}
	}
}

// Promises 114 and 115.
func TestCrashesKeepTheFirstBytes(t *testing.T) {
	for i, list := range manyDisks() {
		for j, keep := range someKeeps() {
			if (i+j)%5 != 0 {
				continue
			}
			got, ok := impl.DiskCrash(list, keep)
			if !ok || len(got) != len(list) || !impl.DiskValid(got) {
				t.Errorf("DiskCrash of %s and %v is %s, %v", shown(list), keep, shown(got), ok)
				continue
			}
			for k, f := range list {
				kept := 0
				if f.Name <= len(keep) {
					kept = min(keep[f.Name-1], len(f.Fresh))
				}
				want := impl.Blob{Name: f.Name, Safe: slices.Concat(f.Safe, f.Fresh[:kept])}
				if !sameFile(got[k], want) {
					t.Errorf("DiskCrash of %s and %v has %s, not %s", shown(list), keep, shown(got[k]), shown(want))
				}
			}
			for _, more := range [][]int{nil, {0}, {400, 400, 400}, {1, 0, 2}, keep} {
				again, fine := impl.DiskCrash(got, more)
				isDiskFrom(t, again, fine, got, true, "DiskCrash once more of", got, more)
			}
		}
	}
}

// Promise 116.
func TestBytesWrittenInTwoParts(t *testing.T) {
	for _, list := range fewDisks() {
		for name := range 5 {
			for _, bytes := range someBytes() {
				whole, ok := impl.DiskWrite(list, name, bytes)
				if !ok {
					continue
				}
				for _, k := range []int{0, 1, 2, len(bytes) / 2, len(bytes) - 1, len(bytes)} {
					if k < 0 || k > len(bytes) {
						continue
					}
					first, ok := impl.DiskWrite(list, name, bytes[:k])
					both, fine := impl.DiskWrite(first, name, bytes[k:])
					isDiskFrom(t, both, ok && fine, whole, true, "DiskWrite in two parts of", list, name, bytes[:k], bytes[k:])
				}
			}
		}
	}
}

// Promise 117.
func TestDisksWithoutOneFileAndWithOneTwice(t *testing.T) {
	for _, list := range manyDisks() {
		if !impl.DiskValid(list) {
			t.Errorf("DiskValid of %s does not hold", shown(list))
		}
		for k, f := range list {
			if fewer := slices.Delete(slices.Clone(list), k, k+1); !impl.DiskValid(fewer) {
				t.Errorf("DiskValid of %s does not hold", shown(fewer))
			}
			for at := range len(list) + 1 {
				for _, twice := range []impl.Blob{f, {Name: f.Name}} {
					if more := slices.Insert(slices.Clone(list), at, twice); impl.DiskValid(more) {
						t.Errorf("DiskValid of %s holds", shown(more))
					}
				}
			}
		}
	}
}
