package tests

import (
	"math"
	"math/rand"
	"slices"
	"testing"

	"loop.example/filereconciler/impl"
)

func TestFramesScanTable(t *testing.T) {
	rows := []struct {
		list   []int
		bodies [][]int
		used   int
	}{
		{nil, nil, 0}, {[]int{}, nil, 0}, {make([]int, 0, 9), nil, 0},
		{[]int{1, 5, 222}, [][]int{{5}}, 3}, {[]int{1, 34, 0}, [][]int{{34}}, 3}, {[]int{2, 1, 2, 234}, [][]int{{1, 2}}, 4},
		{[]int{1, 5, 222, 2, 1, 2, 234}, [][]int{{5}, {1, 2}}, 7},
		{[]int{1, 5, 222, 2, 1, 2}, [][]int{{5}}, 3}, {[]int{1, 5, 222, 2, 1}, [][]int{{5}}, 3}, {[]int{1, 5, 222, 2}, [][]int{{5}}, 3},
		{[]int{1, 5}, nil, 0}, {[]int{1}, nil, 0}, {[]int{0}, nil, 0}, {[]int{5}, nil, 0}, {[]int{-1}, nil, 0},
		{[]int{1, 5, 223}, nil, 0}, {[]int{1, 5, 221}, nil, 0}, {[]int{1, 5, 223, 1, 5, 222}, nil, 0},
		{[]int{1, 5, 222, 1, 5, 221, 1, 5, 222}, [][]int{{5}}, 3},

		// A frame that is not at its place is not looked for.
		{[]int{2, 1, 5, 222}, nil, 0}, {[]int{0, 1, 5, 222}, nil, 0}, {[]int{3, 1, 5, 222, 2}, nil, 0},
		{[]int{1, 5, 222, 0, 1, 5, 222}, [][]int{{5}}, 3},
		// A frame can be the body of another one.
		{[]int{3, 1, 5, 222, plainSum([]int{1, 5, 222})}, [][]int{{1, 5, 222}}, 5},
	}
	for _, r := range rows {
		if got, used := impl.FramesScan(r.list); used != r.used || !sameBodies(got, r.bodies) {
			t.Errorf("FramesScan(%v) is %v, %d, not %v, %d", r.list, got, used, r.bodies, r.used)
		}
	}
}

// scanReturns checks FramesScan of what is behind some frames: these frames are returned, and nothing else.
func scanReturns(t *testing.T, what string, bodies [][]int, behind []int) {
	t.Helper()
	frames := plainFrames(bodies)
	list := slices.Concat(frames, behind)
	if got, used := impl.FramesScan(list); used != len(frames) || !sameBodies(got, bodies) {
		t.Errorf("%s behind %d frames: FramesScan(%s) is %s, %d", what, len(bodies), shown(list), shown(got), used)
	}
}

// A frame of each length, cut behind each of its numbers, alone and as the last of several.
func TestFramesThatAreCut(t *testing.T) {
	r := rand.New(rand.NewSource(10))
	for _, ahead := range []int{0, 1, 2, 10, 39, 40, 41, 100} {
		for n := 1; n <= impl.BodyMax; n++ {
			bodies, frame := grownBodies(r, ahead), plainFrame(grownBody(r, n))
			for k := range len(frame) {
				scanReturns(t, "a frame that is cut", bodies, frame[:k])
			}
		}
	}
}

func TestNumbersThatAreNoFrame(t *testing.T) {
	r := rand.New(rand.NewSource(11))
	for what, list := range notFrames() {
		if bodies, used := scanOf(list); used > 0 {
			t.Fatalf("%s: %v is a frame of %v", what, list, bodies)
		}
		for _, ahead := range []int{0, 1, 2, 41} {
			bodies := grownBodies(r, ahead)
			scanReturns(t, what, bodies, list)
			scanReturns(t, what+", with a frame behind", bodies, slices.Concat(list, plainFrame([]int{5})))
			scanReturns(t, what+", with frames behind", bodies, slices.Concat(list, plainFrames(grownBodies(r, 3))))
		}
	}
}

// A length that is larger than what is left, by one or by far.
func TestLengthsThatAreTooLarge(t *testing.T) {
	r := rand.New(rand.NewSource(12))
	for n := 1; n <= impl.BodyMax; n++ {
		for _, ahead := range []int{0, 1, 5} {
			frame := plainFrame(grownBody(r, n))
			bodies := grownBodies(r, ahead)
			for _, length := range []int{n + 1, n + 2, n + 3, 16, 17, 255, 256, 1 << 32, 1<<32 + n, math.MaxInt - 1, math.MaxInt} {
				if length != n {
					scanReturns(t, "a length that is too large", bodies, slices.Concat([]int{length}, frame[1:]))
				}
			}
		}
	}
}

// The bytes and the sum of a body behind a length of 0 or less.
func TestLengthsThatAreBelowOne(t *testing.T) {
	r := rand.New(rand.NewSource(13))
	for n := 1; n <= impl.BodyMax; n++ {
		frame := plainFrame(grownBody(r, n))
		for _, length := range []int{0, -1, -n, -n - 1, -n - 2, -16, -256, math.MinInt, math.MinInt + n} {
			for _, ahead := range []int{0, 1, 5} {
				scanReturns(t, "a length that is too small", grownBodies(r, ahead), slices.Concat([]int{length}, frame[1:]))
			}
		}
	}
}

func TestManyFrames(t *testing.T) {
	r := rand.New(rand.NewSource(14))
	for _, n := range []int{39, 40, 41, 42, 80, 81, 1000, 5000} {
		bodies := grownBodies(r, n)
		for _, tail := range tailLists() {
			scanReturns(t, "the end", bodies, tail)
		}
	}
	scanReturns(t, "the end", slices.Repeat([][]int{{0}}, 100000), []int{1, 0})
	for _, n := range []int{-1, 0, 1, 16, 17, 1000} {
		scanReturns(t, "the same number all along", nil, repeated(100000, n))
	}
}

func TestScanByAnotherWay(t *testing.T) {
	found := 0
	for _, list := range manyLists() {
		want, count := scanOf(list)
		if got, used := impl.FramesScan(list); used != count || !sameBodies(got, want) {
			t.Errorf("FramesScan(%v) is %v, %d, not %v, %d", list, got, used, want, count)
		}
		if len(want) > 1 && count < len(list) {
			found++
		}
	}
	if found < 500 {
		t.Errorf("only %d lists have several frames and something behind them", found)
	}
}

// Promise 27.
func TestScannedBodiesMakeWhatIsUsed(t *testing.T) {
	for _, list := range manyLists() {
		bodies, used := impl.FramesScan(list)
		if used < 0 || used > len(list) {
			t.Fatalf("FramesScan(%v) is %v, %d", list, bodies, used)
		}
		var frames []int
		for _, body := range bodies {
			frame := impl.FrameOf(body)
			if len(frame) == 0 {
				t.Errorf("FramesScan(%v) returns %v", list, body)
			}
			frames = append(frames, frame...)
		}
		if !slices.Equal(frames, list[:used]) {
			t.Errorf("FramesScan(%v) is %v, %d", list, bodies, used)
		}
	}
}

// Promise 28.
func TestScanOfTheFirstNumbers(t *testing.T) {
	for _, list := range manyLists() {
		all, used := impl.FramesScan(list)
		most := 0
		for k := range len(list) + 1 {
			first, count := impl.FramesScan(list[:k])
			if len(first) > len(all) || !sameBodies(first, all[:len(first)]) || count > used || len(first) < most {
				t.Errorf("FramesScan of the first %d numbers of %v is %v, %d", k, list, first, count)
			}
			most = len(first)
		}
		if most != len(all) {
			t.Errorf("FramesScan(%v) is %v, then only %d bodies", list, all, most)
		}
	}
}

// Promise 29.
func TestScanWithAFurtherFrame(t *testing.T) {
	r := rand.New(rand.NewSource(15))
	for _, list := range manyLists() {
		bodies, used := impl.FramesScan(list)
		further := grownBody(r, 1+r.Intn(impl.BodyMax))
		longer := slices.Concat(list[:used], impl.FrameOf(further))
		got, count := impl.FramesScan(longer)
		if count != len(longer) || len(longer) != used+len(further)+2 || !sameBodies(got, append(slices.Clone(bodies), further)) {
			t.Errorf("FramesScan(%v) is %v, %d", longer, got, count)
		}
	}
}

// A call changes neither the numbers, nor what is behind them; each body has memory of its own.
func TestFramesScanSharesNoMemory(t *testing.T) {
	r := rand.New(rand.NewSource(16))
	for i := range 300 {
		bodies := grownBodies(r, i%50)
		list, array := marked(slices.Concat(plainFrames(bodies), tailLists()[i%14]))
		before := slices.Clone(array)
		first, used := impl.FramesScan(list)
		second, _ := impl.FramesScan(list)
		if used != len(plainFrames(bodies)) || !sameBodies(first, bodies) {
			t.Errorf("FramesScan(%v) is %v, %d", list, first, used)
		}
		for k := range first {
			overwrite(first[k])
			copy(first[k], bodies[k])
			if !sameBodies(first, bodies) {
				t.Errorf("FramesScan(%v): body %d shares its memory with another one", before, k)
			}
		}
		for k := range first {
			overwrite(first[k])
		}
		if !slices.Equal(array, before) || !sameBodies(second, bodies) {
			t.Errorf("%v has changed: %v, with bodies %v", before, array, second)
		}
		// Nothing of an earlier call is kept, either.
		if third, _ := impl.FramesScan(list); !sameBodies(third, bodies) {
			t.Errorf("FramesScan(%v) is %v", before, third)
		}
	}
}
