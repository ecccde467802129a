package tests

import (
	"fmt"
	"math/rand"
	"slices"
	"testing"

	"loop.example/filereconciler/impl"
)

func TestFrameConstants(t *testing.T) {
	if impl.BodyMax != 16 || impl.SumBase != 251 {
		t.Errorf("BodyMax is %d, SumBase is %d", impl.BodyMax, impl.SumBase)
	}
}

func TestBodySumTable(t *testing.T) {
	rows := []struct {
		body []int
		sum  int
	}{
		{[]int{0}, 217}, {[]int{1}, 218}, {[]int{5}, 222}, {[]int{33}, 250}, {[]int{34}, 0}, {[]int{35}, 1},
		{[]int{250}, 216}, {[]int{251}, 217}, {[]int{254}, 220}, {[]int{255}, 221},
		{[]int{1, 2}, 234}, {[]int{2, 1}, 13}, {[]int{0, 0}, 201}, {[]int{34, 0}, 0}, {[]int{34, 255}, 4}, {[]int{255, 255}, 78},
	}
	for _, r := range rows {
		if got := impl.BodySum(r.body); got != r.sum || plainSum(r.body) != r.sum {
			t.Errorf("BodySum(%v) is %d, not %d or %d", r.body, got, r.sum, plainSum(r.body))
		}
	}
}

func TestSumsAndFramesOfManyBodies(t *testing.T) {
	for _, body := range manyBodies() {
		if got := impl.BodySum(body); got != plainSum(body) {
			t.Errorf("BodySum(%v) is %d, not %d", body, got, plainSum(body))
		}
		if got := impl.FrameOf(body); !slices.Equal(got, plainFrame(body)) {
			t.Errorf("FrameOf(%v) is %v", body, got)
		}
		if got, ok := impl.FramesOf([][]int{body}); !ok || !slices.Equal(got, plainFrame(body)) {
			t.Errorf("FramesOf(%v) alone is %v, %v", body, got, ok)
		}
	}
}

func TestInvalidBodies(t *testing.T) {
	for _, list := range notBodies() {
		if got := impl.BodySum(list); got != -1 {
			t.Errorf("BodySum(%s) is %d", shown(list), got)
		}
		if got := impl.FrameOf(list); len(got) > 0 {
			t.Errorf("FrameOf(%s) is %v", shown(list), shown(got))
		}
		if got, ok := impl.FramesOf([][]int{list}); ok || len(got) > 0 {
			t.Errorf("FramesOf(%s) alone is %s, %v", shown(list), shown(got), ok)
		}
		frame := plainFrame(list)
		if bodies, used := impl.FramesScan(frame); len(bodies) > 0 || used != 0 {
			t.Errorf("FramesScan(%s) is %s, %d", shown(frame), shown(bodies), used)
		}
	}
}

func TestLengthsOfBodies(t *testing.T) {
	for n := range 40 {
		list := repeated(n, n)
		valid := n >= 1 && n <= impl.BodyMax
		if got := impl.BodySum(list); (got != -1) != valid {
			t.Errorf("BodySum of %d bytes is %d", n, got)
		}
		if got := impl.FrameOf(list); (len(got) > 0) != valid {
			t.Errorf("FrameOf of %d bytes is %v", n, got)
		}
		bodies, used := impl.FramesScan(plainFrame(list))
		if valid && (used != n+2 || !sameBodies(bodies, [][]int{list})) || !valid && (used != 0 || len(bodies) > 0) {
			t.Errorf("FramesScan of %d bytes in a frame is %v, %d", n, bodies, used)
		}
	}
}

func TestBytesOfBodies(t *testing.T) {
	for b := -600; b <= 600; b++ {
		for _, list := range [][]int{{b}, {b, 0}, {255, b}, append(repeated(15, 1), b)} {
			if got := impl.BodySum(list); (got != -1) != (b >= 0 && b <= 255) {
				t.Errorf("BodySum(%v) is %d", list, got)
			}
		}
	}
}

// sumDiffers checks promise 23 for each byte of a body.
func sumDiffers(t *testing.T, body []int) {
	sum := impl.BodySum(body)
	if sum < 0 || sum > impl.SumBase-1 {
		t.Errorf("BodySum(%v) is %d", body, sum)
	}
	for i, b := range body {
		other := slices.Clone(body)
		other[i] = b + 1
		if b == 255 {
			other[i] = 254
		}
		if got := impl.BodySum(other); got == sum || got < 0 || got > impl.SumBase-1 {
			t.Errorf("BodySum(%v) is %d, and that of %v is %d", other, got, body, sum)
		}
	}
}

// Promise 23.
func TestSumTellsTheNextByte(t *testing.T) {
	for _, body := range manyBodies() {
		sumDiffers(t, body)
	}
	for a := range 256 {
		for b := range 256 {
			sumDiffers(t, []int{a, b})
		}
	}
	for _, list := range notBodies() {
		if got := impl.BodySum(list); got != -1 {
			t.Errorf("BodySum(%s) is %d", shown(list), got)
		}
	}
}

// Promise 24.
func TestScanOfAFrameIsTheBody(t *testing.T) {
	for _, body := range append(manyBodies(), notBodies()...) {
		frame := impl.FrameOf(body)
		if (len(frame) > 0) != isBody(body) {
			t.Errorf("FrameOf(%s) is %v", shown(body), frame)
		}
		if len(frame) == 0 {
			continue
		}
		if bodies, used := impl.FramesScan(frame); used != len(frame) || !sameBodies(bodies, [][]int{body}) {
			t.Errorf("FramesScan(%v) is %v, %d", frame, bodies, used)
		}
	}
}

// countsOfBodies returns lists of 0 to 40 bodies.
func countsOfBodies() [][][]int {
	r := rand.New(rand.NewSource(8))
	lists := [][][]int{nil, {}, make([][]int, 0, 3)}
	for i := range 200 {
		lists = append(lists, grownBodies(r, i%41))
	}
	return append(lists, slices.Repeat([][]int{{0}}, 40), slices.Repeat([][]int{repeated(16, 255)}, 40), grownBodies(r, 40))
}

// Promise 25.
func TestScanOfFramesIsTheBodies(t *testing.T) {
	for _, bodies := range countsOfBodies() {
		list, ok := impl.FramesOf(bodies)
		if !ok || !slices.Equal(list, plainFrames(bodies)) {
			t.Errorf("FramesOf(%v) is %v, %v", bodies, list, ok)
		}
		if got, used := impl.FramesScan(list); used != len(list) || !sameBodies(got, bodies) {
			t.Errorf("FramesScan(%v) is %v, %d", list, got, used)
		}
	}
}

func TestHowManyBodiesThereCanBe(t *testing.T) {
	for n := range 60 {
		bodies := slices.Repeat([][]int{{5}}, n)
		list, ok := impl.FramesOf(bodies)
		if want := n <= 40; ok != want || ok && len(list) != 3*n || !ok && len(list) > 0 {
			t.Errorf("FramesOf of %d bodies is %v, %v", n, list, ok)
		}
	}
	for _, bodies := range [][][]int{make([][]int, 41), make([][]int, 100000), slices.Repeat([][]int{{5}}, 100000)} {
		if list, ok := impl.FramesOf(bodies); ok || len(list) > 0 {
			t.Errorf("FramesOf of %d bodies is %s, %v", len(bodies), shown(list), ok)
		}
	}
}

func TestFramesOfWithAnInvalidBody(t *testing.T) {
	r := rand.New(rand.NewSource(9))
	for _, invalid := range notBodies() {
		for _, n := range []int{1, 2, 3, 39, 40, 41} {
			for _, at := range []int{0, n / 2, n - 1} {
				bodies := grownBodies(r, n)
				bodies[at] = invalid
				if list, ok := impl.FramesOf(bodies); ok || len(list) > 0 {
					t.Errorf("FramesOf of %d bodies with %s at %d is %s, %v", n, shown(invalid), at, shown(list), ok)
				}
			}
		}
	}
}

// Promise 26.
func TestScanWithoutTheLastNumber(t *testing.T) {
	for _, bodies := range countsOfBodies() {
		list, ok := impl.FramesOf(bodies)
		if !ok || len(bodies) == 0 {
			continue
		}
		before := bodies[:len(bodies)-1]
		if got, used := impl.FramesScan(list[:len(list)-1]); used != len(plainFrames(before)) || !sameBodies(got, before) {
			t.Errorf("FramesScan(%v) is %v, %d", list[:len(list)-1], got, used)
		}
	}
}

// Promise 30.
func TestFramesOfTheFirstAndTheOthers(t *testing.T) {
	for _, bodies := range countsOfBodies() {
		list, ok := impl.FramesOf(bodies)
		for k := range len(bodies) + 1 {
			first, fine := impl.FramesOf(bodies[:k])
			others, good := impl.FramesOf(bodies[k:])
			if !ok || !fine || !good || !slices.Equal(list, slices.Concat(first, others)) {
				t.Errorf("FramesOf(%v) is %v, and with %d apart it is %v and %v", bodies, list, k, first, others)
			}
		}
	}
}

// Calls change neither bodies, nor what is behind them, nor each other's results.
func TestFramesShareNoMemory(t *testing.T) {
	for _, body := range append(manyBodies(), notBodies()...) {
		list, array := marked(body)
		before := slices.Clone(array)
		impl.BodySum(list)
		first, second := impl.FrameOf(list), impl.FrameOf(list)
		overwrite(first)
		if isBody(body) && !slices.Equal(second, plainFrame(body)) {
			t.Errorf("FrameOf(%v) is %v", body, second)
		}
		if !slices.Equal(array, before) {
			t.Errorf("%s has changed: %s", shown(before), shown(array))
		}
	}
}

// Here the bodies are parts of one array, so that a body's spare capacity is the next one.
func TestFramesOfSharesNoMemory(t *testing.T) {
	for _, parts := range countsOfBodies() {
		list, array := marked(slices.Concat(parts...))
		outer := slices.Repeat([][]int{{mark}}, len(parts)+5)
		bodies := outer[:len(parts)]
		at := 0
		for i, part := range parts {
			bodies[i] = list[at : at+len(part)]
			at += len(part)
		}
		before, text := slices.Clone(array), fmt.Sprint(outer)
		first, _ := impl.FramesOf(bodies)
		second, _ := impl.FramesOf(bodies)
		overwrite(first)
		if !slices.Equal(second, plainFrames(parts)) {
			t.Errorf("FramesOf(%v) is %v", parts, second)
		}
		if !slices.Equal(array, before) || fmt.Sprint(outer) != text {
			t.Errorf("%v has changed: %v", parts, outer)
		}
	}
}
