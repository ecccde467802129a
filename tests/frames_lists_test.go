package tests

import (
	"fmt"
	"math"
	"math/big"
	"math/rand"
	"slices"

	"loop.example/filereconciler/impl"
)

// isBody tells without BodySum whether numbers are a body.
func isBody(list []int) bool {
	for _, b := range list {
		if b < 0 || b > 255 {
			return false
		}
	}
	return len(list) >= 1 && len(list) <= 16
}

// plainSum is the sum of any numbers, bodies or not, by powers of 31: 7 has been multiplied once for each number, and each number once for each one behind it.
func plainSum(list []int) int {
	base := big.NewInt(251)
	sum := new(big.Int)
	add := func(number, times int) {
		power := new(big.Int).Exp(big.NewInt(31), big.NewInt(int64(times)), base)
		sum.Add(sum, power.Mul(power, big.NewInt(int64(number))))
	}
	add(7, len(list))
	for i, b := range list {
		add(b, len(list)-1-i)
	}
	return int(sum.Mod(sum, base).Int64())
}

// plainFrame is the frame of any numbers, bodies or not.
func plainFrame(list []int) []int {
	return slices.Concat([]int{len(list)}, list, []int{plainSum(list)})
}

func plainFrames(bodies [][]int) []int {
	var list []int
	for _, body := range bodies {
		list = append(list, plainFrame(body)...)
	}
	return list
}

// scanOf is FramesScan by another way: a frame of each length is made and held against the list.
func scanOf(list []int) ([][]int, int) {
	for n := 1; n <= 16 && n+2 <= len(list); n++ {
		body := list[1 : n+1]
		if list[0] == n && isBody(body) && slices.Equal(list[:n+2], plainFrame(body)) {
			bodies, used := scanOf(list[n+2:])
			return append([][]int{body}, bodies...), n + 2 + used
		}
	}
	return nil, 0
}

func sameBodies(a, b [][]int) bool {
	return slices.EqualFunc(a, b, slices.Equal[[]int])
}

// shown is the text of a value, cut where it becomes too long to be read.
func shown(value any) string {
	return fmt.Sprintf("%.300s", fmt.Sprint(value))
}

func repeated(n, b int) []int {
	return slices.Repeat([]int{b}, n)
}

// grownBody returns a body of any bytes, of which many are at the ends of the range.
func grownBody(r *rand.Rand, n int) []int {
	body := make([]int, n)
	for i := range body {
		body[i] = r.Intn(256)
		if r.Intn(3) == 0 {
			body[i] = []int{0, 1, 34, 250, 251, 254, 255}[r.Intn(7)]
		}
	}
	return body
}

func grownBodies(r *rand.Rand, n int) [][]int {
	var bodies [][]int
	for range n {
		bodies = append(bodies, grownBody(r, 1+r.Intn(16)))
	}
	return bodies
}

// manyBodies returns all bodies of one byte, and bodies of each length: of equal bytes, and of any ones.
func manyBodies() [][]int {
	var bodies [][]int
	for b := range 256 {
		bodies = append(bodies, []int{b})
	}
	r := rand.New(rand.NewSource(6))
	for n := 1; n <= 16; n++ {
		for _, b := range []int{0, 1, 7, 31, 127, 128, 250, 251, 254, 255} {
			bodies = append(bodies, repeated(n, b))
		}
		for range 40 {
			bodies = append(bodies, grownBody(r, n))
		}
	}
	return bodies
}

// farNumbers are no bytes. Some become bytes, or have the sum of one, if they are made smaller.
var farNumbers = []int{
	-1, -2, -251, -256, 256, 257, 251 + 251, 1000, 1 << 16, 1<<32 + 5, -1 << 32,
	math.MaxInt32, math.MinInt32, math.MaxInt, math.MaxInt - 1, math.MinInt, math.MinInt + 1,
}

// notBodies returns lists of numbers that are no bodies.
func notBodies() [][]int {
	lists := [][]int{nil, {}, make([]int, 0, 5), repeated(17, 0), repeated(17, 5), repeated(18, 1), repeated(256, 0), repeated(257, 255), repeated(100000, 1)}
	for _, far := range farNumbers {
		for _, n := range []int{1, 2, 3, 15, 16, 17} {
			for _, at := range []int{0, n / 2, n - 1} {
				list := repeated(n, 9)
				list[at] = far
				lists = append(lists, list)
			}
			lists = append(lists, repeated(n, far))
		}
	}
	return lists
}

// listsOf returns every list of at most n numbers of a few.
func listsOf(numbers []int, n int) [][]int {
	lists, longest := [][]int{nil}, [][]int{nil}
	for range n {
		var next [][]int
		for _, list := range longest {
			for _, b := range numbers {
				next = append(next, append(slices.Clone(list), b))
			}
		}
		lists, longest = append(lists, next...), next
	}
	return lists
}

// disturbed returns a list with one number changed, left out or put in, or with its end cut off.
func disturbed(r *rand.Rand, list []int) []int {
	list = slices.Clone(list)
	if len(list) == 0 {
		return list
	}
	at := r.Intn(len(list))
	values := append([]int{0, 1, 2, 16, 17, 250, 251, 255}, farNumbers...)
	switch r.Intn(6) {
	case 0:
		list[at]++
	case 1:
		list[at]--
	case 2:
		list[at] = values[r.Intn(len(values))]
	case 3:
		return slices.Delete(list, at, at+1)
	case 4:
		return slices.Insert(list, at, values[r.Intn(len(values))])
	case 5:
		return list[:at]
	}
	return list
}

// manyLists returns frames one behind the other, the same ones disturbed, and short lists of a few numbers.
func manyLists() [][]int {
	lists := listsOf([]int{-1, 0, 1, 34, 217}, 6)
	lists = append(lists, listsOf([]int{-1, 0, 1, 2, 7, 34, 35, 217, 251}, 4)...)
	r := rand.New(rand.NewSource(7))
	for i := range 1500 {
		list := plainFrames(grownBodies(r, i%7))
		lists = append(lists, list, disturbed(r, list), disturbed(r, disturbed(r, list)))
	}
	for i := range 20 {
		list := plainFrames(grownBodies(r, 38+i%7))
		lists = append(lists, list, disturbed(r, list))
	}
	return lists
}

// notFrames returns numbers that do not begin with a frame, whatever comes behind them, by what is wrong with them.
func notFrames() map[string][]int {
	lists := map[string][]int{
		"the sum of no bytes":           {0, 7},
		"no bytes and no sum":           {0, -1},
		"no bytes and the sum 0":        {0, 0},
		"a length below 0":              {-1, 7},
		"a length below 0, sum -1":      {-1, -1},
		"a length below 0, with a body": {-1, 5, 222},
		"17 bytes":                      plainFrame(repeated(17, 3)),
		"17 bytes and the sum -1":       slices.Concat([]int{17}, repeated(17, 3), []int{-1}),
		"256 bytes":                     plainFrame(repeated(256, 3)),
		"only the first sum":            {1, 5, 7},
		"the sum of the length, too":    {1, 5, plainSum([]int{1, 5})},
		"the byte and the sum changed":  {1, 222, 5},
		"the bytes in other order":      {2, 2, 1, plainSum([]int{1, 2})},
		"a frame of a sum of 0, -251":   {1, 34, -251},
	}
	for _, far := range farNumbers {
		name := fmt.Sprint(far)
		lists["the length "+name] = []int{far, 5, 222}
		lists["the byte "+name] = []int{1, far, plainSum([]int{far})}
		lists["the byte with the sum -1 "+name] = []int{1, far, -1}
		lists["the second byte "+name] = plainFrame([]int{5, far})
		lists["the second of three bytes "+name] = plainFrame([]int{5, far, 5})
		lists["the last of 16 bytes "+name] = plainFrame(append(repeated(15, 9), far))
		lists["the sum "+name] = []int{1, 5, far}
	}
	for _, body := range [][]int{{5}, {34}, {33}, {0}, {255}, {1, 2}, repeated(16, 0), repeated(16, 255)} {
		frame := plainFrame(body)
		for _, more := range []int{1, -1, impl.SumBase, -impl.SumBase, 256, 2 * impl.SumBase, 100 * impl.SumBase} {
			other := slices.Clone(frame)
			other[len(other)-1] += more
			lists[fmt.Sprintf("the sum of %v, and %d", body, more)] = other
		}
	}
	return lists
}

// tailLists returns what can stand behind the last frame without making a further one.
func tailLists() [][]int {
	return [][]int{nil, {1}, {1, 5}, {16}, {2, 1, 2}, {17}, {0}, {-1}, {256}, {math.MaxInt}, {math.MinInt}, {1, 5, 221}, {1, 5, 221, 1, 5, 222}, {0, 1, 5, 222}, repeated(1000, 0), repeated(1000, -1)}
}

const mark = 7777

// marked returns numbers in front of spare capacity that is filled with marks, and the whole array.
func marked(list []int) ([]int, []int) {
	array := append(slices.Clone(list), repeated(40, mark)...)
	return array[:len(list)], array
}

// overwrite fills numbers and their spare capacity.
func overwrite(list []int) {
	list = list[:cap(list)]
	for i := range list {
		list[i] = -mark
	}
}
