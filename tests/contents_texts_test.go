package tests

import (
	"math"
	"regexp"
	"strconv"
	"strings"

	"loop.example/filereconciler/impl"
)

// validContents returns all contents that are valid: nothing, a directory, and a file with each value.
func validContents() []impl.Content {
	list := []impl.Content{{Kind: 0}, {Kind: 1}}
	for value := range 100 {
		list = append(list, impl.Content{Kind: 2, Value: value})
	}
	return list
}

// manyContents returns contents of all kinds and of numbers that are no kind, with values in and out of range.
func manyContents() []impl.Content {
	values := []int{math.MinInt, math.MinInt + 1, math.MinInt32, math.MaxInt32, math.MaxInt - 1, math.MaxInt}
	for value := -300; value <= 300; value++ {
		values = append(values, value)
	}
	var list []impl.Content
	for _, kind := range []int{math.MinInt, math.MinInt + 2, -3, -2, -1, 0, 1, 2, 3, 4, 100, 255, 256, 257, 258, math.MaxInt} {
		for _, value := range values {
			list = append(list, impl.Content{Kind: kind, Value: value})
		}
	}
	return list
}

// isContent tells without ContentValid whether a content is valid.
func isContent(c impl.Content) bool {
	value := c.Value
	if c.Kind == 2 {
		return 0 <= value && value <= 99
	}
	return (c.Kind == 0 || c.Kind == 1) && value == 0
}

var contentShape = regexp.MustCompile(`^(-|d|f(0|[1-9][0-9]?))$`)

// isContentText tells from the shape alone whether a text is that of a content.
func isContentText(s string) bool {
	return contentShape.MatchString(s)
}

// notContents holds texts that are close to those of contents, and are none.
var notContents = []string{
	"", "f", "F1", "F", "D", "n", "0", "1", "12", "-0", "-1", "+", "--", "dd", "-d", "d-", "d0", "d1", "df1", "f1d", "ff", "ff1", "f1f1",
	"f00", "f000", "f01", "f09", "f012", "f001", "f099", "f0099", "f010",
	"f-1", "f-0", "f--1", "f+1", "f+0", "f+99", "f100", "f101", "f110", "f199", "f999", "f1000",
	"f 1", "f1 ", "f 0", "f1 2", " f1", " d", "d ", " -", "- ", "f\t1", "f1\t", "f1\n", "d\n", "-\n", "\nf1", "f1\r\n", "f1\v", "f\u00a01",
	"f\x00", "f1\x00", "\x00f1", "d\x00", "-\x00", "\x00d", "\xff", "f\xff", "f1\xff", "f\x80", "f\xb1", "d\x80",
	"f/", "f:", "f1/", "f1:", "fa", "f1a", "f1.", "f1.0", "f.1", "f1e1", "f0x1", "f0b1", "f0o1", "f1_0", "f_1", "f1_", "f1,0", "f'1'",
	"f\u0661", "f\uff11", "f\u00b2", "\u2212", "\u2013", "\uff44", "\u0501",
	"f2147483648", "f4294967296", "f4294967297", "f4294967395", "f9223372036854775807", "f9223372036854775808",
	"f18446744073709551616", "f18446744073709551617", "f18446744073709551715", "f-9223372036854775808",
	"f-18446744073709551615", "f340282366920938463463374607431768211457",
	"f" + strings.Repeat("0", 100000), "f" + strings.Repeat("0", 100000) + "1", "f" + strings.Repeat("9", 100000),
	"f1" + strings.Repeat("0", 100000), "f1" + strings.Repeat(" ", 100000), strings.Repeat("f", 100000), strings.Repeat("-", 100000),
}

// contentTexts returns texts of contents, near misses, all short texts of two alphabets
// (one with the bytes just outside the digits), and all numbers of up to 3 digits behind an f, with signs and zeros.
func contentTexts() []string {
	list := append([]string{}, notContents...)
	list = append(list, textsOf("-df019 +", 4)...)
	list = append(list, textsOf("f5/:\x00\xff", 5)...)
	for number := range 1000 {
		digits := strconv.Itoa(number)
		for _, beginning := range []string{"f", "f0", "f00", "f-", "f+", "", "d", "-", "F", "f "} {
			list = append(list, beginning+digits)
		}
	}
	for _, c := range validContents() {
		text := impl.ContentText(c)
		for b := range 256 {
			one := string([]byte{byte(b)})
			list = append(list, one, one+text, text+one)
		}
	}
	return list
}
