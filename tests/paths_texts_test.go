package tests

import (
	"path"
	"regexp"
	"strings"
)

// allPaths returns the root and every path of 1 to 4 names.
func allPaths() []string {
	list := []string{"/"}
	longest := []string{""}
	for range 4 {
		var next []string
		for _, p := range longest {
			for _, name := range []string{"a", "b", "c", "d"} {
				next = append(next, p+"/"+name)
			}
		}
		list = append(list, next...)
		longest = next
	}
	return list
}

// textsOf returns every text of at most n bytes of an alphabet, the empty one first.
func textsOf(alphabet string, n int) []string {
	list := []string{""}
	longest := list
	for range n {
		var next []string
		for _, s := range longest {
			for i := range len(alphabet) {
				next = append(next, s+alphabet[i:i+1])
			}
		}
		list = append(list, next...)
		longest = next
	}
	return list
}

// notPaths holds texts that are close to paths, and are none.
var notPaths = []string{
	"", "a", "ab", "a/", "a/b", " /a", "./a", ".",
	"/a/", "//", "/a//", "///", "//a", "/a//b", "/a/b/", "/a/b/c/d/", "/a/b/c/d//",
	"/e", "/`", "/A", "/D", "/0", "/ ", "/a ", "/a/e", "/e/a", "/a/b/c/e", "/a/z",
	"/aa", "/ab", "/a/bc", "/ab/c", "/abcd", "/a/b/c/dd",
	"/.", "/..", "/...", "/a/.", "/a/..", "/a/...",
	"/\x00", "/a\x00", "\x00/a", "/a\n", "/a\r\n", "/\xff", "/a/\x80", "/\u00e1", "/\u0430", "/a\u2215b", "\\a", "/a\\b",
	"/a/b/c/d/a", "/d/c/b/a/d", "/a/a/a/a/a/a", strings.Repeat("/a", 20), strings.Repeat("/a", 100000),
	strings.Repeat("/", 100000), strings.Repeat("a", 100000), "/" + strings.Repeat("a", 100000),
}

// manyTexts returns paths, near misses, and all short texts of two alphabets:
// one with the bytes just outside the names, one with what PathNormal makes use of.
func manyTexts() []string {
	list := allPaths()
	list = append(list, notPaths...)
	list = append(list, textsOf("/ad`e.\x00\xff", 5)...)
	return append(list, textsOf("/b.", 9)...)
}

var pathShape = regexp.MustCompile(`^(/|(/[a-d]){1,4})$`)

// isPath tells from the shape alone whether a text is a path.
func isPath(s string) bool {
	return pathShape.MatchString(s)
}

// normalOf is PathNormal by another way: path.Clean, which takes .. at the root for the root.
func normalOf(text string) (string, bool) {
	if len(text) > 40 || !strings.HasPrefix(text, "/") {
		return "", false
	}
	depth := 0
	for _, part := range strings.Split(text[1:], "/") {
		switch part {
		case "", ".":
		case "..":
			depth--
		case "a", "b", "c", "d":
			depth++
		default:
			return "", false
		}
		if depth < 0 {
			return "", false
		}
	}
	s := path.Clean(text)
	if !isPath(s) {
		return "", false
	}
	return s, true
}
