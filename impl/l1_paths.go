package impl

import (
	"iter"
	"strings"
)

// DepthMax is the largest number of names of a path.
const DepthMax = 4

const (
	rootPath    = "/"
	pathTextMax = 40
)

// partsOf yields what is between the slashes of a text, and behind the last one.
// It yields nothing if the text does not begin with a slash.
func partsOf(text string) iter.Seq[string] {
	return func(yield func(string) bool) {
		rest, more := strings.CutPrefix(text, "/")
		for more {
			var part string
			part, rest, more = strings.Cut(rest, "/")
			if !yield(part) {
				return
			}
		}
	}
}

func isName(part string) bool {
	return len(part) == 1 && part[0] >= 'a' && part[0] <= 'd'
}

// PathValid reports whether a text is a path.
func PathValid(s string) bool {
	return PathDepth(s) >= 0
}

// PathDepth returns how many names a path has, or -1 if the text is no path.
func PathDepth(s string) int {
	if s == rootPath {
		return 0
	}
	depth := 0
	for part := range partsOf(s) {
		if !isName(part) || depth == DepthMax {
			return -1
		}
		depth++
	}
	if depth == 0 {
		return -1
	}
	return depth
}

// PathParent returns the path without its last name, or "" for the root and if the text is no path.
func PathParent(s string) string {
	switch PathDepth(s) {
	case -1, 0:
		return ""
	case 1:
		return rootPath
	}
	return s[:strings.LastIndexByte(s, '/')]
}

// PathUnder reports whether both texts are paths and the second one is under the first one.
func PathUnder(a string, b string) bool {
	above, below := PathDepth(a), PathDepth(b)
	// A name is one letter, so a path that begins with another one does so name by name.
	return above >= 0 && below > above && strings.HasPrefix(b, a)
}

// PathNormal returns the path that a text means.
func PathNormal(text string) (string, bool) {
	if len(text) > pathTextMax || !strings.HasPrefix(text, "/") {
		return "", false
	}
	var names []string
	for part := range partsOf(text) {
		switch {
		case part == "" || part == ".":
		case part == ".." && len(names) > 0:
			names = names[:len(names)-1]
		case isName(part):
			names = append(names, part)
		default:
			return "", false
		}
	}
	// Only the result is held against DepthMax: on the way there may be more names.
	if len(names) > DepthMax {
		return "", false
	}
	return "/" + strings.Join(names, "/"), true
}
