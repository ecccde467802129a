package tests

import (
	"fmt"
	"regexp"
	"slices"
	"strings"

	"loop.example/filereconciler/impl"
)

// contentFrom returns the content of a text that has one.
func contentFrom(text string) impl.Content {
	return treeFrom("/=" + text)[0].Content
}

// commandFrom makes a command from a line such as "/a - f3", with ContentParse for the contents.
func commandFrom(line string) impl.Command {
	words := strings.Fields(line)
	return impl.Command{Path: words[0], From: contentFrom(words[1]), To: contentFrom(words[2])}
}

// isCommand tells without CommandValid whether a command is valid.
func isCommand(c impl.Command) bool {
	return isPath(c.Path) && c.Path != "/" && isContent(c.From) && isContent(c.To) && c.From != c.To
}

// wordsOf returns a path and two contents with blanks between them, valid or not.
func wordsOf(c impl.Command) string {
	word := func(x impl.Content) string {
		switch {
		case x == none:
			return "-"
		case x == dir:
			return "d"
		case x.Kind == impl.KindFile:
			return fmt.Sprintf("f%d", x.Value)
		}
		return fmt.Sprint(x.Kind, x.Value)
	}
	return fmt.Sprintf("%s %s %s", c.Path, word(c.From), word(c.To))
}

var commandShape = regexp.MustCompile(`^((?:/[a-d]){1,4}) (-|d|f(?:0|[1-9][0-9]?)) (-|d|f(?:0|[1-9][0-9]?))$`)

// isCommandText tells from the shape alone whether a text is that of a command.
func isCommandText(s string) bool {
	words := commandShape.FindStringSubmatch(s)
	return words != nil && words[2] != words[3]
}

// applyOf is CommandApply of a valid tree and command by another way: putOf, and the contents by their paths.
func applyOf(list []impl.Node, c impl.Command) ([]impl.Node, bool) {
	result, ok := putOf(list, c.Path, c.To)
	if contentsOf(list)[c.Path] != c.From || !ok {
		return list, false
	}
	return result, true
}

// commandsAt returns commands at a path, from each of a few contents to each other one.
func commandsAt(p string) []impl.Command {
	var list []impl.Command
	for _, from := range putContents {
		for _, to := range putContents {
			if from != to {
				list = append(list, impl.Command{Path: p, From: from, To: to})
			}
		}
	}
	return list
}

// commandsFor returns commands at the paths of a tree and near them: from the content that is there, and from others.
func commandsFor(list []impl.Node) []impl.Command {
	var commands []impl.Command
	contents := contentsOf(list)
	for _, p := range nearPaths(list)[1:] {
		commands = append(commands, commandsAt(p)...)
		if slices.Contains(putContents, contents[p]) {
			continue
		}
		for _, to := range putContents {
			commands = append(commands, impl.Command{Path: p, From: contents[p], To: to})
		}
	}
	return commands
}

// treesForCommands returns trees of all sizes, as few as can be held against all commands for them.
func treesForCommands() [][]impl.Node {
	lists := fewTrees()
	for k, list := range smallTrees() {
		if k%3 == 0 {
			lists = append(lists, list)
		}
	}
	return lists
}

// manyCommands returns valid commands: from each content to each other one, and at each path.
func manyCommands() []impl.Command {
	var list []impl.Command
	for _, from := range validContents() {
		for _, to := range validContents() {
			if from != to {
				list = append(list, impl.Command{Path: "/c/a", From: from, To: to})
			}
		}
	}
	for _, p := range allPaths()[1:] {
		list = append(list, commandsAt(p)...)
	}
	return list
}

// notCommands returns commands that are invalid: a path, a content, or that nothing is changed.
func notCommands() []impl.Command {
	var list []impl.Command
	for _, p := range append([]string{"/"}, notPaths...) {
		list = append(list, impl.Command{Path: p, To: fileOf(4)}, impl.Command{Path: p, From: dir}, impl.Command{Path: p, From: dir, To: fileOf(4)})
	}
	for _, p := range []string{"/a", "/d/d/d/d"} {
		for _, bad := range badContents {
			for _, other := range append([]impl.Content{bad, badContents[0]}, putContents...) {
				list = append(list, impl.Command{Path: p, From: bad, To: other}, impl.Command{Path: p, From: other, To: bad})
			}
		}
		for _, c := range validContents() {
			list = append(list, impl.Command{Path: p, From: c, To: c})
		}
	}
	return append(list, impl.Command{}, impl.Command{Path: "/", From: dir, To: dir}, impl.Command{Path: "/e", From: dir, To: dir})
}

var otherBlanks = []string{"", "  ", "   ", "\t", "\n", "\r\n", "\v", "\f", "\x00", "\u00a0", "\u2003", "\u3000", "\ufeff", "_", ",", "=", " \t", "\t ", "\n ", "/", " - ", " d "}

// notCommandTexts returns texts that are close to those of commands, and are none.
func notCommandTexts() []string {
	list := []string{"", " ", "  ", "   ", "/a", "/a ", "/a -", "/a - ", "/a  ", " - d", "- d", "-  d", "/a d", "a - d", "/ - d", "/ d -", "/ d f1", "/ - f0",
		"/a/ - f4", "/a/b/ d f4", "/a - -", "/a d d", "/a f4 f4", "/a f0 f0", "/a f99 f99", "- /a d", "- d /a", "/a /b d", "/a - /b", "/a d - ?",
		"/a - f4 f4", "/a - f4 -", "/a - f4 d f5", "/a - f4 /b - f4", "/a - f4\n/b - f4", "/a f1 f01", "/a f01 f1", "/a f1 f001", "/a -0 d", "/a d -0",
		"/a - f100", "/a f100 -", "/a - f-1", "/a - f+1", "/a f+1 -", "/a F1 -", "/a - D", "/A - d", "/e - d", "/a/b/c/d/a - d", "/a/e - d",
		strings.Repeat(" ", 100000), "/a - f4" + strings.Repeat(" ", 100000), "/a - f" + strings.Repeat("4", 100000), strings.Repeat("/a", 100000) + " - d",
		strings.Repeat("/a - f4", 20000), strings.Repeat("/a - f4 ", 20000), "/a -" + strings.Repeat(" ", 100000) + "f4", "/a " + strings.Repeat("-", 100000) + " f4"}
	for _, blank := range otherBlanks {
		list = append(list, "/a"+blank+"- f4", "/a -"+blank+"f4", "/a"+blank+"d -", "/b/c d"+blank+"f0", "/b"+blank+"f10"+blank+"f1")
		if blank != "" {
			list = append(list, blank+"/a - f4", "/a - f4"+blank, blank+"/d d -", "/d/d f1 -"+blank, " "+blank+"/a - d"+blank+" ")
		}
	}
	for _, p := range append([]string{"/"}, notPaths...) {
		list = append(list, p+" - f4", p+" d -", p+" f1 f2")
	}
	for _, x := range notContents {
		list = append(list, "/a "+x+" f1", "/a - "+x, "/a "+x+" -", "/a d "+x, "/a "+x+" "+x)
	}
	return list
}

// commandTexts returns texts of commands, near misses, and texts in which one byte is missing, is another one, or is there besides.
func commandTexts() []string {
	list := notCommandTexts()
	for _, c := range manyCommands() {
		list = append(list, wordsOf(c))
	}
	for _, text := range []string{"/a - d", "/b d f9", "/a/b/c/d f10 f1", "/d/c f99 -"} {
		for k := range len(text) + 1 {
			if k < len(text) {
				list = append(list, text[:k]+text[k+1:])
			}
			for b := range 256 {
				one := string([]byte{byte(b)})
				list = append(list, text[:k]+one+text[k:])
				if k < len(text) {
					list = append(list, text[:k]+one+text[k+1:])
				}
			}
		}
	}
	for _, short := range textsOf("/a -df1", 5) {
		list = append(list, short, "/a "+short)
	}
	return list
}

// overwriteNodes puts another node at each place of a list, and behind it up to its capacity.
func overwriteNodes(list []impl.Node) {
	list = list[:cap(list)]
	for i := range list {
		list[i] = impl.Node{Path: "overwritten", Content: impl.Content{Kind: mark, Value: mark}}
	}
}
