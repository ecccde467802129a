package tests

import (
	"slices"
	"strings"
	"testing"

	"loop.example/filereconciler/impl"
)

// Trees of NodeMax nodes.
const (
	full       = "/a=d /a/a=d /a/b=f1 /a/c=f2 /b=d /b/a=d /b/a/a=f3 /c=f4 /d=d /d/a=f5"
	fullBehind = "/b=d /b/a=d /b/a/a=f1 /b/a/b=f2 /b/b=d /b/b/c=f3 /b/c=d /c=f1 /d=d /d/d=f9"
)

// A result "=" stands for a command that breaks and a tree that stays.
var applyRows = []struct {
	what, tree, command, result string
}{
	{"make a file in an empty tree", "", "/a - f4", "/a=f4"},
	{"make a directory in an empty tree", "", "/d - d", "/d=d"},
	{"make a file at the first path", "/b=d /c=f1", "/a - f0", "/a=f0 /b=d /c=f1"},
	{"make a directory at the first path", "/b=d /c=f1", "/a - d", "/a=d /b=d /c=f1"},
	{"make a file between", "/a=d /c=f1", "/a/d - f99", "/a=d /a/d=f99 /c=f1"},
	{"make a directory between", "/a=d /c=f1", "/b - d", "/a=d /b=d /c=f1"},
	{"make a file at the last path", "/a=d /c=d", "/c/d - f9", "/a=d /c=d /c/d=f9"},
	{"make a directory at the last path", "/a=d /c=f1", "/d - d", "/a=d /c=f1 /d=d"},
	{"make the last one of four", "/a=d /a/b=d /a/b/c=d", "/a/b/c/d - f1", "/a=d /a/b=d /a/b/c=d /a/b/c/d=f1"},

	{"change the only file", "/a=f4", "/a f4 f5", "/a=f5"},
	{"change the first file", "/a=f0 /b=f0 /c=f0", "/a f0 f1", "/a=f1 /b=f0 /c=f0"},
	{"change a file between", "/a=f0 /b=f0 /c=f0", "/b f0 f99", "/a=f0 /b=f99 /c=f0"},
	{"change the last file", "/a=f0 /b=f0 /c=f0", "/c f0 f1", "/a=f0 /b=f0 /c=f1"},
	{"change a file to a directory", "/a=f0 /b=f0 /c=f0", "/b f0 d", "/a=f0 /b=d /c=f0"},
	{"change a directory to a file", "/a=f0 /b=d /c=f0", "/b d f0", "/a=f0 /b=f0 /c=f0"},
	{"change the first directory", "/a=d /b=d /b/a=f1", "/a d f7", "/a=f7 /b=d /b/a=f1"},
	{"change the last directory", "/a=d /b=d /b/a=d", "/b/a d f7", "/a=d /b=d /b/a=f7"},

	{"remove the only file", "/a=f4", "/a f4 -", ""},
	{"remove the only directory", "/d=d", "/d d -", ""},
	{"remove the first file", "/a=f1 /b=d /c=f1", "/a f1 -", "/b=d /c=f1"},
	{"remove the first directory", "/a=d /b=d /c=f1", "/a d -", "/b=d /c=f1"},
	{"remove a file between", "/a=d /a/b=f1 /c=f1", "/a/b f1 -", "/a=d /c=f1"},
	{"remove a directory between", "/a=d /b=d /c=f1", "/b d -", "/a=d /c=f1"},
	{"remove the last file", "/a=d /b=d /b/a=f1", "/b/a f1 -", "/a=d /b=d"},
	{"remove the last directory", "/a=d /b=d /b/a=d", "/b/a d -", "/a=d /b=d"},

	{"change a file of a full tree", full, "/c f4 f0", strings.Replace(full, "/c=f4", "/c=f0", 1)},
	{"change the first file of a full tree", fullTrees[1], "/a/a f0 f1", strings.Replace(fullTrees[1], "/a/a=f0", "/a/a=f1", 1)},
	{"change a file of a full tree to a directory", full, "/c f4 d", strings.Replace(full, "/c=f4", "/c=d", 1)},
	{"change a directory of a full tree", full, "/a/a d f9", strings.Replace(full, "/a/a=d", "/a/a=f9", 1)},
	{"change the last file of a full tree", full, "/d/a f5 d", strings.Replace(full, "/d/a=f5", "/d/a=d", 1)},
	{"remove a directory of a full tree", full, "/a/a d -", strings.Replace(full, "/a/a=d ", "", 1)},
	{"remove the last file of a full tree", full, "/d/a f5 -", strings.Replace(full, " /d/a=f5", "", 1)},
	{"make the tenth node", strings.Replace(full, "/c=f4 ", "", 1), "/c - f4", full},

	{"make where a file is", "/a=f4", "/a - f5", "="},
	{"make where the same file is", "/a=f4", "/a - f4", "="},
	{"make where a directory is", "/a=d", "/a - d", "="},
	{"make a file where a directory is", "/a=d", "/a - f0", "="},
	{"change nothing", "", "/a f4 f5", "="},
	{"change nothing to a directory", "/b=f4", "/a f4 d", "="},
	{"change another value", "/a=f4", "/a f5 f6", "="},
	{"change another value to the one that is there", "/a=f4", "/a f5 f4", "="},
	{"change a directory as a file", "/a=d", "/a f0 f1", "="},
	{"change a file as a directory", "/a=f0", "/a d f1", "="},
	{"change to the content that is there", "/a=d", "/a f0 d", "="},
	{"remove nothing", "", "/a f4 -", "="},
	{"remove no directory", "/b=d", "/a d -", "="},
	{"remove another value", "/a=f4", "/a f0 -", "="},
	{"remove a file as a directory", "/a=f4", "/a d -", "="},
	{"remove a directory as a file", "/a=d", "/a f0 -", "="},
	{"remove what is elsewhere", "/a=d /a/b=f1 /b=f2", "/b f1 -", "="},
	{"remove what is under a file", "/a=f1", "/a/b f1 -", "="},

	{"make without a parent", "", "/a/b - f1", "="},
	{"make without a parent, only its own parent is there", "/a=d", "/a/b/c - d", "="},
	{"make without a parent, only another one is there", "/a=d", "/b/a - f1", "="},
	{"make a file under a file", "/a=f1", "/a/b - f1", "="},
	{"make a directory under a file", "/a=d /a/b=f1", "/a/b/c - d", "="},
	{"remove a directory with a file", "/a=d /a/b=f1", "/a d -", "="},
	{"remove a directory with a directory", "/a=d /a/b=d", "/a d -", "="},
	{"remove a directory with a file deep in it", "/a=d /a/b=d /a/b/c=f1", "/a d -", "="},
	{"make a file of a directory with a file", "/a=d /a/b=f1", "/a d f1", "="},
	{"make a file of a directory with a directory", "/b=d /b/d=d /c=f1", "/b d f0", "="},
	{"make a file in a full tree", full, "/a/d - f1", "="},
	{"make the first node of a full tree", fullBehind, "/a - f1", "="},
	{"make a directory in a full tree", full, "/d/d - d", "="},
	{"make the last node of a full tree", fullTrees[0], "/d - f1", "="},
	{"make under a file of a full tree", full, "/c/a - f1", "="},
	{"remove a directory of a full tree with a file", full, "/d d -", "="},
}

func TestCommandApplyTable(t *testing.T) {
	for _, r := range applyRows {
		list, c := treeFrom(r.tree), commandFrom(r.command)
		want, ok := list, r.result != "="
		if ok {
			want = treeFrom(r.result)
		}
		if strings.Contains(r.what, "full tree") && len(list) != impl.NodeMax {
			t.Errorf("%s: %v has %d nodes", r.what, list, len(list))
		}
		got, fine := impl.CommandApply(list, c)
		if fine != ok || !sameNodes(got, want) {
			t.Errorf("%s: CommandApply(%v, %q) is %v, %v", r.what, list, r.command, got, fine)
		}
		if !ok {
			continue
		}
		if again, fine := impl.CommandApply(got, c); fine || !sameNodes(again, want) {
			t.Errorf("%s: CommandApply of %q is %v, %v the second time", r.what, r.command, again, fine)
		}
		if back, fine := impl.CommandApply(got, impl.CommandUndo(c)); !fine || !sameNodes(back, list) {
			t.Errorf("%s: CommandApply of CommandUndo of %q is %v, %v", r.what, r.command, back, fine)
		}
	}
}

// applied is a command that does not break, and the trees before and after it.
type applied struct {
	before, after []impl.Node
	command       impl.Command
}

func manyApplied(t *testing.T) []applied {
	var all []applied
	for _, list := range treesForCommands() {
		for _, c := range commandsFor(list) {
			if got, ok := impl.CommandApply(list, c); ok {
				all = append(all, applied{list, got, c})
			}
		}
	}
	if len(all) < 1000 {
		t.Errorf("%d commands succeeded", len(all))
	}
	return all
}

func TestCommandApplyOfAllCommands(t *testing.T) {
	for _, list := range treesForCommands() {
		for _, c := range commandsFor(list) {
			got, ok := impl.CommandApply(list, c)
			if want, fine := applyOf(list, c); ok != fine || !sameNodes(got, want) {
				t.Errorf("CommandApply(%v, %v) is %v, %v", list, c, got, ok)
			}
		}
	}
}

// Promise 37.
func TestApplyChangesThePathAlone(t *testing.T) {
	for _, a := range manyApplied(t) {
		if before, after := impl.TreeGet(a.before, a.command.Path), impl.TreeGet(a.after, a.command.Path); before != a.command.From || after != a.command.To {
			t.Errorf("CommandApply(%v, %v) is %v: the content was %v", a.before, a.command, a.after, before)
		}
		if changed := impl.TreeChanged(a.before, a.after); !slices.Equal(changed, []string{a.command.Path}) {
			t.Errorf("CommandApply(%v, %v) is %v: %q has changed", a.before, a.command, a.after, changed)
		}
	}
}

// Promise 38.
func TestCommandsBreakForAReason(t *testing.T) {
	otherContent, noPut := 0, 0
	for _, list := range treesForCommands() {
		for _, c := range commandsFor(list) {
			got, ok := impl.CommandApply(list, c)
			if ok {
				continue
			}
			if !sameNodes(got, list) {
				t.Errorf("CommandApply(%v, %v) is %v, false", list, c, got)
			}
			_, put := impl.TreePut(list, c.Path, c.To)
			switch {
			case impl.TreeGet(list, c.Path) != c.From:
				otherContent++
			case !put:
				noPut++
			default:
				t.Errorf("CommandApply(%v, %v) fails", list, c)
			}
		}
	}
	if otherContent < 10000 || noPut < 1000 {
		t.Errorf("%d commands broke for the content, %d for TreePut", otherContent, noPut)
	}
}

// Promise 39.
func TestApplyOfUndoLeadsBack(t *testing.T) {
	for _, a := range manyApplied(t) {
		if back, ok := impl.CommandApply(a.after, impl.CommandUndo(a.command)); !ok || !sameNodes(back, a.before) {
			t.Errorf("CommandApply of CommandUndo of %v to %v is %v, %v", a.command, a.after, back, ok)
		}
	}
}

// Promise 40.
func TestUndoOfUndoIsTheCommand(t *testing.T) {
	for _, c := range manyCommands() {
		undo := impl.CommandUndo(c)
		if want := (impl.Command{Path: c.Path, From: c.To, To: c.From}); undo != want || !impl.CommandValid(undo) {
			t.Errorf("CommandUndo(%v) is %v", c, undo)
		}
		if again := impl.CommandUndo(undo); again != c {
			t.Errorf("CommandUndo of CommandUndo of %v is %v", c, again)
		}
	}
}

// Promise 41.
func TestApplyAgainFails(t *testing.T) {
	for _, a := range manyApplied(t) {
		if again, ok := impl.CommandApply(a.after, a.command); ok || !sameNodes(again, a.after) {
			t.Errorf("CommandApply(%v, %v) is %v, %v the second time", a.after, a.command, again, ok)
		}
	}
}

func TestCommandTextTable(t *testing.T) {
	for text, c := range map[string]impl.Command{
		"/a - f4":         {Path: "/a", From: none, To: fileOf(4)},
		"/a f4 -":         {Path: "/a", From: fileOf(4), To: none},
		"/b - d":          {Path: "/b", From: none, To: dir},
		"/b/d d f0":       {Path: "/b/d", From: dir, To: fileOf(0)},
		"/a/b/c/d f9 f10": {Path: "/a/b/c/d", From: fileOf(9), To: fileOf(10)},
		"/d/d/d/d f99 d":  {Path: "/d/d/d/d", From: fileOf(99), To: dir},
	} {
		if !impl.CommandValid(c) || impl.CommandText(c) != text {
			t.Errorf("CommandText(%v) is %q", c, impl.CommandText(c))
		}
		if got, ok := impl.CommandParse(text); !ok || got != c {
			t.Errorf("CommandParse(%q) is %v, %v", text, got, ok)
		}
		if c != commandFrom(text) || wordsOf(c) != text {
			t.Errorf("%q stands for %v, and %q for it", text, commandFrom(text), wordsOf(c))
		}
	}
}

// Promise 42.
func TestParseOfCommandTextIsTheCommand(t *testing.T) {
	for _, c := range manyCommands() {
		text := impl.CommandText(c)
		if !impl.CommandValid(c) || text != wordsOf(c) {
			t.Errorf("CommandText(%v) is %q", c, text)
		}
		if got, ok := impl.CommandParse(text); !ok || got != c {
			t.Errorf("CommandParse(%q) is %v, %v", text, got, ok)
		}
	}
}

// Promise 43.
func TestCommandTextOfParseIsTheText(t *testing.T) {
	succeeded := 0
	for _, text := range commandTexts() {
		c, ok := impl.CommandParse(text)
		if ok != isCommandText(text) || ok != isCommand(c) {
			t.Errorf("CommandParse(%.50q) is %v, %v", text, c, ok)
		}
		if !ok && c != (impl.Command{}) {
			t.Errorf("CommandParse(%.50q) is %v, false", text, c)
		}
		if !ok {
			continue
		}
		succeeded++
		if got := impl.CommandText(c); got != text {
			t.Errorf("CommandText(%v) is %q, not %q", c, got, text)
		}
	}
	if succeeded < 10000 {
		t.Errorf("%d texts are those of commands", succeeded)
	}
}

func TestCommandParseOfOtherTexts(t *testing.T) {
	for _, text := range notCommandTexts() {
		if c, ok := impl.CommandParse(text); ok || c != (impl.Command{}) {
			t.Errorf("CommandParse(%.50q) is %v, %v", text, c, ok)
		}
	}
}

// Promise 44.
func TestCommandsThatChangeNothingOrTheRoot(t *testing.T) {
	for _, c := range manyCommands() {
		if !impl.CommandValid(c) {
			t.Errorf("CommandValid(%v) does not hold", c)
		}
		same, back, root := c, c, c
		same.To, back.From, root.Path = c.From, c.To, "/"
		for _, other := range []impl.Command{same, back, root} {
			if impl.CommandValid(other) {
				t.Errorf("CommandValid(%v) holds", other)
			}
		}
	}
}

func TestCommandValidOfContentsAndPaths(t *testing.T) {
	for _, x := range manyContents() {
		for _, other := range []impl.Content{none, dir, fileOf(7), x} {
			for _, c := range []impl.Command{{Path: "/a", From: x, To: other}, {Path: "/b/c", From: other, To: x}} {
				if got := impl.CommandValid(c); got != isCommand(c) {
					t.Errorf("CommandValid(%v) is %v", c, got)
				}
			}
		}
	}
	for _, p := range manyTexts() {
		if c := (impl.Command{Path: p, To: dir}); impl.CommandValid(c) != isCommand(c) {
			t.Errorf("CommandValid(%.50q) is %v", c.Path, !isCommand(c))
		}
	}
}

func TestInvalidCommands(t *testing.T) {
	trees := [][]impl.Node{nil, treeFrom("/a=d"), treeFrom("/a=f4"), treeFrom("/a=f4 /d=d"), treeFrom(full)}
	for _, c := range notCommands() {
		if isCommand(c) {
			t.Fatalf("%v is a command", c)
		}
		if impl.CommandValid(c) {
			t.Errorf("CommandValid(%.100s) holds", shown(c))
		}
		if got := impl.CommandUndo(c); got != (impl.Command{}) {
			t.Errorf("CommandUndo(%.100s) is %.100s", shown(c), shown(got))
		}
		if got := impl.CommandText(c); got != "" {
			t.Errorf("CommandText(%.100s) is %.100q", shown(c), got)
		}
		if got, ok := impl.CommandParse(wordsOf(c)); ok || got != (impl.Command{}) {
			t.Errorf("CommandParse(%.100q) is %v, %v", wordsOf(c), got, ok)
		}
		for _, list := range trees {
			if got, ok := impl.CommandApply(list, c); ok || len(got) > 0 {
				t.Errorf("CommandApply(%v, %.100s) is %v, %v", list, shown(c), got, ok)
			}
		}
	}
}

func TestCommandsOnInvalidTrees(t *testing.T) {
	commands := []impl.Command{{}, {Path: "/", From: dir, To: fileOf(1)}, {Path: "/a", From: dir, To: dir}, {Path: "/a", From: dir, To: badContents[0]}}
	for _, p := range []string{"/a", "/b", "/a/a", "/a/b", "/d", "/d/a", "/d/d/d/d"} {
		commands = append(commands, commandsAt(p)...)
	}
	for what, list := range notTrees() {
		for _, c := range commands {
			if got, ok := impl.CommandApply(list, c); ok || len(got) > 0 {
				t.Errorf("%.60q: CommandApply of %v is %.100s, %v", what, c, shown(got), ok)
			}
		}
	}
}

// Calls change neither trees, nor what is behind them, nor each other's results, also if the command breaks.
func TestCommandsShareNoMemory(t *testing.T) {
	for _, tree := range treesForCommands() {
		list, array := markedNodes(tree)
		before := slices.Clone(array)
		for _, c := range commandsFor(tree) {
			want, _ := applyOf(tree, c)
			first, _ := impl.CommandApply(list, c)
			second, _ := impl.CommandApply(list, c)
			overwriteNodes(first)
			if !sameNodes(second, want) {
				t.Fatalf("CommandApply(%v, %v) is %v", tree, c, second)
			}
			if !slices.Equal(array, before) {
				t.Fatalf("CommandApply(%v, %v) has changed it: %v", tree, c, array)
			}
		}
	}
	for _, list := range [][]impl.Node{{}, make([]impl.Node, 0, 5)} {
		got, ok := impl.CommandApply(list, commandFrom("/a f4 -"))
		if ok || len(got) > 0 {
			t.Errorf("CommandApply is %v, %v", got, ok)
		}
		overwriteNodes(got)
		if spare := list[:cap(list)]; slices.ContainsFunc(spare, func(n impl.Node) bool { return n != impl.Node{} }) {
			t.Errorf("what is behind an empty tree has changed: %v", spare)
		}
	}
}
