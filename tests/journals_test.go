package tests

import (
	"fmt"
	"slices"
	"strings"
	"testing"

	"loop.example/filereconciler/impl"
)

var commandBytesRows = []struct{ line, bytes string }{
	{"/a - d", "0,0,1,0,47,97"},
	{"/a - f0", "0,0,2,0,47,97"},
	{"/a - f4", "0,0,2,4,47,97"},
	{"/a - f99", "0,0,2,99,47,97"},
	{"/b d -", "1,0,0,0,47,98"},
	{"/b d f0", "1,0,2,0,47,98"},
	{"/b d f99", "1,0,2,99,47,98"},
	{"/c f0 -", "2,0,0,0,47,99"},
	{"/c f99 -", "2,99,0,0,47,99"},
	{"/c f1 d", "2,1,1,0,47,99"},
	{"/d f10 f1", "2,10,2,1,47,100"},
	{"/d f0 f99", "2,0,2,99,47,100"},
	{"/d f99 f98", "2,99,2,98,47,100"},
	{"/d f47 f97", "2,47,2,97,47,100"},
	{"/a/b f0 d", "2,0,1,0,47,97,47,98"},
	{"/c/a d f99", "1,0,2,99,47,99,47,97"},
	{"/b/c/d - d", "0,0,1,0,47,98,47,99,47,100"},
	{"/a/b/c/d d -", "1,0,0,0,47,97,47,98,47,99,47,100"},
	{"/d/d/d/d f99 f0", "2,99,2,0,47,100,47,100,47,100,47,100"},
	{"/a/a/a/a - f0", "0,0,2,0,47,97,47,97,47,97,47,97"},
}

func TestJournalCommandTable(t *testing.T) {
	for _, r := range commandBytesRows {
		c, bytes := commandFrom(r.line), bytesFrom(r.bytes)
		if got := impl.CommandBytes(c); !slices.Equal(got, bytes) || !slices.Equal(commandBytesOf(c), bytes) {
			t.Errorf("CommandBytes of %q is %v, not %v or %v", r.line, got, bytes, commandBytesOf(c))
		}
		if got, ok := impl.CommandFrom(bytes); !ok || got != c {
			t.Errorf("CommandFrom of %v is %q, %v, not %q", bytes, wordsOf(got), ok, r.line)
		}
		if got, ok := commandFromOf(bytes); !ok || got != c {
			t.Errorf("by another way, CommandFrom of %v is %q, %v, not %q", bytes, wordsOf(got), ok, r.line)
		}
	}
}

func TestJournalNoCommandTable(t *testing.T) {
	for _, r := range notBodyRows {
		body := bytesFrom(r.bytes)
		if got, ok := impl.CommandFrom(body); ok || got != (impl.Command{}) {
			t.Errorf("%s: CommandFrom of %v is %q, %v", r.what, body, wordsOf(got), ok)
		}
		if got, ok := commandFromOf(body); ok {
			t.Errorf("%s: by another way, CommandFrom of %v is %q", r.what, body, wordsOf(got))
		}
		if impl.BodySum(body) == -1 {
			t.Errorf("%s: %v is not even a body", r.what, body)
		}
	}
	for _, r := range []struct{ what, numbers string }{
		{"no bytes", ""},
		{"a kind below 0", "-1,0,2,4,47,97"},
		{"a value below 0", "0,0,2,-1,47,97"},
		{"a value of 256 and 4", "0,0,2,260,47,97"},
		{"a kind of 256 and 2", "0,0,258,4,47,97"},
		{"nothing with a value of 256", "0,256,2,4,47,97"},
		{"a slash and 256", "0,0,2,4,303,97"},
		{"a slash and 256 less", "0,0,2,4,-209,97"},
		{"a name and 256", "0,0,2,4,47,353"},
		{"a name and 256 less", "0,0,2,4,47,-159"},
		{"the last name and 512", "0,0,2,4,47,97,47,610"},
		{"a name and 65536", "0,0,2,4,47,65633"},
		{"256 behind the path", "0,0,2,4,47,97,256"},
		{"-1 behind the path", "0,0,2,4,47,97,-1"},
		{"-1 ahead of all", "-1,0,0,2,4,47,97"},
		{"256 alone", "256"},
		{"-1 alone", "-1"},
		{"-1 all along", "6x-1"},
		{"256 all along", "12x256"},
	} {
		body := bytesFrom(r.numbers)
		if got, ok := impl.CommandFrom(body); ok || got != (impl.Command{}) {
			t.Errorf("%s: CommandFrom of %v is %q, %v", r.what, body, wordsOf(got), ok)
		}
		if got, ok := commandFromOf(body); ok {
			t.Errorf("%s: by another way, CommandFrom of %v is %q", r.what, body, wordsOf(got))
		}
	}
}

func TestJournalInvalidCommandTable(t *testing.T) {
	for _, r := range []struct {
		what string
		c    impl.Command
	}{
		{"the zero value", impl.Command{}},
		{"the root", impl.Command{Path: "/", To: fileOf(4)}},
		{"the root that ends", impl.Command{Path: "/", From: dir}},
		{"the root that becomes a file", impl.Command{Path: "/", From: dir, To: fileOf(0)}},
		{"no path", impl.Command{To: fileOf(4)}},
		{"a slash at the end", impl.Command{Path: "/a/", To: fileOf(4)}},
		{"a name of other letters", impl.Command{Path: "/e", To: dir}},
		{"five names", impl.Command{Path: "/a/b/c/d/a", To: dir}},
		{"nothing changes", impl.Command{Path: "/a"}},
		{"a directory does not change", impl.Command{Path: "/a", From: dir, To: dir}},
		{"a value does not change", impl.Command{Path: "/a", From: fileOf(4), To: fileOf(4)}},
		{"a value that is too large", impl.Command{Path: "/a", To: fileOf(100)}},
		{"a value that was too large", impl.Command{Path: "/a", From: fileOf(100)}},
		{"a value below 0", impl.Command{Path: "/a", To: fileOf(-1)}},
		{"nothing with a value", impl.Command{Path: "/a", From: impl.Content{Value: 1}, To: dir}},
		{"a directory with a value", impl.Command{Path: "/a", To: impl.Content{Kind: impl.KindDir, Value: 1}}},
		{"the kind 3", impl.Command{Path: "/a", To: impl.Content{Kind: 3}}},
		{"the kind -1", impl.Command{Path: "/a", From: impl.Content{Kind: -1}}},
	} {
		if got := impl.CommandBytes(r.c); len(got) > 0 {
			t.Errorf("%s: CommandBytes is %v", r.what, got)
		}
		if got, ok := impl.LogBytes([]impl.Command{r.c}); ok || len(got) > 0 {
			t.Errorf("%s: LogBytes is %v, %v", r.what, got, ok)
		}
		if got, ok := impl.CommandFrom(rawBytes(r.c)); ok || got != (impl.Command{}) {
			t.Errorf("%s: CommandFrom is %q, %v", r.what, wordsOf(got), ok)
		}
	}
}

func TestJournalLogTable(t *testing.T) {
	for _, r := range []struct{ what, log, bytes string }{
		{"no commands", "", ""},
		{"one command", "/a - f4", "6,0,0,2,4,47,97,140"},
		{"another one", "/b d -", "6,1,0,0,0,47,98,58"},
		{"the longest path", "/d/d/d/d f99 f0", "12,2,99,2,0,47,100,47,100,47,100,47,100,44"},
		{"two names", "/a/b f0 d", "8,2,0,1,0,47,97,47,98,51"},
		{"two commands", "/a - f4, /b d -", "6,0,0,2,4,47,97,140,6,1,0,0,0,47,98,58"},
		{"in the other order", "/b d -, /a - f4", "6,1,0,0,0,47,98,58,6,0,0,2,4,47,97,140"},
		{"a command twice", "/a - f4, /a - f4", "6,0,0,2,4,47,97,140,6,0,0,2,4,47,97,140"},
		{"commands of other lengths", "/a - d, /c/a d f99, /d/d/d/d f99 f0", "6,0,0,1,0,47,97,139,8,1,0,2,99,47,99,47,97,24,12,2,99,2,0,47,100,47,100,47,100,47,100,44"},
		{"commands that fit no tree", "/a f4 d, /a f5 -", "6,2,4,1,0,47,97," + fmt.Sprint(plainSum(bytesFrom("2,4,1,0,47,97"))) + ",6,2,5,0,0,47,97," + fmt.Sprint(plainSum(bytesFrom("2,5,0,0,47,97")))},
	} {
		log, bytes := logFrom(r.log), bytesFrom(r.bytes)
		if got, ok := impl.LogBytes(log); !ok || !slices.Equal(got, bytes) {
			t.Errorf("%s: LogBytes of %q is %v, %v, not %v", r.what, r.log, got, ok, bytes)
		}
		hasLoaded(t, r.what, bytes, log, len(bytes))
	}
}

// goodFrame and longFrame are the bytes of "/a - f4" and of "/d/d/d/d f99 f0" in frames.
const (
	goodFrame = "6,0,0,2,4,47,97,140"
	longFrame = "12,2,99,2,0,47,100,47,100,47,100,47,100,44"
)

func TestJournalLoadTable(t *testing.T) {
	const good, long = "/a - f4", "/d/d/d/d f99 f0"
	for _, r := range []struct {
		what, bytes, log string
		used             int
	}{
		{"no bytes", "", "", 0},
		{"one frame", goodFrame, good, 8},
		{"two frames", goodFrame + "," + longFrame, good + ", " + long, 22},
		{"two frames in the other order", longFrame + "," + goodFrame, long + ", " + good, 22},

		{"a frame without its sum", "6,0,0,2,4,47,97", "", 0},
		{"a frame without its last byte and its sum", "6,0,0,2,4,47", "", 0},
		{"a length alone", "6", "", 0},
		{"a frame and one without its sum", goodFrame + ",6,0,0,2,4,47,97", good, 8},
		{"a frame and a length", goodFrame + ",6", good, 8},
		{"a frame and half of a longer one", goodFrame + ",12,2,99,2,0,47,100", good, 8},
		{"a frame without its length", "0,0,2,4,47,97,140", "", 0},
		{"a body without a frame", "0,0,2,4,47,97", "", 0},
		{"a frame, and a body without one", goodFrame + ",0,0,2,4,47,97", good, 8},

		{"a sum that is one more", "6,0,0,2,4,47,97,141", "", 0},
		{"a sum that is one less", "6,0,0,2,4,47,97,139", "", 0},
		{"a sum and SumBase", "6,0,0,2,4,47,97,391", "", 0},
		{"a byte that is another one", "6,0,0,2,5,47,97,140", "", 0},
		{"a wrong sum, and a frame behind it", "6,0,0,2,4,47,97,141," + goodFrame, "", 0},
		{"a frame, a wrong sum, and a frame behind it", longFrame + ",6,0,0,2,4,47,97,141," + goodFrame, long, 14},
		{"a length that is too small", "5,0,0,2,4,47,97,140", "", 0},
		{"a length that is too large", "7,0,0,2,4,47,97,140", "", 0},
		{"a length of 17", "17,0,0,2,4,47,97,140", "", 0},
		{"a length of 0 ahead of a frame", "0," + goodFrame, "", 0},
		{"a frame, and no body with the sum of none", goodFrame + ",0,7," + goodFrame, good, 8},
		{"a length below 0", "-6,0,0,2,4,47,97,140", "", 0},
		{"-1 for a byte", "6,0,0,2,-1,47,97,-1", "", 0},
		{"256 for a byte, and the sum of both", "6,0,0,2,4,47,353," + fmt.Sprint((140+256)%251), "", 0},
		{"a frame, and 256", goodFrame + ",256," + goodFrame, good, 8},
		{"a frame, and -1", goodFrame + ",-1," + goodFrame, good, 8},

		{"a body of one byte", "1,5,222", "", 0},
		{"a body of one byte ahead of a frame", "1,5,222," + goodFrame, "", 0},
		{"a body of one byte behind a frame", goodFrame + ",1,5,222", good, 8},
		{"a body of one byte between two frames", goodFrame + ",1,5,222," + longFrame, good, 8},
		{"the path of the root", goodFrame + ",5,0,0,2,4,47,220," + longFrame, good, 8},
		{"a value of 100", longFrame + ",6,0,0,2,100,47,97,28," + goodFrame, long, 14},
		{"a kind of 3", longFrame + ",6,3,0,0,0,47,97,239," + goodFrame, long, 14},
		{"a name of other letters", longFrame + ",6,0,0,2,4,47,101,144," + goodFrame, long, 14},
		{"nothing twice", longFrame + ",6,0,0,0,0,47,97,217," + goodFrame, long, 14},
		{"nothing with a value", longFrame + ",6,0,1,2,4,47,97,232," + goodFrame, long, 14},
		{"a slash at the wrong place", longFrame + ",6,0,0,2,4,97,47,134," + goodFrame, long, 14},
		{"a slash at the end", longFrame + ",7,0,0,2,4,47,97,47,120," + goodFrame, long, 14},
		{"no path", longFrame + ",4,0,0,2,4,208," + goodFrame, long, 14},
		{"no path ahead of a frame", "4,0,0,2,4,208," + goodFrame, "", 0},
		{"no path behind two frames", goodFrame + "," + longFrame + ",4,0,0,2,4,208", good + ", " + long, 22},
	} {
		hasLoaded(t, r.what, bytesFrom(r.bytes), logFrom(r.log), r.used)
		checkLogLoad(t, bytesFrom(r.bytes))
	}
}

// Here, what is read ends at LogMax commands, or just ahead of them.
func TestJournalLogMaxTable(t *testing.T) {
	const wrong, noCommand = "6,0,0,2,4,47,97,141", "5,0,0,2,4,47,220"
	for _, r := range []struct {
		what        string
		ahead       int
		tail        string
		count, used int
	}{
		{"one less than LogMax", 19, "", 19, 152},
		{"LogMax", 20, "", 20, 160},
		{"one more", 21, "", 20, 160},
		{"twice as many", 40, "", 20, 160},
		{"more than FramesOf takes", 41, "", 20, 160},
		{"very many", 20000, "", 20, 160},
		{"LogMax, and half a frame", 20, "6,0,0,2,4,47", 20, 160},
		{"LogMax, and a wrong sum", 20, wrong, 20, 160},
		{"LogMax, and no command", 20, noCommand, 20, 160},
		{"LogMax, and no frame", 20, "0,0,0", 20, 160},
		{"LogMax, and a longer frame", 20, longFrame, 20, 160},
		{"one more, and no command", 21, noCommand, 20, 160},
		{"one less, and half a frame", 19, "6,0,0,2,4,47", 19, 152},
		{"one less, and a wrong sum", 19, wrong + "," + goodFrame, 19, 152},
		{"one less, and no command", 19, noCommand + "," + goodFrame, 19, 152},
		{"one less, and a longer frame", 19, longFrame + "," + goodFrame, 20, 166},
	} {
		bytes := bytesFrom(strings.Repeat(goodFrame+",", r.ahead) + r.tail)
		want := slices.Repeat(logFrom("/a - f4"), min(r.ahead, r.count))
		if r.count > r.ahead {
			want = append(want, commandFrom("/d/d/d/d f99 f0"))
		}
		hasLoaded(t, r.what, bytes, want, r.used)
	}
}
