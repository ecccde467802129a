package tests

import (
	"math"
	"strconv"
	"testing"

	"loop.example/filereconciler/impl"
)

func TestContentConstants(t *testing.T) {
	if impl.KindNone != 0 || impl.KindDir != 1 || impl.KindFile != 2 {
		t.Errorf("the kinds are %d, %d and %d", impl.KindNone, impl.KindDir, impl.KindFile)
	}
	if impl.ValueMax != 99 {
		t.Errorf("ValueMax is %d", impl.ValueMax)
	}
}

func TestContentTable(t *testing.T) {
	rows := []struct {
		kind, value int
		text        string
	}{
		{impl.KindNone, 0, "-"}, {impl.KindDir, 0, "d"},
		{impl.KindFile, 0, "f0"}, {impl.KindFile, 1, "f1"}, {impl.KindFile, 9, "f9"}, {impl.KindFile, 10, "f10"},
		{impl.KindFile, 12, "f12"}, {impl.KindFile, 50, "f50"}, {impl.KindFile, 98, "f98"}, {impl.KindFile, impl.ValueMax, "f99"},
	}
	for _, r := range rows {
		c := impl.Content{Kind: r.kind, Value: r.value}
		if !impl.ContentValid(c) {
			t.Errorf("ContentValid(%v) does not hold", c)
		}
		if got := impl.ContentText(c); got != r.text {
			t.Errorf("ContentText(%v) is %q, not %q", c, got, r.text)
		}
		if got, ok := impl.ContentParse(r.text); !ok || got != c {
			t.Errorf("ContentParse(%q) is %v, %v, not %v", r.text, got, ok, c)
		}
	}
}

func TestInvalidContents(t *testing.T) {
	for _, c := range []impl.Content{
		{Kind: impl.KindFile, Value: -1}, {Kind: impl.KindFile, Value: impl.ValueMax + 1},
		{Kind: impl.KindFile, Value: math.MaxInt}, {Kind: impl.KindFile, Value: math.MinInt},
		{Kind: impl.KindNone, Value: 1}, {Kind: impl.KindNone, Value: -1}, {Kind: impl.KindNone, Value: math.MinInt},
		{Kind: impl.KindDir, Value: 1}, {Kind: impl.KindDir, Value: -1}, {Kind: impl.KindDir, Value: 99}, {Kind: impl.KindDir, Value: math.MaxInt},
		{Kind: -1}, {Kind: 3}, {Kind: 3, Value: 5}, {Kind: -1, Value: 5}, {Kind: 4}, {Kind: 256}, {Kind: math.MaxInt}, {Kind: math.MinInt},
	} {
		if impl.ContentValid(c) {
			t.Errorf("ContentValid(%v) holds", c)
		}
		if got := impl.ContentText(c); got != "" {
			t.Errorf("ContentText(%v) is %q", c, got)
		}
	}
}

func TestContentParseFails(t *testing.T) {
	for _, s := range notContents {
		if c, ok := impl.ContentParse(s); ok || c != (impl.Content{}) {
			t.Errorf("ContentParse(%.50q) is %v, %v", s, c, ok)
		}
	}
}

// Promise 9.
func TestParseOfTextReturnsTheContent(t *testing.T) {
	for _, c := range validContents() {
		if !impl.ContentValid(c) {
			t.Errorf("ContentValid(%v) does not hold", c)
		}
		if got, ok := impl.ContentParse(impl.ContentText(c)); !ok || got != c {
			t.Errorf("ContentParse of ContentText(%v) is %v, %v", c, got, ok)
		}
	}
}

// Promise 10.
func TestTextIsEmptyForInvalidContentsOnly(t *testing.T) {
	for _, c := range manyContents() {
		valid, text := impl.ContentValid(c), impl.ContentText(c)
		if valid != isContent(c) {
			t.Errorf("ContentValid(%v) is %v", c, valid)
		}
		if valid == (text == "") {
			t.Errorf("ContentValid(%v) is %v, ContentText is %q", c, valid, text)
		}
		if valid && !isContentText(text) {
			t.Errorf("ContentText(%v) is %q", c, text)
		}
	}
}

// Promise 11, and which texts ContentParse takes.
func TestTextOfParseIsTheText(t *testing.T) {
	for _, s := range contentTexts() {
		c, ok := impl.ContentParse(s)
		if ok != isContentText(s) {
			t.Errorf("ContentParse(%.50q) is %v, %v", s, c, ok)
		}
		if !ok && c != (impl.Content{}) {
			t.Errorf("ContentParse(%.50q) fails, with %v", s, c)
		}
		if ok && (!impl.ContentValid(c) || impl.ContentText(c) != s) {
			t.Errorf("ContentParse(%q) is %v, with the text %q", s, c, impl.ContentText(c))
		}
	}
}

// Promise 12.
func TestOnlyFilesHaveAValue(t *testing.T) {
	for _, kind := range []int{impl.KindNone, impl.KindDir} {
		if c := (impl.Content{Kind: kind}); !impl.ContentValid(c) {
			t.Errorf("ContentValid(%v) does not hold", c)
		}
		for _, value := range []int{math.MinInt, -100, -2, -1, 1, 2, 9, 10, 50, 99, 100, math.MaxInt} {
			if c := (impl.Content{Kind: kind, Value: value}); impl.ContentValid(c) {
				t.Errorf("ContentValid(%v) holds", c)
			}
		}
	}
	for _, c := range manyContents() {
		if !impl.ContentValid(c) || c.Kind == impl.KindFile {
			continue
		}
		if asFile := (impl.Content{Kind: impl.KindFile, Value: c.Value}); !impl.ContentValid(asFile) {
			t.Errorf("ContentValid(%v) holds, and not for %v", c, asFile)
		}
	}
}

// Promise 13.
func TestFilesWithAZeroInFrontOrABlankBehind(t *testing.T) {
	files := 0
	for _, s := range contentTexts() {
		c, ok := impl.ContentParse(s)
		if !ok || c.Kind != impl.KindFile {
			continue
		}
		files++
		for _, other := range []string{"f0" + s[1:], "f00" + s[1:], s + " ", s + "  ", "f0" + s[1:] + " "} {
			if got, ok := impl.ContentParse(other); ok || got != (impl.Content{}) {
				t.Errorf("ContentParse(%q) is %v, %v", other, got, ok)
			}
		}
	}
	if files < 100 {
		t.Errorf("only %d texts were files", files)
	}
	for value := range 100 {
		digits := strconv.Itoa(value)
		if c, ok := impl.ContentParse("f" + digits); !ok || c.Value != value || c.Kind != impl.KindFile {
			t.Errorf("ContentParse(%q) is %v, %v", "f"+digits, c, ok)
		}
		if c, ok := impl.ContentParse("f0" + digits); ok {
			t.Errorf("ContentParse(%q) is %v", "f0"+digits, c)
		}
	}
}
