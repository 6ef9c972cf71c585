package path_test

import (
	"slices"
	"strings"
	"sync"
	"testing"

	"hogshead/api"
	"hogshead/path"
)

// text makes n bytes that may stand in a part.
func text(n int) string { return strings.Repeat("x", n) }

// deep makes n parts of one byte.
func deep(n int) []string { return strings.Split(text(n), "") }

// wide makes n bytes (200 or some more) in four parts.
func wide(n int) []string {
	long := text(api.MaxSeg)
	return []string{long, long, long, text(n - 3*(api.MaxSeg+1))}
}

// slashed lays parts behind one another, whether that is a path or not.
func slashed(parts []string) string { return strings.Join(parts, "/") }

// model says by the chapter's words, byte by byte and on its own, which parts a text has.
func model(p string) ([]string, bool) {
	if p == "" {
		return nil, true
	}
	var parts []string
	start := 0
	for i := 0; i <= len(p); i++ {
		if i < len(p) && p[i] == 0 {
			return nil, false
		}
		if i == len(p) || p[i] == '/' {
			parts = append(parts, p[start:i])
			start = i + 1
		}
	}
	for _, s := range parts {
		marked := len(s) >= 4 && s[:4] == ".wh."
		if s == "" || s == "." || s == ".." || marked || len(s) > 60 {
			return nil, false
		}
	}
	if len(p) > 200 || len(parts) > 10 {
		return nil, false
	}
	return parts, true
}

// texts makes all texts of up to n of the pieces.
func texts(n int, pieces ...string) []string {
	all, last := []string{""}, []string{""}
	for range n {
		var next []string
		for _, s := range last {
			for _, piece := range pieces {
				next = append(next, s+piece)
			}
		}
		all, last = append(all, next...), next
	}
	return all
}

// edges are texts at the limits and one past them, and what is handed in by mistake.
func edges() []string {
	long, over := text(api.MaxSeg), text(api.MaxSeg+1)
	return []string{
		"", "a", "a/b", "a/b/cc", long, over, long + "/" + long, "a/" + over, over + "/a",
		slashed(deep(api.MaxDepth)), slashed(deep(api.MaxDepth + 1)),
		slashed(wide(api.MaxPath)), slashed(wide(api.MaxPath + 1)),
		slashed(slices.Repeat([]string{text(19)}, 10)), slashed(slices.Repeat([]string{text(20)}, 10)),
		"/", "//", "/a", "a/", "a//b", "a/b/", ".", "..", "...", "./a", "a/.", "a/..", "../a", "a/./b", "a/../b", "a/...",
		".wh", ".wh.", ".wh.a", ".wh..wh.opq", "a/.wh.", "a/.wh.b", ".wh.a/b", "a.wh.", "a/b.wh.c", ".WH.a",
		"\x00", "a\x00", "\x00a", "a/\x00", "a/b\x00c", "\xff", "\xff/\xfe", "\n", " / ", "ä/\u2028", "\\", "a\\b",
		strings.Repeat("/", 1<<16), text(1 << 16), strings.Repeat("a/", 1<<16), strings.Repeat("\x00", 1<<16),
	}
}

func TestPart(t *testing.T) {
	long := text(api.MaxSeg)
	for _, s := range []string{"a", "A0-_+", "...", "....", ".a", "a.", "..a", ".w", ".wh", ".whx", "wh.", "a.wh.", "..wh.", ".WH.", " ", "\n", "\xff", "ä", "\\", "~", long, strings.Repeat("\xff", api.MaxSeg), strings.Repeat(".", api.MaxSeg)} {
		if !path.Part(s) {
			t.Errorf("P1.1: Part(%q) is false", s)
		}
	}
	for _, s := range []string{"", ".", "..", ".wh.", ".wh.a", ".wh..", ".wh.\xff", "/", "a/b", "/a", "a/", "\x00", "a\x00", "\x00a", "a\x00b", long + "x", strings.Repeat("ä", api.MaxSeg/2) + "x", text(1 << 20), long[1:] + "/", long[1:] + "\x00", ".wh." + text(api.MaxSeg-4)} {
		if path.Part(s) {
			t.Errorf("P1.1: Part(%q) is true", s)
		}
	}
}

func TestPartOfEachByte(t *testing.T) {
	for n := range 256 {
		b := string([]byte{byte(n)})
		free := n != 0 && n != '/'
		if path.Part(b) != (free && n != '.') {
			t.Errorf("P1.1: Part of the byte %d", n)
		}
		for _, s := range []string{"a" + b, b + "a", "a" + b + "a", text(api.MaxSeg-1) + b} {
			if path.Part(s) != free {
				t.Errorf("P1.1: Part(%q)", s)
			}
		}
	}
}

func TestPartOfEachLength(t *testing.T) {
	for n := range 2 * api.MaxSeg {
		if path.Part(text(n)) != (n >= 1 && n <= 60) {
			t.Errorf("P1.1: Part of %d bytes", n)
		}
	}
}

func TestMay(t *testing.T) {
	for _, p := range []string{"", "a", "a/b", ".../.wh/a.wh.", "\xff/ /\n", text(60), text(60) + "/" + text(60), slashed(deep(10)), slashed(wide(200)), slashed(slices.Repeat([]string{text(19)}, 10))} {
		if !path.May(p) {
			t.Errorf("P1.1: May(%q) is false", p)
		}
	}
	for _, p := range []string{"/", "//", "/a", "a/", "a//b", ".", "..", "a/.", "../a", "a/../b", ".wh.", "a/.wh.b", ".wh.a/b", "\x00", "a/b\x00", text(61), "a/" + text(61), slashed(deep(11)), slashed(wide(201)), slashed(wide(200)) + "/", slashed(slices.Repeat([]string{text(60)}, 10))} {
		if path.May(p) {
			t.Errorf("P1.1: May(%q) is true", p)
		}
	}
}

func TestMayOfEachDepthAndLength(t *testing.T) {
	for n := 1; n < 3*api.MaxDepth; n++ {
		if path.May(slashed(deep(n))) != (n <= 10) {
			t.Errorf("P1.1: May of %d parts", n)
		}
	}
	for n := api.MaxPath - 10; n < api.MaxPath+10; n++ {
		if p := slashed(wide(n)); len(p) != n || path.May(p) != (n <= 200) {
			t.Errorf("P1.1: May of %d bytes", n)
		}
	}
}

func TestSplit(t *testing.T) {
	for _, x := range []struct {
		p    string
		want []string
	}{
		{"", nil}, {"a", []string{"a"}}, {"a/b", []string{"a", "b"}}, {"a/b/cc", []string{"a", "b", "cc"}}, {"a/a", []string{"a", "a"}},
		{".../\xff", []string{"...", "\xff"}}, {slashed(deep(10)), deep(10)}, {slashed(wide(200)), wide(200)},
		{"/", nil}, {"/a", nil}, {"a/", nil}, {"a//b", nil}, {"a/..", nil}, {"a/.wh.b", nil}, {"a/\x00", nil}, {slashed(deep(11)), nil}, {slashed(wide(201)), nil}, {"a/" + text(61), nil},
	} {
		if got := path.Split(x.p); !slices.Equal(got, x.want) {
			t.Errorf("P1.1: Split(%q): %q", x.p, got)
		}
	}
}

func TestSplitIsNewEachTime(t *testing.T) {
	first, second := path.Split("a/b/c"), path.Split("a/b/c")
	for i := range first {
		first[i] = "z"
	}
	_ = append(first[:1], "y", "y")
	if !slices.Equal(second, []string{"a", "b", "c"}) || !slices.Equal(path.Split("a/b/c"), second) {
		t.Error("R4: two answers of Split share memory")
	}
}

func TestJoin(t *testing.T) {
	for _, x := range []struct {
		parts []string
		want  string
		ok    bool
	}{
		{nil, "", true}, {[]string{}, "", true}, {[]string{"a"}, "a", true}, {[]string{"a", "b"}, "a/b", true}, {[]string{"b", "a", "b"}, "b/a/b", true},
		{deep(10), "x/x/x/x/x/x/x/x/x/x", true}, {deep(11), "", false}, {wide(200), slashed(wide(200)), true}, {wide(201), "", false},
		{[]string{text(60)}, text(60), true}, {[]string{text(61)}, "", false}, {slices.Repeat([]string{text(60)}, 10), "", false},
		{[]string{""}, "", false}, {[]string{"", ""}, "", false}, {[]string{"a", ""}, "", false}, {[]string{"", "a"}, "", false},
		{[]string{"a/b"}, "", false}, {[]string{"a", "/"}, "", false}, {[]string{"."}, "", false}, {[]string{"a", ".."}, "", false}, {[]string{"...", ".wh"}, ".../.wh", true},
		{[]string{"a", ".wh.b"}, "", false}, {[]string{"\x00", "a"}, "", false}, {make([]string, 1<<20), "", false}, {deep(1 << 20), "", false}, {[]string{text(1 << 20), "a"}, "", false},
	} {
		if p, ok := path.Join(x.parts...); p != x.want || ok != x.ok {
			t.Errorf("P1.1: Join of %d parts, %.80q: %q, %t", len(x.parts), x.want, p, ok)
		}
	}
	if p, ok := path.Join(); p != "" || !ok {
		t.Errorf("P1.1: Join(): %q, %t", p, ok)
	}
}

func TestJoinLeavesItsParts(t *testing.T) {
	for _, given := range [][]string{{"a", "b", "c", "spare", "room"}, {"a", "..", "c", "spare", "room"}, {"a", text(61), "c", "spare", "room"}} {
		kept := slices.Clone(given)
		path.Join(given[:3]...)
		if !slices.Equal(given, kept) {
			t.Errorf("R4: Join made %q of %q", given, kept)
		}
	}
}

func TestJoinedStaysWhenPartsChange(t *testing.T) {
	parts := []string{"a", "b"}
	p, _ := path.Join(parts...)
	parts[0], parts[1] = "z", "z"
	if p != "a/b" {
		t.Errorf("R4: what was joined is %q now", p)
	}
}

func TestParentAndBase(t *testing.T) {
	ten, top := slashed(deep(10)), slashed(wide(200))
	for _, x := range []struct {
		p, parent string
		ok        bool
		base      string
	}{
		{"", "", false, ""}, {"a", "", true, "a"}, {"a/b", "a", true, "b"}, {"a/b/cc", "a/b", true, "cc"}, {"a/a", "a", true, "a"}, {".../.wh", "...", true, ".wh"},
		{ten, ten[:len(ten)-2], true, "x"}, {top, slashed(wide(200)[:3]), true, text(17)}, {text(60), "", true, text(60)},
		{"/", "", false, ""}, {"/a", "", false, ""}, {"a/", "", false, ""}, {"a//b", "", false, ""}, {"a/..", "", false, ""}, {"./a", "", false, ""}, {"a/.wh.b", "", false, ""}, {".wh.a/b", "", false, ""},
		{"a/\x00", "", false, ""}, {"\x00/a", "", false, ""}, {text(61), "", false, ""}, {text(61) + "/a", "", false, ""}, {slashed(deep(11)), "", false, ""}, {slashed(wide(201)), "", false, ""},
	} {
		if p, ok := path.Parent(x.p); p != x.parent || ok != x.ok {
			t.Errorf("P1.1, R2: Parent(%q): %q, %t", x.p, p, ok)
		}
		if b := path.Base(x.p); b != x.base {
			t.Errorf("P1.1, R2: Base(%q): %q", x.p, b)
		}
	}
}

func TestUnder(t *testing.T) {
	for _, x := range []struct{ p, dir string }{
		{"", ""}, {"a", ""}, {"a/b", ""}, {"a", "a"}, {"a/b", "a"}, {"a/b/c", "a"}, {"a/b/c", "a/b"}, {"a/b", "a/b"}, {"a/...", "a"}, {"\xff/a", "\xff"},
		{slashed(deep(10)), slashed(deep(9))}, {slashed(wide(200)), slashed(wide(200)[:3])}, {slashed(wide(200)), slashed(wide(200))}, {slashed(wide(200)), ""},
	} {
		if !path.Under(x.p, x.dir) {
			t.Errorf("P1.1: Under(%q, %q) is false", x.p, x.dir)
		}
	}
	for _, x := range []struct{ p, dir string }{
		{"", "a"}, {"a", "a/b"}, {"ab", "a"}, {"a", "ab"}, {"ab/c", "a"}, {"b", "a"}, {"b/a", "a"}, {"a/bc", "a/b"}, {"A", "a"},
		{"a/..", "a"}, {"a/..", ""}, {"a/", "a"}, {"a/b", "a/"}, {"a", "/"}, {"/a", ""}, {"/a", "/"}, {"/", "/"}, {"a//b", "a"}, {"a//b", ""}, {"..", ".."}, {".", ""}, {"a", "."}, {"a/.wh.b", "a"}, {".wh.a/b", ".wh.a"}, {"a/\x00", "a"}, {"\x00", "\x00"},
		{slashed(deep(11)), "x"}, {slashed(deep(11)), ""}, {slashed(deep(11)), slashed(deep(11))}, {slashed(wide(201)), ""}, {slashed(wide(201)), slashed(wide(201))}, {"a/" + text(61), "a"}, {text(61), text(61)},
	} {
		if path.Under(x.p, x.dir) {
			t.Errorf("P1.1: Under(%q, %q) is true", x.p, x.dir)
		}
	}
}

// checkOne holds each call on p against the model.
func checkOne(t *testing.T, p string) {
	t.Helper()
	parts, ok := model(p)
	var parent, base string
	if n := len(parts); n > 0 {
		parent, base = slashed(parts[:n-1]), parts[n-1]
	}
	if path.May(p) != ok || !slices.Equal(path.Split(p), parts) {
		t.Errorf("P1.1: May(%q), Split: %t, %q", p, path.May(p), path.Split(p))
	}
	if path.Part(p) != (len(parts) == 1) {
		t.Errorf("P1.1: Part(%q): %t", p, path.Part(p))
	}
	if up, has := path.Parent(p); up != parent || has != (len(parts) > 0) || path.Base(p) != base {
		t.Errorf("P1.1: Parent(%q), Base: %q, %t, %q", p, up, has, path.Base(p))
	}
	if path.Under(p, p) != ok || path.Under(p, "") != ok {
		t.Errorf("P1.1: Under(%q), itself and the root: %t, %t", p, path.Under(p, p), path.Under(p, ""))
	}
}

func TestAllShortTexts(t *testing.T) {
	for _, p := range append(texts(6, "a", "/", ".", ".wh.", "\x00", "w"), edges()...) {
		checkOne(t, p)
	}
}

func TestUnderOfAllShortPairs(t *testing.T) {
	type told struct {
		p     string
		parts []string
		ok    bool
	}
	var all []told
	for _, p := range append(texts(4, "a", "b", "/", "."), edges()...) {
		parts, ok := model(p)
		all = append(all, told{p, parts, ok})
	}
	for _, high := range all {
		for _, low := range all {
			want := low.ok && high.ok && len(high.parts) <= len(low.parts) && slices.Equal(low.parts[:len(high.parts)], high.parts)
			if path.Under(low.p, high.p) != want {
				t.Fatalf("P1.1: Under(%.80q, %.80q) is not %t", low.p, high.p, want)
			}
		}
	}
}

func TestJoinOfAllShortLists(t *testing.T) {
	pieces := []string{"", "a", "..", ".wh.", "a/b", "\x00", text(60), text(61)}
	lists := [][]string{nil}
	for at := 0; at < len(lists); at++ {
		list := lists[at]
		want := slashed(list)
		_, ok := model(want)
		for _, s := range list {
			ok = ok && s != "" && s != "a/b"
		}
		if !ok {
			want = ""
		}
		if p, has := path.Join(list...); p != want || has != ok {
			t.Errorf("P1.1: Join(%q): %q, %t", list, p, has)
		}
		for _, s := range pieces {
			if len(list) < 4 {
				lists = append(lists, append(slices.Clone(list), s))
			}
		}
	}
}

// checkBack holds one path against the promise that taking apart and joining tells it again.
func checkBack(t *testing.T, p string) {
	t.Helper()
	if back, ok := path.Join(path.Split(p)...); back != p || !ok {
		t.Errorf("P1.2: Join of Split of %q: %q, %t", p, back, ok)
	}
	parent, has := path.Parent(p)
	if has != (p != "") {
		t.Errorf("P1.2: Parent of %q: %t", p, has)
	}
	if !has {
		return
	}
	if back, ok := path.Join(append(path.Split(parent), path.Base(p))...); back != p || !ok {
		t.Errorf("P1.2: Join of Parent's parts and Base of %q: %q, %t", p, back, ok)
	}
	if !path.May(parent) || !path.Part(path.Base(p)) || !path.Under(p, parent) || path.Under(parent, p) {
		t.Errorf("P1.2: Parent %q and Base %q of %q", parent, path.Base(p), p)
	}
}

func TestThereAndBack(t *testing.T) {
	count := 0
	for _, p := range append(texts(6, "a", "b", "/", ".", ".wh."), edges()...) {
		if _, ok := model(p); ok {
			count++
			checkBack(t, p)
		}
	}
	if count < 1000 {
		t.Errorf("only %d paths were looked at", count)
	}
}

func TestFromSeveralGoroutines(t *testing.T) {
	var all sync.WaitGroup
	for range 8 {
		all.Go(func() {
			for _, p := range edges() {
				checkOne(t, p)
			}
		})
	}
	all.Wait()
}
