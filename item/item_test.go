package item_test

import (
	"fmt"
	"math"
	"reflect"
	"regexp"
	"slices"
	"strconv"
	"strings"
	"sync"
	"testing"

	"hogshead/api"
	"hogshead/item"
)

// signs are those that the chapter lists for a hash, written out as it does.
const signs = "0123456789abcdfghijklmnpqrsvwxyz"

func dir(p string) api.Node { return api.Node{Path: p, Kind: api.Dir} }

func file(p, data string) api.Node { return api.Node{Path: p, Kind: api.File, Data: data} }

func exec(p, data string) api.Node { return api.Node{Path: p, Kind: api.Exec, Data: data} }

func link(p, data string) api.Node { return api.Node{Path: p, Kind: api.Link, Data: data} }

// text makes n bytes that may stand in a part of a path, and behind a name's stroke.
func text(n int) string { return strings.Repeat("x", n) }

// byteText is the text of one byte, which may be no letter.
func byteText(b int) string { return string([]byte{byte(b)}) }

// sample is an item that may be, with nodes of all kinds.
func sample() api.Item {
	return api.Item{
		Name: "0123456a-x",
		Refs: []string{"00000000-a", "0123456a-x", "bcdfghij-gcc.lib_1+2-3", "zzzzzzzz-y"},
		Tree: []api.Node{dir(""), dir("a"), file("a-b", "1"), dir("a/b"), exec("a/b/c", "\x00\xff"), link("a/l", "../a"), file("b", text(400))},
	}
}

// with is the sample, but for what turn does.
func with(turn func(i *api.Item)) api.Item {
	i := sample()
	turn(&i)
	return i
}

// refer is the sample with these Refs.
func refer(refs ...string) api.Item { return with(func(i *api.Item) { i.Refs = refs }) }

// holding is the sample with this Tree.
func holding(nodes ...api.Node) api.Item { return with(func(i *api.Item) { i.Tree = nodes }) }

// refs makes n names, rising.
func refs(n int) []string {
	var all []string
	for i := range n {
		all = append(all, strconv.Itoa(10000000+i)+"-x")
	}
	return all
}

// flat makes a tree of n nodes: the root, and files in it.
func flat(n int) []api.Node {
	t := []api.Node{dir("")}
	for i := 1; i < n; i++ {
		t = append(t, file("f"+strconv.Itoa(10000000+i), strconv.Itoa(i)))
	}
	return t
}

// chain makes the tree of a path of these parts: a Dir for each, one in the other.
func chain(parts ...string) []api.Node {
	t := []api.Node{dir("")}
	for n := range parts {
		t = append(t, dir(strings.Join(parts[:n+1], "/")))
	}
	return t
}

// wide makes parts, as many as asked for, whose path has n bytes.
func wide(n, parts int) []string {
	var all []string
	left := n - (parts - 1)
	for i := range parts {
		size := left / (parts - i)
		all, left = append(all, text(size)), left-size
	}
	return all
}

var nameRule = regexp.MustCompile(`\A[0-9a-df-np-sv-z]{8}-[a-z0-9][a-z0-9.+_-]{0,20}\z`)

// modelName says what a name is by a rule of another kind.
func modelName(s string) bool { return nameRule.MatchString(s) }

// modelMay says by the chapter's words which item may be, of trees whose nodes are as they are asked of here.
func modelMay(i api.Item) bool {
	if !modelName(i.Name) || len(i.Refs) > 8 || len(i.Tree) > 24 || len(i.Tree) == 0 {
		return false
	}
	for at, ref := range i.Refs {
		for _, ahead := range i.Refs[:at] {
			if ahead >= ref {
				return false
			}
		}
		if !modelName(ref) {
			return false
		}
	}
	for at, n := range i.Tree {
		if (at == 0) != (n.Path == "") || n.Kind < 1 || n.Kind > 4 || n.Kind == 1 && n.Data != "" || n.Kind == 4 && n.Data == "" || len(n.Data) > 400 || len(n.Path) > 120 || strings.Count(n.Path, "/") > 7 {
			return false
		}
		housed := at == 0
		for _, ahead := range i.Tree[:at] {
			if ahead.Path >= n.Path {
				return false
			}
			parent := ""
			if cut := strings.LastIndex(n.Path, "/"); cut >= 0 {
				parent = n.Path[:cut]
			}
			housed = housed || ahead.Kind == 1 && ahead.Path == parent
		}
		if !housed {
			return false
		}
	}
	return true
}

// modelSame says by all that is in two items whether they are the same, nil lists and empty ones alike.
func modelSame(a, b api.Item) bool { return show(a) == show(b) }

// show writes an item so that two unlike ones are written unlike.
func show(i api.Item) string {
	var s strings.Builder
	fmt.Fprintf(&s, "%q, %d refs", i.Name, len(i.Refs))
	for _, ref := range i.Refs {
		fmt.Fprintf(&s, " %q", ref)
	}
	fmt.Fprintf(&s, ", %d nodes", len(i.Tree))
	for _, n := range i.Tree {
		fmt.Fprintf(&s, " (%q %d %q)", n.Path, n.Kind, n.Data)
	}
	return s.String()
}

// checkName holds Name and Hash of s against what they are to tell.
func checkName(t *testing.T, s string, want bool) {
	t.Helper()
	hash := ""
	if want {
		hash = s[:8]
	}
	if got := item.Name(s); got != want {
		t.Errorf("P7.1: Name(%.60q) of %d bytes is %t", s, len(s), got)
	}
	if got := item.Hash(s); got != hash {
		t.Errorf("P7.1: Hash(%.60q) of %d bytes is %q, not %q", s, len(s), got, hash)
	}
	// What is a name at all is one as an item's Name and as a reference too, and else neither.
	if item.May(with(func(i *api.Item) { i.Name = s })) != want {
		t.Errorf("P7.1: May of an item of the Name %.60q is not %t", s, want)
	}
	if item.May(refer(s)) != want {
		t.Errorf("P7.1: May of an item with the reference %.60q is not %t", s, want)
	}
}

func checkMay(t *testing.T, what string, i api.Item, want bool) {
	t.Helper()
	if item.May(i) != want {
		t.Errorf("P7.1: May of %s is not %t", what, want)
	}
}

func TestName(t *testing.T) {
	for _, s := range []string{
		"0123456a-x", "00000000-0", "zzzzzzzz-z", "abcdfghi-0", "vwxyzzzz-a.b+c_d-e", "01234567-a-", "01234567-a--", "01234567-a..", "01234567-0.1", "89abcdfg-gcc", "hijklmnp-eotu", "qrsvwxyz-hello-2.12",
		"01234567-01234567-x", "01234567-" + text(21),
	} {
		checkName(t, s, true)
	}
	for _, s := range []string{
		"", "-", "x", "-x", "01234567", "01234567-", "0123456-x", "0123456-xx", "012345678-x", "01234567x", "01234567xx", "01234567_x", "01234567 x", "01234567/x", "0123456e-x", "0123456o-x", "0123456t-x", "0123456u-x", "0123456A-x",
		"01234567--", "01234567--x", "01234567-.x", "01234567-+x", "01234567-_x", "01234567-.", "01234567-aA", "01234567-A", "01234567-a/", "01234567-a b", "01234567-a\n", "01234567-a\x00", "\n01234567-a", " 01234567-a", "01234567-a ", "01234567-ä", "01234567-aä", "0123456ä-a", "ä123456-a",
		"01234567\u2010x", "０1234567-x", "01234567-" + text(22), "01234567-" + text(23), strings.Repeat("01234567-x", 4), text(30), strings.Repeat("0", 30), strings.Repeat("-", 10),
	} {
		checkName(t, s, false)
	}
}

func TestEachByteOfAHash(t *testing.T) {
	count := 0
	for b := range 256 {
		is := strings.IndexByte(signs, byte(b)) >= 0
		if is {
			count++
		}
		for at := range 8 {
			for _, hash := range []string{"01234567", "zyxwvsrq", "abcdfghi"} {
				checkName(t, hash[:at]+byteText(b)+hash[at+1:]+"-x", is)
				checkName(t, hash[:at]+byteText(b)+hash[at+1:]+"-"+text(21), is)
			}
		}
	}
	if count != 32 {
		t.Errorf("%d signs of a hash", count)
	}
}

func TestEachByteForTheStroke(t *testing.T) {
	for b := range 256 {
		for _, rest := range []string{"x", "xyz", text(21)} {
			checkName(t, "01234567"+byteText(b)+rest, b == '-')
		}
	}
	for n := range 40 {
		checkName(t, "01234567"+text(n), false)
		checkName(t, strings.Repeat("0", n)+"-x", n == 8)
	}
}

func TestEachByteBehindTheStroke(t *testing.T) {
	for b := range 256 {
		first := b >= 'a' && b <= 'z' || b >= '0' && b <= '9'
		rest := first || b == '.' || b == '+' || b == '_' || b == '-'
		for n := 1; n <= 21; n++ {
			checkName(t, "01234567-"+byteText(b)+text(n-1), first)
			for at := 1; at < n; at++ {
				checkName(t, "01234567-"+text(at)+byteText(b)+text(n-1-at), rest)
			}
		}
		checkName(t, "01234567-"+strings.Repeat(byteText(b), 21), first)
		checkName(t, "01234567-"+strings.Repeat(byteText(b), 22), false)
		checkName(t, "01234567-0"+strings.Repeat(byteText(b), 20), rest)
		checkName(t, "01234567-0"+strings.Repeat(byteText(b), 21), false)
	}
}

func TestEachLengthOfAName(t *testing.T) {
	for n := range 300 {
		checkName(t, "01234567-"+text(n), n >= 1 && n <= 21)
		checkName(t, text(n), false)
	}
	for n := range 10 {
		checkName(t, "01234567-x"[:n], false)
	}
	checkName(t, "01234567-"+text(1<<24), false)
}

func TestNamesChangedAtEachPlace(t *testing.T) {
	pool := []string{"", "0", "e", "z", "-", "--", ".", "A", "/", "\x00", "\n", "\xff", "ä", "-x", "01234567-"}
	for _, s := range []string{"01234567-x", "abcdfghi-a.b", "zzzzzzzz--", "0123456e-x", "zzzzzzzz-" + text(21), "zzzzzzzz-" + text(20), "zzzzzzzz-" + text(22)} {
		for at := range len(s) {
			for _, put := range pool {
				for _, other := range []string{s[:at] + put + s[at:], s[:at] + put + s[at+1:]} {
					checkName(t, other, modelName(other))
				}
			}
			checkName(t, s[at:]+s[:at], modelName(s[at:]+s[:at]))
		}
	}
}

func TestHashIsAsItStands(t *testing.T) {
	// Two names may have one hash: what stands behind it is not looked at.
	for s, want := range map[string]string{"0123456a-x": "0123456a", "0123456a-y": "0123456a", "zzzzzzzz-01234567-x": "zzzzzzzz", "0123456e-x": "", "0123456a": "", "0123456a-": "", "": "", "0123456a-X": ""} {
		if got := item.Hash(s); got != want {
			t.Errorf("P7.1: Hash(%q) is %q, not %q", s, got, want)
		}
	}
}

func TestMay(t *testing.T) {
	checkMay(t, "the sample", sample(), true)
	checkMay(t, "no item at all", api.Item{}, false)
	checkMay(t, "a Name alone", api.Item{Name: "01234567-x"}, false)
	checkMay(t, "a Name and a root", api.Item{Name: "01234567-x", Tree: []api.Node{dir("")}}, true)
	checkMay(t, "a root without a Name", api.Item{Tree: []api.Node{dir("")}}, false)
	checkMay(t, "a Name that is none", with(func(i *api.Item) { i.Name = "x" }), false)
	checkMay(t, "a Name that is a hash", with(func(i *api.Item) { i.Name = "01234567" }), false)
	checkMay(t, "a Name that is too long", with(func(i *api.Item) { i.Name = "01234567-" + text(22) }), false)
	checkMay(t, "a Name that is long", with(func(i *api.Item) { i.Name = "01234567-" + text(21) }), true)
}

func TestMayOfRefs(t *testing.T) {
	for _, x := range []struct {
		what string
		refs []string
		want bool
	}{
		{"no Refs", nil, true}, {"empty Refs", []string{}, true}, {"Refs with room", make([]string, 0, 9), true},
		{"itself", []string{"0123456a-x"}, true}, {"another", []string{"zzzzzzzz-y"}, true}, {"two of one hash", []string{"01234567-x", "01234567-y"}, true}, {"two, one longer", []string{"01234567-x", "01234567-xx"}, true},
		{"two, one longer, turned", []string{"01234567-xx", "01234567-x"}, false}, {"two of one hash, turned", []string{"01234567-y", "01234567-x"}, false},
		{"by bytes", []string{"01234567-a+", "01234567-a-", "01234567-a.", "01234567-a0", "01234567-a_", "01234567-aa"}, true}, {"by bytes, turned", []string{"01234567-a-", "01234567-a+"}, false}, {"digits behind letters", []string{"a0000000-x", "00000000-x"}, false},
		{"one twice", []string{"zzzzzzzz-y", "zzzzzzzz-y"}, false}, {"one twice behind others", []string{"00000000-a", "00000000-b", "00000000-b"}, false}, {"one again later", []string{"00000000-a", "00000000-b", "00000000-a"}, false},
		{"no name", []string{"b"}, false}, {"an empty one", []string{""}, false}, {"an empty one ahead", []string{"", "00000000-a"}, false}, {"a hash alone", []string{"00000000"}, false}, {"no name behind", []string{"00000000-a", "z"}, false}, {"no name between", []string{"00000000-a", "00000000e", "zzzzzzzz-a"}, false},
		{"one too long", []string{"00000000-" + text(22)}, false}, {"a path", []string{"/store/00000000-a"}, false},
	} {
		checkMay(t, x.what, refer(x.refs...), x.want)
	}
}

func TestMayOfEachNumberOfRefs(t *testing.T) {
	for n := range 40 {
		checkMay(t, strconv.Itoa(n)+" Refs", refer(refs(n)...), n <= 8)
		turned := refs(n)
		slices.Reverse(turned)
		checkMay(t, strconv.Itoa(n)+" Refs turned", refer(turned...), n <= 1)
		if n > 1 {
			checkMay(t, strconv.Itoa(n)+" Refs all the same", refer(slices.Repeat(refs(1), n)...), false)
		}
	}
	checkMay(t, "very many Refs", refer(refs(1<<16)...), false)
	for at := range 8 {
		wrong := refs(8)
		wrong[at] = wrong[at][:8] + "_x"
		checkMay(t, "no name at "+strconv.Itoa(at), refer(wrong...), false)
		if at == 0 {
			continue
		}
		wrong = refs(8)
		wrong[at] = wrong[at-1]
		checkMay(t, "one twice at "+strconv.Itoa(at), refer(wrong...), false)
		wrong = refs(8)
		wrong[at], wrong[at-1] = wrong[at-1], wrong[at]
		checkMay(t, "two turned at "+strconv.Itoa(at), refer(wrong...), false)
		wrong = refs(8)
		wrong[at] = "00000000-x"
		checkMay(t, "a low one at "+strconv.Itoa(at), refer(wrong...), false)
	}
}

func TestMayOfAllShortRefs(t *testing.T) {
	pool := []string{"", "00000000-", "00000000-a", "00000000-b", "0000000e-a", "01234567-a.b", "z", "zzzzzzzz-a"}
	lists := [][]string{nil}
	for from := 0; len(lists[from]) < 4; from++ {
		for _, s := range pool {
			lists = append(lists, append(slices.Clone(lists[from]), s))
		}
	}
	good := 0
	for _, l := range lists {
		want := modelMay(refer(l...))
		if item.May(refer(l...)) != want {
			t.Errorf("P7.1: May with the Refs %q is not %t", l, want)
		}
		if want {
			good++
		}
	}
	// All choices of the four names of the pool, in their one order.
	if good != 16 {
		t.Errorf("%d lists of Refs may be", good)
	}
}

func TestMayOfTrees(t *testing.T) {
	for _, x := range []struct {
		what string
		t    []api.Node
		want bool
	}{
		{"no Tree", nil, false}, {"an empty Tree", []api.Node{}, false}, {"a Tree with room", make([]api.Node, 0, 3), false},
		{"the root alone", []api.Node{dir("")}, true}, {"a file as root", []api.Node{file("", "x")}, true}, {"a program as root", []api.Node{exec("", "")}, true}, {"a link as root", []api.Node{link("", "x")}, true},
		{"a root of no Kind", []api.Node{{}}, false}, {"a link as root without Data", []api.Node{link("", "")}, false}, {"no root", []api.Node{file("a", "")}, false}, {"the root behind", []api.Node{file("a", ""), dir("")}, false}, {"two roots", []api.Node{dir(""), dir("")}, false},
		{"a node under a file as root", []api.Node{file("", ""), file("a", "")}, false}, {"one path twice", []api.Node{dir(""), file("a", ""), file("a", "")}, false}, {"out of order", []api.Node{dir(""), file("b", ""), file("a", "")}, false},
		{"no Parent", []api.Node{dir(""), file("a/b", "")}, false}, {"a Parent that is a link", []api.Node{dir(""), link("a", "b"), file("a/b", "")}, false}, {"a Dir with Data", []api.Node{dir(""), {Path: "a", Kind: api.Dir, Data: "x"}}, false},
		{"a Kind that is none", []api.Node{dir(""), {Path: "a", Kind: 5}}, false}, {"a Kind that is far off", []api.Node{dir(""), {Path: "a", Kind: math.MinInt}}, false}, {"a path that is none", []api.Node{dir(""), file("a/", "")}, false}, {"a part that is none", []api.Node{dir(""), file("..", "")}, false}, {"a mark", []api.Node{dir(""), file(".wh.a", "")}, false},
		{"Data at the limit", []api.Node{dir(""), file("a", text(400)), exec("b", text(400)), link("c", text(400))}, true}, {"a file past it", []api.Node{dir(""), file("a", text(401))}, false}, {"a program past it", []api.Node{dir(""), exec("a", text(401))}, false}, {"a link past it", []api.Node{dir(""), link("a", text(401))}, false}, {"a link with a 0", []api.Node{dir(""), link("a", "x\x00")}, false},
		{"what is no letter", []api.Node{dir(""), dir("\x01\xff"), file("\x01\xff/ä\n", "\x00")}, true},
	} {
		checkMay(t, x.what, holding(x.t...), x.want)
	}
}

func TestMayOfEachNumberOfNodes(t *testing.T) {
	for n := range 60 {
		checkMay(t, strconv.Itoa(n+1)+" nodes", holding(flat(n+1)...), n+1 <= 24)
	}
	// A tree may have so many, an item's not.
	checkMay(t, "MaxNodes nodes", holding(flat(400)...), false)
	checkMay(t, "one more", holding(flat(401)...), false)
	checkMay(t, "very many", holding(flat(1<<18)...), false)
	for at := range 24 {
		wrong := flat(24)
		wrong[at].Kind = 0
		checkMay(t, "MaxOwn nodes, a fault at "+strconv.Itoa(at), holding(wrong...), false)
	}
	dirs := chain(slices.Repeat([]string{"d"}, 8)...)
	for i := 0; len(dirs) < 24; i++ {
		dirs = append(dirs, dir("e"+strconv.Itoa(10+i)))
	}
	checkMay(t, "MaxOwn Dirs", holding(dirs...), true)
	checkMay(t, "one more Dir", holding(append(dirs, dir("f"))...), false)
}

func TestMayOfEachLengthOfPaths(t *testing.T) {
	for parts := 2; parts <= 8; parts++ {
		for n := 100; n <= 200; n++ {
			names := wide(n, parts)
			if len(names[parts-1]) > api.MaxSeg {
				// So few parts come to no path of so many bytes.
				continue
			}
			all := chain(names...)
			if len(all[parts].Path) != n {
				t.Fatalf("a path of %d bytes, not %d", len(all[parts].Path), n)
			}
			checkMay(t, fmt.Sprintf("a Dir at a path of %d bytes, %d parts", n, parts), holding(all...), n <= 120)
			for _, last := range []api.Node{file("", "x"), exec("", ""), link("", "x")} {
				last.Path = all[parts].Path
				all[parts] = last
				checkMay(t, fmt.Sprintf("Kind %d at a path of %d bytes, %d parts", last.Kind, n, parts), holding(all...), n <= 120)
			}
		}
	}
	// 120 bytes in 60 letters of two bytes: bytes count, not letters.
	checkMay(t, "letters of two bytes", holding(chain(strings.Repeat("ä", 30), strings.Repeat("ä", 29)+"x")...), true)
	checkMay(t, "one byte more", holding(chain(strings.Repeat("ä", 30), strings.Repeat("ä", 30))...), false)
	for n := 1; n <= 20; n++ {
		for size, want := range map[int]bool{59: true, 60: false} {
			what := fmt.Sprintf("a path of %d bytes, %d nodes about", 61+size, n)
			checkMay(t, what+" ahead", holding(append(flat(n), chain(text(60), text(size))[1:]...)...), want)
			checkMay(t, what+" behind", holding(append(chain(strings.Repeat("a", 60), text(size)), flat(n)[1:]...)...), want)
		}
	}
}

func TestMayOfEachNumberOfParts(t *testing.T) {
	for parts := 1; parts <= 12; parts++ {
		names := slices.Repeat([]string{"d"}, parts)
		all := chain(names...)
		what := strconv.Itoa(parts) + " parts"
		checkMay(t, what, holding(all...), parts <= 8)
		checkMay(t, what+", nodes behind", holding(append(slices.Clone(all), flat(5)[1:]...)...), parts <= 8)
		checkMay(t, what+", nodes ahead", holding(append(append([]api.Node{dir("")}, file("a", ""), file("b", "")), all[1:]...)...), parts <= 8)
		for _, last := range []api.Node{file("", "x"), exec("", ""), link("", "x")} {
			last.Path = all[parts].Path
			all[parts] = last
			checkMay(t, what+", Kind "+strconv.Itoa(last.Kind), holding(all...), parts <= 8)
		}
	}
	// A link's Data is no path within the item.
	checkMay(t, "a link that goes far", holding(dir(""), link("a", strings.Repeat("../", 100))), true)
}

func TestMayOfAllShortTrees(t *testing.T) {
	long := text(60)
	pool := []api.Node{
		dir(""), file("", "x"), {}, dir("a"), file("a", "1"), link("a", ""), dir("a-b"), file("a/b", ""), dir("a/b"), dir(long), file(long+"/"+text(59), ""), file(long+"/"+text(60), ""),
	}
	lists := [][]api.Node{nil}
	for from := 0; len(lists[from]) < 4; from++ {
		for _, n := range pool {
			lists = append(lists, append(slices.Clone(lists[from]), n))
		}
	}
	good := 0
	for _, l := range lists {
		want := modelMay(holding(l...))
		if item.May(holding(l...)) != want {
			t.Fatalf("P7.1: May of %s is not %t", show(holding(l...)), want)
		}
		if want {
			good++
		}
	}
	if good < 20 {
		t.Errorf("only %d trees may be", good)
	}
}

// others are items that part from the sample, each in one thing alone.
func others() map[string]api.Item {
	all := map[string]api.Item{
		"no field":            {},
		"the Name":            with(func(i *api.Item) { i.Name = "0123456a-y" }),
		"a longer Name":       with(func(i *api.Item) { i.Name += "x" }),
		"no Name":             with(func(i *api.Item) { i.Name = "" }),
		"no Refs":             with(func(i *api.Item) { i.Refs = nil }),
		"empty Refs":          with(func(i *api.Item) { i.Refs = []string{} }),
		"a reference more":    with(func(i *api.Item) { i.Refs = append(i.Refs, "zzzzzzzz-z") }),
		"an empty reference":  with(func(i *api.Item) { i.Refs = append(i.Refs, "") }),
		"the last ref twice":  with(func(i *api.Item) { i.Refs = append(i.Refs, i.Refs[len(i.Refs)-1]) }),
		"Refs turned":         with(func(i *api.Item) { slices.Reverse(i.Refs) }),
		"no Tree":             with(func(i *api.Item) { i.Tree = nil }),
		"an empty Tree":       with(func(i *api.Item) { i.Tree = []api.Node{} }),
		"a node more":         with(func(i *api.Item) { i.Tree = append(i.Tree, file("c", "")) }),
		"an empty node more":  with(func(i *api.Item) { i.Tree = append(i.Tree, api.Node{}) }),
		"the last node twice": with(func(i *api.Item) { i.Tree = append(i.Tree, i.Tree[len(i.Tree)-1]) }),
		"nodes turned":        with(func(i *api.Item) { slices.Reverse(i.Tree) }),
	}
	for at := range sample().Refs {
		all["reference "+strconv.Itoa(at)] = with(func(i *api.Item) { i.Refs[at] += "z" })
		all["without reference "+strconv.Itoa(at)] = with(func(i *api.Item) { i.Refs = slices.Delete(i.Refs, at, at+1) })
		all["only references ahead of "+strconv.Itoa(at)] = with(func(i *api.Item) { i.Refs = i.Refs[:at:at] })
	}
	for at := range sample().Tree {
		all["the path of node "+strconv.Itoa(at)] = with(func(i *api.Item) { i.Tree[at].Path += "z" })
		all["the kind of node "+strconv.Itoa(at)] = with(func(i *api.Item) { i.Tree[at].Kind++ })
		all["the data of node "+strconv.Itoa(at)] = with(func(i *api.Item) { i.Tree[at].Data += "z" })
		all["without node "+strconv.Itoa(at)] = with(func(i *api.Item) { i.Tree = slices.Delete(i.Tree, at, at+1) })
		all["only nodes ahead of "+strconv.Itoa(at)] = with(func(i *api.Item) { i.Tree = i.Tree[:at:at] })
	}
	return all
}

func TestSame(t *testing.T) {
	if !item.Same(sample(), sample()) || !item.Same(api.Item{}, api.Item{}) {
		t.Error("P7.1: Same of an item and itself")
	}
	all := others()
	for what, i := range all {
		if item.Same(sample(), i) || item.Same(i, sample()) {
			t.Errorf("P7.1: Same of two that part in %s", what)
		}
		if !item.Same(i, item.Own(i)) {
			t.Errorf("P7.1: Same of one that parts in %s, and itself", what)
		}
		for other, j := range all {
			if item.Same(i, j) != modelSame(i, j) {
				t.Errorf("P7.1: Same of %s, %s", what, other)
			}
		}
	}
}

func TestSameOfEmptyLists(t *testing.T) {
	forms := []api.Item{
		{Name: "x"}, {Name: "x", Refs: []string{}}, {Name: "x", Tree: []api.Node{}}, {Name: "x", Refs: []string{}, Tree: []api.Node{}}, {Name: "x", Refs: sample().Refs[:0], Tree: sample().Tree[:0]},
	}
	for _, a := range forms {
		for _, b := range forms {
			if !item.Same(a, b) {
				t.Errorf("P7.1: Same of nil and empty lists: %#v, %#v", a, b)
			}
		}
		for _, b := range []api.Item{{}, {Name: "x", Refs: []string{""}}, {Name: "x", Tree: []api.Node{{}}}} {
			if item.Same(a, b) || item.Same(b, a) {
				t.Errorf("P7.1: Same of %#v, %#v", a, b)
			}
		}
	}
}

func TestSameTakesNoHeedOfRoom(t *testing.T) {
	a, _ := roomy(sample())
	if !item.Same(a, sample()) || !item.Same(sample(), a) || !item.May(a) {
		t.Error("P7.1, R5: an answer hangs on spare room")
	}
}

func TestOwn(t *testing.T) {
	all := others()
	all["the sample"] = sample()
	all["very much"] = api.Item{Name: text(1 << 20), Refs: refs(1 << 12), Tree: flat(1 << 12)}
	for what, i := range all {
		own := item.Own(i)
		if !modelSame(own, i) {
			t.Errorf("P7.1: Own of %s is %.300s", what, show(own))
		}
		if item.May(own) != item.May(i) {
			t.Errorf("P7.1: Own of %s may be, or may not, unlike it", what)
		}
	}
}

func TestNames(t *testing.T) {
	if got := item.Names(); len(got) != 0 {
		t.Errorf("P7.1: Names of none: %q", got)
	}
	var none []api.Item
	if got := append(item.Names(none...), item.Names([]api.Item{}...)...); len(got) != 0 {
		t.Errorf("P7.1: Names of no list: %q", got)
	}
	named := func(names ...string) []api.Item {
		var is []api.Item
		for _, name := range names {
			is = append(is, with(func(i *api.Item) { i.Name = name }))
		}
		return is
	}
	for _, names := range [][]string{
		{"0123456a-x"}, {""}, {"?"}, {"b", "a"}, {"zzzzzzzz-a", "00000000-a", "bbbbbbbb-a"}, {"0123456a-x", "0123456a-x"}, {"a", "b", "a", "", "", "a"}, {"\x00", "\xff", "ä", "no\nname"}, refs(8), refs(9), refs(5000),
	} {
		if got := item.Names(named(names...)...); !slices.Equal(got, names) {
			t.Errorf("P7.1: Names of %.200q: %.200q", names, got)
		}
		turned := slices.Clone(names)
		slices.Reverse(turned)
		if got := item.Names(named(turned...)...); !slices.Equal(got, turned) {
			t.Errorf("P7.1: Names of %.200q: %.200q", turned, got)
		}
	}
	if got := item.Names(sample(), api.Item{}, api.Item{Name: "?", Refs: []string{"a"}}); !slices.Equal(got, []string{"0123456a-x", "", "?"}) {
		t.Errorf("P7.1: Names of three: %q", got)
	}
}

// roomy tells an item with spare room that holds other things, and one whose lists show all of that.
func roomy(i api.Item) (given, all api.Item) {
	all = api.Item{Name: i.Name, Refs: append(slices.Clone(i.Refs), slices.Repeat([]string{"room"}, 9)...), Tree: append(slices.Clone(i.Tree), slices.Repeat([]api.Node{file("room", "r")}, 30)...)}
	return api.Item{Name: i.Name, Refs: all.Refs[:len(i.Refs)], Tree: all.Tree[:len(i.Tree)]}, all
}

// copied is a copy of all that is in an item, made without the package.
func copied(i api.Item) api.Item {
	return api.Item{Name: i.Name, Refs: append([]string{}, i.Refs...), Tree: append([]api.Node{}, i.Tree...)}
}

func TestWhatIsHandedInStays(t *testing.T) {
	for what, i := range others() {
		given, all := roomy(i)
		kept := copied(all)
		list := []api.Item{given, sample(), given, {Name: "room"}, {Name: "room"}}
		item.May(given)
		item.Own(given)
		item.Same(given, sample())
		item.Same(sample(), given)
		item.Same(given, given)
		item.Names(given)
		item.Names(list[:3]...)
		item.Names(list[:1]...)
		if !reflect.DeepEqual(all, kept) {
			t.Errorf("R4: an item that parts in %s is changed, or its room: %s", what, show(all))
		}
		if !reflect.DeepEqual(list, []api.Item{given, sample(), given, {Name: "room"}, {Name: "room"}}) {
			t.Errorf("R4: Names changes its list of items, or the list's room, of %s", what)
		}
	}
}

// spoil changes all that an item's lists hold, and their room too.
func spoil(i api.Item) {
	for at := range i.Refs[:cap(i.Refs)] {
		i.Refs[:cap(i.Refs)][at] = "spoilt"
	}
	for at := range i.Tree[:cap(i.Tree)] {
		i.Tree[:cap(i.Tree)][at] = file("spoilt", "s")
	}
}

func TestOwnSharesNothing(t *testing.T) {
	all := others()
	all["the sample"] = sample()
	for what, i := range all {
		given, room := roomy(i)
		kept := copied(room)
		first, second := item.Own(given), item.Own(given)
		again := item.Own(second)
		spoil(first)
		if !reflect.DeepEqual(room, kept) || !modelSame(second, i) || !modelSame(again, i) {
			t.Errorf("R4: Own of %s shares memory with what was handed in, or with another answer", what)
		}
		spoil(room)
		if !modelSame(second, i) || !modelSame(again, i) {
			t.Errorf("R4: Own of %s changes with what was handed in", what)
		}
		spoil(second)
		if !modelSame(again, i) {
			t.Errorf("R4: Own of what Own tells of %s changes with it", what)
		}
	}
}

func TestNamesSharesNothing(t *testing.T) {
	is := []api.Item{sample(), {Name: "a"}, {Name: "b"}, {Name: "room"}}[:3]
	want := []string{"0123456a-x", "a", "b"}
	first, second := item.Names(is...), item.Names(is...)
	first = append(first[:cap(first)], "more")
	for at := range first {
		first[at] = "spoilt"
	}
	if !slices.Equal(second, want) || is[0].Name != want[0] || is[1].Name != "a" || is[2].Name != "b" || is[:4][3].Name != "room" || !modelSame(is[0], sample()) {
		t.Error("R4: Names shares memory with another answer, or with what was handed in")
	}
	for at := range is {
		is[at] = api.Item{Name: "other"}
	}
	if !slices.Equal(second, want) || !slices.Equal(item.Names(is...), []string{"other", "other", "other"}) {
		t.Error("R4, R5: Names changes with what was handed in, or hangs on a call ahead")
	}
}

func TestFalseLeavesNothingBehind(t *testing.T) {
	for range 3 {
		for what, i := range others() {
			item.May(i)
			item.Hash(i.Name)
			item.Same(i, api.Item{})
			if !item.May(sample()) || item.Hash("0123456a-x") != "0123456a" || !item.Same(sample(), sample()) {
				t.Errorf("R5: an answer hangs on calls ahead, with %s", what)
			}
		}
	}
}

func TestOfVeryMuch(t *testing.T) {
	name := text(1 << 24)
	huge := api.Item{Name: "01234567-x", Refs: slices.Repeat([]string{name}, 1<<16), Tree: slices.Repeat([]api.Node{{Path: name, Kind: api.File, Data: name}}, 1<<16)}
	for range 2000 {
		if item.Name(name) || item.Hash(name) != "" || item.May(huge) || item.May(refer(name)) || item.May(holding(dir(""), file(name, ""))) || item.May(holding(dir(""), file("a", name))) || item.Same(huge, sample()) {
			t.Fatal("P7.1: something is told of very much")
		}
	}
	huge.Refs = nil
	if item.May(huge) {
		t.Error("P7.1: May of very many nodes")
	}
	if got := item.Names(slices.Repeat([]api.Item{huge}, 1<<16)...); len(got) != 1<<16 || got[1<<16-1] != huge.Name {
		t.Errorf("P7.1: Names of very many: %d", len(got))
	}
}

func TestFromSeveralGoroutines(t *testing.T) {
	given, all := roomy(sample())
	kept := copied(all)
	list := []api.Item{given, given}
	var group sync.WaitGroup
	for range 8 {
		group.Go(func() {
			for range 200 {
				own := item.Own(given)
				if !item.May(given) || !item.Name(given.Name) || item.Hash(given.Name) != "0123456a" || !item.Same(own, given) || !slices.Equal(item.Names(list...), []string{given.Name, given.Name}) {
					t.Error("R5: calls at one time")
				}
				spoil(own)
			}
		})
	}
	group.Wait()
	if !reflect.DeepEqual(all, kept) {
		t.Error("R4: what was handed in is changed")
	}
}

func FuzzName(f *testing.F) {
	for _, s := range []string{"", "0123456a-x", "0123456e-x", "01234567-" + text(21), "01234567-" + text(22), "vwxyzzzz-a.b+c_d-e"} {
		f.Add(s)
	}
	f.Fuzz(func(t *testing.T, s string) { checkName(t, s, modelName(s)) })
}
