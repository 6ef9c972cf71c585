package tree_test

import (
	"math"
	"slices"
	"strconv"
	"strings"
	"sync"
	"testing"

	"hogshead/api"
	"hogshead/tree"
)

func dir(p string) api.Node { return api.Node{Path: p, Kind: api.Dir} }

func file(p, data string) api.Node { return api.Node{Path: p, Kind: api.File, Data: data} }

func exec(p, data string) api.Node { return api.Node{Path: p, Kind: api.Exec, Data: data} }

func link(p, data string) api.Node { return api.Node{Path: p, Kind: api.Link, Data: data} }

// text makes n bytes that may stand anywhere.
func text(n int) string { return strings.Repeat("x", n) }

// wide makes a path of n bytes (200 or some more) in four parts.
func wide(n int) string {
	long := text(api.MaxSeg) + "/"
	return long + long + long + text(n-3*len(long))
}

// deep makes a path of n parts.
func deep(n int) string { return strings.TrimSuffix(strings.Repeat("d/", n), "/") }

// flat makes a tree of n nodes: the root, and files in it.
func flat(n int) []api.Node {
	t := []api.Node{dir("")}
	for i := 1; i < n; i++ {
		t = append(t, file("f"+strconv.Itoa(10000000+i), strconv.Itoa(i)))
	}
	return t
}

// sample is a tree with all kinds, whose order is not that of its parts: the byte - stands ahead of /, 0 behind it.
func sample() []api.Node {
	return []api.Node{
		dir(""), dir("a"), file("a-b", "1"), link("a.x", "../a"), dir("a/b"), file("a/b-", ""), exec("a/b/c", "\x00\xff"), dir("a/b/d"),
		exec("a0", ""), dir("b"), dir("b/a"), dir("b/a/b"), file("b/a/b/c", text(400)), link("c", text(400)), dir("\xfe"), file("\xfe/\x01", "z"), dir("\xff"),
	}
}

func TestGoodOfEachKind(t *testing.T) {
	big, over := text(api.MaxData), text(api.MaxData+1)
	for _, x := range []struct {
		data                  string
		asDir, asFile, asLink bool
	}{
		{"", true, true, false}, {"x", false, true, true}, {"../x", false, true, true}, {"/", false, true, true}, {"\xff\n ", false, true, true},
		{"\x00", false, true, false}, {"x\x00", false, true, false}, {"\x00x", false, true, false}, {"x\x00x", false, true, false},
		{big, false, true, true}, {big[1:] + "\x00", false, true, false}, {strings.Repeat("\x00", api.MaxData), false, true, false}, {strings.Repeat("\xff", api.MaxData), false, true, true},
		{over, false, false, false}, {over + "\x00", false, false, false}, {strings.Repeat("ä", api.MaxData/2) + "x", false, false, false}, {text(1 << 20), false, false, false},
	} {
		for kind, want := range map[int]bool{api.Dir: x.asDir, api.File: x.asFile, api.Exec: x.asFile, api.Link: x.asLink} {
			if tree.Good(api.Node{Path: "a", Kind: kind, Data: x.data}) != want {
				t.Errorf("P2.1: Good of Kind %d with Data %.20q (%d bytes) is not %t", kind, x.data, len(x.data), want)
			}
		}
		for _, kind := range []int{0, 5, -1, 6, 257, -255, 1 << 32, 1<<32 + 1, math.MaxInt, math.MinInt} {
			if tree.Good(api.Node{Path: "a", Kind: kind, Data: x.data}) {
				t.Errorf("P2.1: Good of Kind %d", kind)
			}
		}
	}
}

func TestGoodOfEachLength(t *testing.T) {
	for n := range 2 * api.MaxData {
		data := text(n)
		if tree.Good(file("a", data)) != (n <= 400) || tree.Good(exec("a", data)) != (n <= 400) || tree.Good(link("a", data)) != (n >= 1 && n <= 400) || tree.Good(api.Node{Kind: api.Dir, Data: data}) != (n == 0) {
			t.Errorf("P2.1: Good of %d bytes", n)
		}
	}
}

func TestGoodOfEachByte(t *testing.T) {
	for n := range 256 {
		b := string([]byte{byte(n)})
		if !tree.Good(file("a", b)) || !tree.Good(exec("a", b)) || tree.Good(link("a", "x"+b+"x")) != (n != 0) || tree.Good(api.Node{Kind: api.Dir, Data: b}) {
			t.Errorf("P2.1: Good of the byte %d", n)
		}
	}
}

func TestGoodOfEachPath(t *testing.T) {
	for _, p := range []string{"", "a", "a/b", "...", "\xff", text(60), deep(10), wide(200)} {
		for _, n := range []api.Node{dir(p), file(p, "x"), exec(p, ""), link(p, "x")} {
			if !tree.Good(n) {
				t.Errorf("P2.1: Good of %q, Kind %d, is false", p, n.Kind)
			}
		}
	}
	for _, p := range []string{"/", "/a", "a/", "a//b", ".", "..", "a/..", ".wh.a", "a/.wh.", "\x00", "a\x00", text(61), deep(11), wide(201)} {
		for _, n := range []api.Node{dir(p), file(p, "x"), exec(p, ""), link(p, "x")} {
			if tree.Good(n) {
				t.Errorf("P2.1: Good of %q, Kind %d, is true", p, n.Kind)
			}
		}
	}
}

// checkBad holds Bad and May of l against what they are to tell.
func checkBad(t *testing.T, name string, l []api.Node, want int) {
	t.Helper()
	if got := tree.Bad(l); got != want {
		t.Errorf("P2.1: Bad of %s: %d, not %d", name, got, want)
	}
	if tree.May(l) != (want < 0) {
		t.Errorf("P2.1: May of %s is %t", name, want >= 0)
	}
}

func TestBad(t *testing.T) {
	for _, x := range []struct {
		name string
		l    []api.Node
		want int
	}{
		{"none", nil, 0}, {"none, with room", make([]api.Node, 0, 3), 0},
		{"the root alone", []api.Node{dir("")}, -1}, {"a file as root", []api.Node{file("", "x")}, -1}, {"a program as root", []api.Node{exec("", "")}, -1}, {"a link as root", []api.Node{link("", "x")}, -1},
		{"a root that is not the root", []api.Node{dir("a")}, 0}, {"no root ahead", []api.Node{file("a", ""), dir("b")}, 0}, {"the root behind", []api.Node{dir("a"), dir("")}, 0},
		{"a root that is not Good", []api.Node{{Kind: api.Dir, Data: "x"}}, 0}, {"a root of no Kind", []api.Node{{}}, 0}, {"a link as root without Data", []api.Node{link("", "")}, 0}, {"a root of no path", []api.Node{dir("/")}, 0},
		{"two roots", []api.Node{dir(""), dir("")}, 1}, {"two of one path", []api.Node{dir(""), file("a", "1"), file("a", "2")}, 2}, {"two of one path, a Dir", []api.Node{dir(""), dir("a"), dir("a"), file("a/b", "")}, 2},
		{"one not above", []api.Node{dir(""), dir("b"), dir("a")}, 2}, {"one not above, by bytes", []api.Node{dir(""), dir("a"), file("a/b", ""), file("a-b", "")}, 3}, {"one above, by bytes", []api.Node{dir(""), dir("a"), file("a-b", ""), file("a/b", ""), file("a0", "")}, -1},
		{"high bytes", []api.Node{dir(""), file("\x7f", ""), file("\x80", ""), file("\xff", "")}, -1}, {"high bytes turned", []api.Node{dir(""), file("\x80", ""), file("\x7f", "")}, 2},
		{"a longer path ahead", []api.Node{dir(""), file("ab", ""), file("a", "")}, 2}, {"capitals", []api.Node{dir(""), file("B", ""), file("a", "")}, -1}, {"capitals turned", []api.Node{dir(""), file("a", ""), file("B", "")}, 2},
		{"a Parent that is not there", []api.Node{dir(""), file("b/c", "")}, 1}, {"a Parent's Parent alone", []api.Node{dir(""), dir("a"), file("a/b/c", "")}, 2}, {"a Parent behind", []api.Node{dir(""), file("a/b", ""), dir("a")}, 1}, {"no Parent, others about", []api.Node{dir(""), dir("a"), dir("b"), dir("d"), file("d/x", ""), file("e/x", "")}, 5},
		{"a like name for a Parent", []api.Node{dir(""), dir("ab"), file("abc/d", "")}, 2}, {"a Dir between a Parent that is not there and its node", []api.Node{dir(""), dir("a-b"), file("a/c", "")}, 2}, {"a Parent that is a file", []api.Node{dir(""), file("a", ""), file("a/b", "")}, 2}, {"a Parent that is a program", []api.Node{dir(""), exec("a", ""), dir("a/b")}, 2}, {"a Parent that is a link", []api.Node{dir(""), dir("a"), link("b", "a"), file("b/c", "")}, 3},
		{"a node under a file as root", []api.Node{file("", ""), dir("a")}, 1}, {"a node under a link as root", []api.Node{link("", "x"), file("a", "")}, 1}, {"a Parent that is not Good", []api.Node{dir(""), {Path: "a", Kind: api.Dir, Data: "x"}, file("a/b", "")}, 1},
		{"a Kind that is none", []api.Node{dir(""), dir("a"), dir("a/b"), file("a/b/c", ""), {Path: "b", Kind: 9}}, 4}, {"a path that is none", []api.Node{dir(""), dir("a"), dir("a/..")}, 2}, {"a path with a / behind", []api.Node{dir(""), dir("a"), dir("a/")}, 2},
		{"two faults", []api.Node{dir(""), dir("b"), file("a", ""), {}}, 2}, {"a sample", sample(), -1},
	} {
		checkBad(t, x.name, x.l, x.want)
	}
}

func TestBadOfAllDepths(t *testing.T) {
	l := []api.Node{dir("")}
	for n := 1; n <= api.MaxDepth; n++ {
		l = append(l, dir(deep(n)))
		checkBad(t, "depth "+strconv.Itoa(n), l, -1)
	}
	checkBad(t, "a part too many", append(l, dir(deep(api.MaxDepth+1))), api.MaxDepth+1)
	top := wide(api.MaxPath)
	long := []api.Node{dir(""), dir(top[:60]), dir(top[:121]), dir(top[:182]), file(top, "")}
	checkBad(t, "a path at the limit", long, -1)
	long[4].Path += "x"
	checkBad(t, "a path past the limit", long, 4)
}

func TestBadOfManyNodes(t *testing.T) {
	over := flat(api.MaxNodes + 1)
	checkBad(t, "MaxNodes nodes", over[:400], -1)
	checkBad(t, "one fewer", over[:399], -1)
	checkBad(t, "one more", over, 400)
	checkBad(t, "very many", flat(1<<18), 400)
	wrong := slices.Clone(over)
	wrong[400] = api.Node{}
	checkBad(t, "one more, that is not Good", wrong, 400)
	for _, at := range []int{1, 200, 398, 399} {
		wrong = slices.Clone(over)
		wrong[at].Kind = 0
		checkBad(t, "one more, and a fault ahead", wrong, at)
		checkBad(t, "MaxNodes nodes, and a fault", wrong[:400], at)
	}
	last := flat(api.MaxNodes)
	last[399].Path = "g/h"
	checkBad(t, "MaxNodes nodes, the last without a Parent", last, 399)
}

func TestBadOfOneFaultAtEachPlace(t *testing.T) {
	faults := []func(n *api.Node, ahead api.Node){
		func(n *api.Node, ahead api.Node) { n.Kind = 0 },
		func(n *api.Node, ahead api.Node) { n.Kind = api.Link + 1 },
		func(n *api.Node, ahead api.Node) { n.Kind, n.Data = api.Dir, "x" },
		func(n *api.Node, ahead api.Node) { n.Kind, n.Data = api.File, text(api.MaxData+1) },
		func(n *api.Node, ahead api.Node) { n.Kind, n.Data = api.Exec, text(api.MaxData+1) },
		func(n *api.Node, ahead api.Node) { n.Kind, n.Data = api.Link, text(api.MaxData+1) },
		func(n *api.Node, ahead api.Node) { n.Kind, n.Data = api.Link, "" },
		func(n *api.Node, ahead api.Node) { n.Kind, n.Data = api.Link, "x\x00y" },
		func(n *api.Node, ahead api.Node) { n.Path += "/" },
		func(n *api.Node, ahead api.Node) { n.Path = "~/x" },
		func(n *api.Node, ahead api.Node) { n.Path = ahead.Path },
		func(n *api.Node, ahead api.Node) { *n = ahead },
		func(n *api.Node, ahead api.Node) { n.Path = "" },
		func(n *api.Node, ahead api.Node) { n.Path = "A" },
	}
	for i, fault := range faults {
		for at := 2; at < len(sample()); at++ {
			l := sample()
			fault(&l[at], l[at-1])
			checkBad(t, "fault "+strconv.Itoa(i)+" at "+strconv.Itoa(at), l, at)
		}
	}
}

// modelGood says by the chapter's words, of the few paths that the models are asked of, whether a node is Good.
func modelGood(n api.Node) bool {
	if strings.Contains(n.Path, "..") || strings.HasSuffix(n.Path, "/") {
		return false
	}
	switch n.Kind {
	case 1:
		return len(n.Data) == 0
	case 2, 3:
		return len(n.Data) <= 400
	case 4:
		return len(n.Data) >= 1 && len(n.Data) <= 400 && !strings.Contains(n.Data, "\x00")
	}
	return false
}

// modelBad says the place of the first fault, each node held against all those ahead.
func modelBad(l []api.Node) int {
	for i, n := range l {
		if !modelGood(n) || (i == 0) != (n.Path == "") {
			return i
		}
		above, housed := true, i == 0
		for _, o := range l[:i] {
			above = above && o.Path < n.Path
			under, ok := strings.CutPrefix(n.Path, o.Path)
			if o.Path != "" {
				under, ok = strings.CutPrefix(n.Path, o.Path+"/")
			}
			if ok && under != "" && !strings.Contains(under, "/") && o.Kind == 1 {
				housed = true
			}
		}
		if !above || !housed {
			return i
		}
	}
	if len(l) == 0 {
		return 0
	}
	return -1
}

func TestBadOfAllShortLists(t *testing.T) {
	pool := []api.Node{
		dir(""), file("", "x"), dir("a"), file("a", ""), link("a", "a/b"), dir("a/b"), file("a/b", "x"), dir("a-b"), exec("a-b", ""), file("a/b/c", ""), file("b/c", ""), dir("b"),
		{}, {Path: "a", Kind: 5}, link("a", ""), {Path: "a", Kind: api.Dir, Data: "x"}, dir("a/"),
	}
	trees, count := 0, 0
	lists := [][]api.Node{nil}
	for at := 0; at < len(lists); at++ {
		l := lists[at]
		want := modelBad(l)
		if got := tree.Bad(l); got != want || tree.May(l) != (want == -1) {
			t.Fatalf("P2.1: Bad(%#v): %d, not %d", l, got, want)
		}
		count++
		if want == -1 {
			trees++
		}
		for _, n := range pool {
			if len(l) < 4 {
				lists = append(lists, append(slices.Clone(l), n))
			}
		}
	}
	if count < 60000 || trees < 20 {
		t.Errorf("only %d lists, %d trees were looked at", count, trees)
	}
}

func TestMayOfEachBeginning(t *testing.T) {
	l := sample()
	for n := range l {
		checkBad(t, "the first "+strconv.Itoa(n+1), l[:n+1], -1)
	}
	for n := 1; n < len(l); n++ {
		checkBad(t, "all but the first "+strconv.Itoa(n), l[n:], 0)
	}
}

func TestSame(t *testing.T) {
	if !tree.Same(nil, nil) || !tree.Same(nil, []api.Node{}) || !tree.Same(make([]api.Node, 0, 4), nil) || !tree.Same(sample(), sample()) || !tree.Same([]api.Node{{}}, []api.Node{{}}) {
		t.Error("P2.1: Same is false of the same")
	}
	l := sample()
	for i := range l {
		for j, change := range []func(n *api.Node){
			func(n *api.Node) { n.Path += "x" }, func(n *api.Node) { n.Kind++ }, func(n *api.Node) { n.Data += "\x00" },
		} {
			o := sample()
			change(&o[i])
			if tree.Same(l, o) || tree.Same(o, l) {
				t.Errorf("P2.1: Same sees no change %d of node %d", j, i)
			}
		}
		if tree.Same(l, l[:i]) || tree.Same(l[:i], l) {
			t.Errorf("P2.1: Same of the first %d", i)
		}
	}
	if tree.Same([]api.Node{{}}, nil) || tree.Same(nil, []api.Node{{}}) {
		t.Error("P2.1: Same of one node and none")
	}
	turned := sample()
	slices.Reverse(turned)
	if tree.Same(l, turned) {
		t.Error("P2.1: Same sees no order")
	}
	if !tree.Same(turned, slices.Clone(turned)) {
		t.Error("P2.1: Same asks for a tree")
	}
}

// modelSort puts each node behind all those that are not above it.
func modelSort(l []api.Node) []api.Node {
	var out []api.Node
	for _, n := range l {
		at := len(out)
		for at > 0 && n.Path < out[at-1].Path {
			at--
		}
		out = slices.Insert(out, at, n)
	}
	return out
}

func TestSort(t *testing.T) {
	for _, l := range [][]api.Node{nil, {}, {dir("")}, {dir("b"), dir("a")}, {file("b", "1"), dir("a"), file("b", "0"), dir("")}, {file("a/b", ""), file("a-b", ""), file("a0", ""), dir("a")}, {file("\xff", ""), file("\x7f", ""), file("a", ""), file("B", ""), file("", "")}, {{}, {Kind: -1}, {Path: "..", Kind: 9}, {Path: "\x00"}, {Data: "x"}}, sample()} {
		if got := tree.Sort(l); !slices.Equal(got, modelSort(l)) {
			t.Errorf("P2.1: Sort(%#v): %#v", l, got)
		}
	}
	turned := sample()
	slices.Reverse(turned)
	if !slices.Equal(tree.Sort(turned), sample()) {
		t.Error("P2.1: Sort of a tree turned round")
	}
}

func TestSortKeepsTheOrderOfOnePath(t *testing.T) {
	var l, want []api.Node
	for i := range 600 {
		l = append(l, api.Node{Path: string(rune('a' + i*7%5)), Kind: i % 3, Data: strconv.Itoa(i)})
	}
	for _, p := range []string{"a", "b", "c", "d", "e"} {
		for _, n := range l {
			if n.Path == p {
				want = append(want, n)
			}
		}
	}
	if !slices.Equal(tree.Sort(l), want) {
		t.Error("P2.1: Sort of several nodes of one path")
	}
	equal := []api.Node{file("a", "3"), link("a", "1"), dir("a"), file("a", "2")}
	if !slices.Equal(tree.Sort(equal), equal) {
		t.Error("P2.1: Sort of one path alone")
	}
}

func TestSortOfAllShortLists(t *testing.T) {
	pool := []string{"", "a", "a/b", "a-b", "b"}
	lists := [][]api.Node{nil}
	for at := 0; at < len(lists); at++ {
		l := lists[at]
		if got := tree.Sort(l); !slices.Equal(got, modelSort(l)) {
			t.Fatalf("P2.1: Sort(%#v): %#v", l, got)
		}
		for _, p := range pool {
			if len(l) < 5 {
				lists = append(lists, append(slices.Clone(l), file(p, strconv.Itoa(len(l)))))
			}
		}
	}
}

func TestSize(t *testing.T) {
	for _, x := range []struct {
		l    []api.Node
		want int
	}{{nil, 0}, {[]api.Node{}, 0}, {[]api.Node{dir("a/b/c")}, 0}, {sample(), 1 + 4 + 2 + 400 + 400 + 1}, {[]api.Node{{Path: "..", Kind: 7, Data: "ab"}, {Data: "\x00"}, {Kind: api.Dir, Data: "ä"}}, 5}, {slices.Repeat([]api.Node{file("a", text(400))}, 400), 160000}, {[]api.Node{file("a", text(1<<20)), file("a", text(1<<20))}, 1 << 21}} {
		if got := tree.Size(x.l); got != x.want {
			t.Errorf("P2.1: Size: %d, not %d", got, x.want)
		}
	}
}

// asked keeps what it was asked of, and wants one kind.
type asked struct {
	of   []api.Node
	kind int
}

func (a *asked) wants(n api.Node) bool {
	a.of = append(a.of, n)
	return n.Kind == a.kind
}

// least is a length that Data must have.
type least int

func (l least) holds(n api.Node) bool { return len(n.Data) >= int(l) }

// leaf is a node of which something can be asked.
type leaf api.Node

func (l leaf) high() bool { return !strings.Contains(l.Path, "/") }

// of makes what is asked of a leaf a thing that is asked of a node.
func of(ask func(leaf) bool) func(api.Node) bool {
	return func(n api.Node) bool { return ask(leaf(n)) }
}

// picked tells the nodes of a list at these places.
func picked(l []api.Node, places ...int) []api.Node {
	var out []api.Node
	for _, at := range places {
		out = append(out, l[at])
	}
	return out
}

func TestFilter(t *testing.T) {
	l := []api.Node{file("b", "12"), dir("a"), file("b", "12"), exec("a/c", "1"), dir(""), {}, link("..", "x"), {Path: "a", Kind: api.Dir, Data: "123"}}
	dirs := &asked{kind: api.Dir}
	for _, x := range []struct {
		name string
		f    func(n api.Node) bool
		want []api.Node
	}{
		{"nil", nil, l}, {"all", func(api.Node) bool { return true }, l}, {"none", func(api.Node) bool { return false }, nil},
		{"a function", func(n api.Node) bool { return n.Path == "b" }, picked(l, 0, 2)},
		{"a method value of a pointer", dirs.wants, picked(l, 1, 4, 7)}, {"a method value of a value", least(2).holds, picked(l, 0, 2, 7)},
		{"a method expression", of(leaf.high), picked(l, 0, 1, 2, 4, 5, 6, 7)}, {"a method expression with what it is asked by", func(n api.Node) bool { return (*asked).wants(&asked{kind: api.Link}, n) }, picked(l, 6)},
	} {
		if got := tree.Filter(l, x.f); !slices.Equal(got, x.want) {
			t.Errorf("P2.1: Filter of %s: %#v", x.name, got)
		}
		for _, none := range [][]api.Node{nil, {}} {
			if got := tree.Filter(none, x.f); len(got) != 0 {
				t.Errorf("P2.1: Filter of no node, %s: %#v", x.name, got)
			}
		}
	}
	if !slices.Equal(dirs.of, l) {
		t.Errorf("P2.1: Filter asked of %#v", dirs.of)
	}
}

func TestFilterAsksOfEachOnceInOrder(t *testing.T) {
	for _, l := range [][]api.Node{nil, {dir("")}, sample(), flat(400), slices.Repeat([]api.Node{file("a", "x")}, 1000)} {
		for _, kind := range []int{0, api.Dir, api.File} {
			a := &asked{kind: kind}
			tree.Filter(l, a.wants)
			if !slices.Equal(a.of, l) {
				t.Errorf("P2.1: Filter of %d nodes asked %d times, or not in order", len(l), len(a.of))
			}
		}
	}
}

func TestFilterOfEachChoice(t *testing.T) {
	l := sample()[:10]
	for choice := range 1 << len(l) {
		var want []api.Node
		for i, n := range l {
			if choice>>i&1 == 1 {
				want = append(want, n)
			}
		}
		at := 0
		got := tree.Filter(l, func(api.Node) bool {
			at++
			return choice>>(at-1)&1 == 1
		})
		if !slices.Equal(got, want) {
			t.Fatalf("P2.1: Filter by choice %b: %#v", choice, got)
		}
	}
}

// lists are the calls that answer nodes.
func lists() []func(l []api.Node) []api.Node {
	return []func(l []api.Node) []api.Node{
		tree.Sort,
		func(l []api.Node) []api.Node { return tree.Filter(l, nil) },
		func(l []api.Node) []api.Node { return tree.Filter(l, func(api.Node) bool { return true }) },
		func(l []api.Node) []api.Node { return tree.Filter(l, least(1).holds) },
	}
}

func TestWhatIsHandedInStays(t *testing.T) {
	turned := sample()
	slices.Reverse(turned)
	for _, l := range [][]api.Node{sample(), turned, {file("a", "x")}, {dir("b"), dir("a"), {}, dir("a"), dir("c")}} {
		for n := range len(l) + 1 {
			kept := slices.Clone(l)
			given := l[:n]
			for _, call := range lists() {
				call(given)
			}
			tree.Bad(given)
			tree.May(given)
			tree.Size(given)
			tree.Same(given, l)
			if !slices.Equal(l, kept) {
				t.Fatalf("R4: of %d nodes handed in, with room for %d, these are changed: %#v", n, cap(given), l)
			}
		}
	}
}

func TestAnswersShareNothing(t *testing.T) {
	for i, call := range lists() {
		for _, l := range [][]api.Node{sample(), {file("a", "x")}, {file("b", "x"), file("a", "x")}} {
			kept := slices.Clone(l)
			first, second := call(l), call(l)
			want := slices.Clone(second)
			for j := range first {
				first[j] = api.Node{Path: "z"}
			}
			if !slices.Equal(l, kept) || !slices.Equal(second, want) {
				t.Errorf("R4: answer %d shares memory with what was handed in, or with another answer", i)
			}
			for j := range l {
				l[j] = api.Node{Path: "y"}
			}
			if !slices.Equal(second, want) {
				t.Errorf("R4: answer %d changes with what was handed in", i)
			}
		}
		room := make([]api.Node, 0, 4)
		if got := append(call(room), dir("z")); room[:1][0] != (api.Node{}) || len(got) != 1 {
			t.Errorf("R4: answer %d has the room of what was handed in", i)
		}
	}
}

func TestFromSeveralGoroutines(t *testing.T) {
	l := sample()
	turned := sample()
	slices.Reverse(turned)
	var all sync.WaitGroup
	for range 8 {
		all.Go(func() {
			for range 50 {
				if !tree.May(l) || tree.Bad(turned) != 0 || !tree.Same(tree.Sort(turned), l) || tree.Size(turned) != tree.Size(l) || len(tree.Filter(l, least(400).holds)) != 2 {
					t.Error("R5: calls at one time")
				}
			}
		})
	}
	all.Wait()
}
