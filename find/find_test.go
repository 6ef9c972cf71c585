package find_test

import (
	"slices"
	"strconv"
	"strings"
	"sync"
	"testing"

	"hogshead/api"
	"hogshead/find"
	"hogshead/tree"
)

func dir(p string) api.Node { return api.Node{Path: p, Kind: api.Dir} }

func file(p, data string) api.Node { return api.Node{Path: p, Kind: api.File, Data: data} }

func exec(p, data string) api.Node { return api.Node{Path: p, Kind: api.Exec, Data: data} }

func link(p, data string) api.Node { return api.Node{Path: p, Kind: api.Link, Data: data} }

// show tells the first few nodes, for a message.
func show(nodes ...api.Node) string {
	var out strings.Builder
	for _, n := range nodes[:min(len(nodes), 20)] {
		out.WriteString(" {" + strconv.Quote(n.Path) + " " + strconv.Itoa(n.Kind) + " " + strconv.Quote(n.Data[:min(len(n.Data), 20)]) + "}")
	}
	return strconv.Itoa(len(nodes)) + " nodes" + out.String()
}

// text makes n bytes that may stand anywhere.
func text(n int) string { return strings.Repeat("x", n) }

// sample is a tree with all kinds, whose names are beginnings of one another, and with siblings between a Dir and what stands under it: the byte - stands ahead of /, 0 behind it.
func sample() []api.Node {
	return []api.Node{
		dir(""), dir("a"), dir("a-b"), file("a-b/c", "1"), link("a.x", "../a"), dir("a/a"), file("a/a-", ""), exec("a/a/a", "\x00\xff"), dir("a/a/b"), file("a/ab", "2"),
		exec("a0", ""), dir("ab"), dir("ab/c"), dir("ab/c/a"), file("ab/c/a/b", text(400)), link("abc", text(400)), dir("\xfe"), file("\xfe/\x01", "z"), dir("\xff"),
	}
}

// flat makes a tree of n nodes: the root, and files in it.
func flat(n int) []api.Node {
	t := []api.Node{dir("")}
	for i := 1; i < n; i++ {
		t = append(t, file("f"+strconv.Itoa(1000000+i), strconv.Itoa(i)))
	}
	return t
}

// chain makes a tree of n Dirs within the root, each in the one ahead, all of that name.
func chain(n int, name string) []api.Node {
	t := []api.Node{dir("")}
	for i := 1; i <= n; i++ {
		t = append(t, dir(strings.TrimSuffix(strings.Repeat(name+"/", i), "/")))
	}
	return t
}

// noPaths are texts that are no paths, each near one at which something stands in the sample.
func noPaths() []string {
	return []string{"/", "//", "/a", "a/", "a//a", "a/a/", "./a", "a/.", "a/./a", ".", "..", "a/..", "a/a/..", "a/../a", "\x00", "a\x00", "a/\x00", ".wh.a", "a/.wh.a", text(61), text(201), text(1 << 20), strings.Repeat("a/", 1<<18)}
}

// noTrees are lists that are none, each with a Dir a and a file a/b that a careless look would find.
func noTrees() [][]api.Node {
	return [][]api.Node{
		nil, {}, {dir("a"), file("a/b", "1")}, {{}, dir("a"), file("a/b", "1")}, {dir(""), file("a/b", "1")}, {dir(""), dir("a"), file("a/b", "1"), file("a/b", "1")}, {dir(""), dir("a"), dir("a"), file("a/b", "1")},
		{dir(""), file("a/b", "1"), dir("a")}, {dir("a"), file("a/b", "1"), dir("")}, {dir(""), dir("a"), file("a/b", "1"), file("a-b", "1")}, {file("", ""), dir("a"), file("a/b", "1")}, {dir(""), dir(""), dir("a"), file("a/b", "1")},
		{dir(""), dir("a"), file("a/b", "1"), {Path: "c", Kind: 5}}, {dir(""), dir("a"), file("a/b", "1"), {Path: "c", Kind: api.Dir, Data: "x"}}, {dir(""), dir("a"), file("a/b", "1"), link("c", "")}, {dir(""), dir("a"), file("a/b", "1"), file("c", text(401))},
		{dir(""), dir("a"), file("a/b", "1"), file("a/b/c", "")}, {dir(""), dir("a"), file("a/b", "1"), file("c/d", "")}, {dir(""), dir("a"), file("a/b", "1"), dir("c/")}, {dir(""), dir("a"), file("a/b", "1"), dir(text(61))},
		append([]api.Node{dir(""), dir("a"), file("a/b", "1")}, flat(400)[1:]...), append([]api.Node{dir(""), dir("a"), file("a/b", "1")}, flat(1 << 18)[1:]...),
	}
}

// onlyUnder tells what stands in p behind dir and a /, if p stands under dir and is another one.
func onlyUnder(p, dir string) (inner string, ok bool) {
	if dir == "" {
		return p, p != ""
	}
	return strings.CutPrefix(p, dir+"/")
}

// modelLookup looks at each node, of what is a tree.
func modelLookup(t []api.Node, p string) (api.Node, bool) {
	if !tree.May(t) {
		return api.Node{}, false
	}
	for _, n := range t {
		if n.Path == p {
			return n, true
		}
	}
	return api.Node{}, false
}

// modelList takes what stands under p with no / in the rest, and sorts it.
func modelList(t []api.Node, p string) ([]string, bool) {
	if n, ok := modelLookup(t, p); !ok || n.Kind != 1 {
		return nil, false
	}
	var names []string
	for _, n := range t {
		if inner, ok := onlyUnder(n.Path, p); ok && !strings.Contains(inner, "/") {
			names = append(names, inner)
		}
	}
	slices.Sort(names)
	return names, true
}

// modelSub takes the node at p, and behind it what stands under p.
func modelSub(t []api.Node, p string) ([]api.Node, bool) {
	n, ok := modelLookup(t, p)
	if !ok {
		return nil, false
	}
	sub := []api.Node{{Path: "", Kind: n.Kind, Data: n.Data}}
	for _, n := range t {
		if inner, ok := onlyUnder(n.Path, p); ok {
			sub = append(sub, api.Node{Path: inner, Kind: n.Kind, Data: n.Data})
		}
	}
	return sub, true
}

// modelGraft asks for each condition of the chapter by itself, and puts each node where it belongs.
func modelGraft(t []api.Node, p string, sub []api.Node) ([]api.Node, bool) {
	if !tree.May(t) || !tree.May(sub) || p == "" || len(p) > 200 {
		return nil, false
	}
	if _, taken := modelLookup(t, p); taken {
		return nil, false
	}
	up := ""
	if at := strings.LastIndex(p, "/"); at >= 0 {
		up = p[:at]
	}
	if n, ok := modelLookup(t, up); !ok || n.Kind != 1 {
		return nil, false
	}
	all := slices.Clone(t)
	for _, n := range sub {
		moved := p
		if n.Path != "" {
			moved = p + "/" + n.Path
		}
		at := 0
		for at < len(all) && all[at].Path < moved {
			at++
		}
		all = slices.Insert(all, at, api.Node{Path: moved, Kind: n.Kind, Data: n.Data})
	}
	if !tree.May(all) {
		return nil, false
	}
	return all, true
}

// checkAt holds what is told of t at p against the models, and tells whether something stands there.
func checkAt(t *testing.T, l []api.Node, p string) bool {
	t.Helper()
	wantNode, found := modelLookup(l, p)
	if n, ok := find.Lookup(l, p); n != wantNode || ok != found {
		t.Fatalf("P3.1: Lookup(%s, %.80q): %s, %t", show(l...), p, show(n), ok)
	}
	wantNames, listed := modelList(l, p)
	if names, ok := find.List(l, p); !slices.Equal(names, wantNames) || ok != listed {
		t.Fatalf("P3.1: List(%s, %.80q): %q, %t", show(l...), p, names, ok)
	}
	wantSub, _ := modelSub(l, p)
	sub, ok := find.Sub(l, p)
	if !slices.Equal(sub, wantSub) || ok != found {
		t.Fatalf("P3.1: Sub(%s, %.80q): %s, %t", show(l...), p, show(sub...), ok)
	}
	if tree.May(sub) != found {
		t.Fatalf("P3.2: the tree at %q of %s is none: %s", p, show(l...), show(sub...))
	}
	return found
}

// checkGraft holds Graft against its model and against Sub, and tells whether there is such a tree.
func checkGraft(t *testing.T, l []api.Node, p string, sub []api.Node) bool {
	t.Helper()
	want, may := modelGraft(l, p, sub)
	got, ok := find.Graft(l, p, sub)
	if !slices.Equal(got, want) || ok != may {
		t.Fatalf("P3.1: Graft(%s, %.80q, %s): %s, %t", show(l...), p, show(sub...), show(got...), ok)
	}
	if !may {
		return false
	}
	if back, ok := find.Sub(got, p); !ok || !slices.Equal(back, sub) || !tree.May(got) {
		t.Fatalf("P3.2: Sub of Graft(%s, %q, %s): %s", show(l...), p, show(sub...), show(back...))
	}
	rest := tree.Filter(got, func(n api.Node) bool { return n.Path != p && !strings.HasPrefix(n.Path, p+"/") })
	if !slices.Equal(rest, l) {
		t.Fatalf("P3.1: Graft(%s, %q, ..) has changed what was there: %s", show(l...), p, show(rest...))
	}
	return true
}

func TestLookup(t *testing.T) {
	for _, x := range []struct {
		p    string
		want api.Node
		ok   bool
	}{
		{"", dir(""), true}, {"a", dir("a"), true}, {"a-b", dir("a-b"), true}, {"a-b/c", file("a-b/c", "1"), true}, {"a.x", link("a.x", "../a"), true}, {"a/a", dir("a/a"), true}, {"a/a/a", exec("a/a/a", "\x00\xff"), true},
		{"a/ab", file("a/ab", "2"), true}, {"a0", exec("a0", ""), true}, {"\xfe/\x01", file("\xfe/\x01", "z"), true}, {"\xff", dir("\xff"), true},
		{"A", api.Node{}, false}, {"-", api.Node{}, false}, {"a-", api.Node{}, false}, {"a/b", api.Node{}, false}, {"a/a/a/a", api.Node{}, false}, {"a.x/a", api.Node{}, false}, {"a1", api.Node{}, false}, {"b", api.Node{}, false}, {"\xff\xff", api.Node{}, false}, {"\xff/a", api.Node{}, false},
	} {
		if n, ok := find.Lookup(sample(), x.p); n != x.want || ok != x.ok {
			t.Errorf("P3.1: Lookup(%q): %s, %t", x.p, show(n), ok)
		}
	}
	for _, root := range []api.Node{dir(""), file("", ""), file("", "x"), exec("", "y"), link("", "z")} {
		if n, ok := find.Lookup([]api.Node{root}, ""); n != root || !ok {
			t.Errorf("P3.1: Lookup of a root alone: %s, %t", show(n), ok)
		}
		if n, ok := find.Lookup([]api.Node{root}, "a"); n != (api.Node{}) || ok {
			t.Errorf("P3.1: Lookup beside a root alone: %s, %t", show(n), ok)
		}
	}
}

func TestList(t *testing.T) {
	for _, x := range []struct {
		p    string
		want []string
		ok   bool
	}{
		{"", []string{"a", "a-b", "a.x", "a0", "ab", "abc", "\xfe", "\xff"}, true}, {"a", []string{"a", "a-", "ab"}, true}, {"a/a", []string{"a", "b"}, true}, {"a-b", []string{"c"}, true}, {"ab", []string{"c"}, true}, {"ab/c", []string{"a"}, true}, {"\xfe", []string{"\x01"}, true},
		{"a/a/b", nil, true}, {"\xff", nil, true},
		{"a-b/c", nil, false}, {"a/a-", nil, false}, {"a0", nil, false}, {"a/a/a", nil, false}, {"a.x", nil, false}, {"abc", nil, false},
		{"b", nil, false}, {"a/b", nil, false}, {"a/a/a/a", nil, false}, {"a-", nil, false}, {"ab/", nil, false}, {"a.x/a", nil, false}, {"/", nil, false}, {".", nil, false},
	} {
		if names, ok := find.List(sample(), x.p); !slices.Equal(names, x.want) || ok != x.ok {
			t.Errorf("P3.1: List(%q): %q, %t", x.p, names, ok)
		}
	}
	if names, ok := find.List([]api.Node{dir("")}, ""); len(names) != 0 || !ok {
		t.Errorf("P3.1: List of a root alone: %q, %t", names, ok)
	}
	for _, root := range []api.Node{file("", "x"), exec("", ""), link("", "x")} {
		if names, ok := find.List([]api.Node{root}, ""); len(names) != 0 || ok {
			t.Errorf("P3.1: List of a root that is no Dir: %q, %t", names, ok)
		}
	}
	names, ok := find.List(chain(10, "d"), "d/d")
	if !slices.Equal(names, []string{"d"}) || !ok {
		t.Errorf("P3.1: List of Dirs of one name: %q, %t", names, ok)
	}
}

func TestSub(t *testing.T) {
	for _, x := range []struct {
		p    string
		want []api.Node
		ok   bool
	}{
		{"", sample(), true}, {"a", []api.Node{dir(""), dir("a"), file("a-", ""), exec("a/a", "\x00\xff"), dir("a/b"), file("ab", "2")}, true}, {"a/a", []api.Node{dir(""), exec("a", "\x00\xff"), dir("b")}, true},
		{"a-b", []api.Node{dir(""), file("c", "1")}, true}, {"ab", []api.Node{dir(""), dir("c"), dir("c/a"), file("c/a/b", text(400))}, true},
		{"a/a/b", []api.Node{dir("")}, true}, {"a-b/c", []api.Node{file("", "1")}, true}, {"a/a-", []api.Node{file("", "")}, true}, {"a0", []api.Node{exec("", "")}, true}, {"a.x", []api.Node{link("", "../a")}, true}, {"\xfe/\x01", []api.Node{file("", "z")}, true}, {"\xff", []api.Node{dir("")}, true},
		{"a-", nil, false}, {"a/", nil, false}, {"/", nil, false}, {"\xfe/", nil, false}, {"b", nil, false}, {"a/b", nil, false}, {"a0/a", nil, false},
	} {
		if sub, ok := find.Sub(sample(), x.p); !slices.Equal(sub, x.want) || ok != x.ok {
			t.Errorf("P3.1: Sub(%q): %s, %t", x.p, show(sub...), ok)
		}
	}
	for _, root := range []api.Node{dir(""), file("", "x"), exec("", ""), link("", "x")} {
		if sub, ok := find.Sub([]api.Node{root}, ""); !slices.Equal(sub, []api.Node{root}) || !ok {
			t.Errorf("P3.1: Sub of a root alone: %s, %t", show(sub...), ok)
		}
	}
	for n := range 11 {
		sub, ok := find.Sub(chain(10, "d"), chain(10, "d")[n].Path)
		if !slices.Equal(sub, chain(10-n, "d")) || !ok {
			t.Errorf("P3.1: Sub of Dirs of one name, %d parts down: %s, %t", n, show(sub...), ok)
		}
	}
}

func TestGraft(t *testing.T) {
	l := []api.Node{dir(""), dir("a"), file("a-b", "1"), dir("a/c"), exec("b", ""), link("l", "a")}
	sub := []api.Node{dir(""), file("-", "2"), dir("x"), link("x/y", "-")}
	for _, x := range []struct {
		p    string
		want []api.Node
	}{
		{"a-", []api.Node{dir(""), dir("a"), dir("a-"), file("a-/-", "2"), dir("a-/x"), link("a-/x/y", "-"), file("a-b", "1"), dir("a/c"), exec("b", ""), link("l", "a")}},
		{"A", []api.Node{dir(""), dir("A"), file("A/-", "2"), dir("A/x"), link("A/x/y", "-"), dir("a"), file("a-b", "1"), dir("a/c"), exec("b", ""), link("l", "a")}},
		{"z", []api.Node{dir(""), dir("a"), file("a-b", "1"), dir("a/c"), exec("b", ""), link("l", "a"), dir("z"), file("z/-", "2"), dir("z/x"), link("z/x/y", "-")}},
		{"a/b", []api.Node{dir(""), dir("a"), file("a-b", "1"), dir("a/b"), file("a/b/-", "2"), dir("a/b/x"), link("a/b/x/y", "-"), dir("a/c"), exec("b", ""), link("l", "a")}},
		{"a/c/x", []api.Node{dir(""), dir("a"), file("a-b", "1"), dir("a/c"), dir("a/c/x"), file("a/c/x/-", "2"), dir("a/c/x/x"), link("a/c/x/x/y", "-"), exec("b", ""), link("l", "a")}},
		{"", nil}, {"a", nil}, {"a/c", nil}, {"a-b", nil}, {"b", nil}, {"l", nil}, {"a-b/x", nil}, {"b/x", nil}, {"l/x", nil}, {"l/c/x", nil}, {"c/x", nil}, {"a/d/x", nil}, {"a/c/d/x", nil}, {"a/c/x/y", nil},
	} {
		if got, ok := find.Graft(l, x.p, sub); !slices.Equal(got, x.want) || ok != (x.want != nil) {
			t.Errorf("P3.1: Graft at %q: %s, %t", x.p, show(got...), ok)
		}
		checkGraft(t, l, x.p, sub)
	}
	between := []api.Node{dir(""), file("d-", ""), file("d0", "")}
	want := []api.Node{dir(""), dir("d"), file("d-", ""), dir("d/x"), file("d0", "")}
	if got, ok := find.Graft(between, "d", []api.Node{dir(""), dir("x")}); !ok || !slices.Equal(got, want) {
		t.Errorf("P3.1: Graft with a sibling between a Dir and what stands in it: %s, %t", show(got...), ok)
	}
}

func TestGraftOfSingleNodes(t *testing.T) {
	for _, root := range []api.Node{dir(""), file("", ""), file("", "x"), exec("", "y"), link("", "z")} {
		at := root
		at.Path = "f"
		if got, ok := find.Graft([]api.Node{dir("")}, "f", []api.Node{root}); !ok || !slices.Equal(got, []api.Node{dir(""), at}) {
			t.Errorf("P3.1: Graft of a single node: %s, %t", show(got...), ok)
		}
		for _, p := range []string{"", "f"} {
			got, ok := find.Graft([]api.Node{root}, p, []api.Node{file("", "1")})
			if ok != (p == "f" && root.Kind == api.Dir) || ok != (len(got) == 2) {
				t.Errorf("P3.1: Graft on a single node at %q: %s, %t", p, show(got...), ok)
			}
		}
	}
}

func TestGraftAtTheLimits(t *testing.T) {
	one := []api.Node{dir("")}
	for down := range 10 {
		for n := range 11 {
			p := strings.Repeat("d/", down) + "e"
			if got := checkGraft(t, chain(down, "d"), p, chain(n, "s")); got != (down+1+n <= 10) {
				t.Errorf("P3.1: Graft of %d parts behind %d: %t", n, down+1, got)
			}
		}
	}
	long := chain(2, text(60))
	for n := 1; n <= 60; n++ {
		p := long[2].Path + "/" + text(n)
		for m := 1; m <= 60; m++ {
			if got := checkGraft(t, long, p, []api.Node{dir(""), file(text(m), "")}); got != (122+n+1+m <= 200) {
				t.Errorf("P3.1: Graft of a path of %d bytes: %t", 122+n+1+m, got)
			}
		}
	}
	for n := range 62 {
		if got := checkGraft(t, one, text(n), one); got != (n >= 1 && n <= 60) {
			t.Errorf("P3.1: Graft at a part of %d bytes: %t", n, got)
		}
	}
	for _, n := range []int{1, 2, 3, 199, 200, 201, 397, 398, 399, 400} {
		for _, m := range []int{1, 400 - n - 1, 400 - n, 400 - n + 1, 400} {
			if got := checkGraft(t, flat(n), "g", flat(m)); m > 0 && got != (n+m <= 400) {
				t.Errorf("P3.1: Graft of %d nodes and %d: %t", n, m, got)
			}
		}
	}
}

func TestOfNoPath(t *testing.T) {
	for _, p := range noPaths() {
		if checkAt(t, sample(), p) || checkAt(t, flat(400), p) {
			t.Errorf("P3.1: something is told at %.80q", p)
		}
		if got, ok := find.Graft(sample(), p, flat(300)); len(got) != 0 || ok {
			t.Errorf("P3.1: Graft at %.80q: %t", p, ok)
		}
		if got, ok := find.Graft([]api.Node{dir("")}, p, []api.Node{file("", "")}); len(got) != 0 || ok {
			t.Errorf("P3.1: Graft of one node at %.80q: %t", p, ok)
		}
	}
}

func TestOfNoTree(t *testing.T) {
	paths := append(noPaths(), "", "a", "a/b", "a-b", "b", "a/c", "f1000001")
	for i, l := range noTrees() {
		if tree.May(l) {
			t.Fatalf("list %d is a tree", i)
		}
		for _, p := range paths {
			if checkAt(t, l, p) {
				t.Errorf("P3.1: of list %d, which is no tree, something is told at %.80q", i, p)
			}
			for _, good := range [][]api.Node{{dir("")}, {file("", "x")}, {dir(""), dir("a")}, sample()} {
				a, isA := find.Graft(l, p, good)
				b, isB := find.Graft(good, p, l)
				if len(a) != 0 || isA || len(b) != 0 || isB {
					t.Errorf("P3.1: Graft of list %d, which is no tree, at %.80q: %t, %t", i, p, isA, isB)
				}
			}
			if both, ok := find.Graft(l, p, l); len(both) != 0 || ok {
				t.Errorf("P3.1: Graft of list %d, which is no tree, on itself at %.80q", i, p)
			}
		}
	}
}

func TestGraftOfNoTreeThatWouldBecomeOne(t *testing.T) {
	for i, x := range []struct {
		l   []api.Node
		p   string
		sub []api.Node
	}{
		{nil, "", []api.Node{dir(""), file("a", "")}}, {nil, "", sample()}, {[]api.Node{dir("")}, "a", nil}, {sample(), "b", []api.Node{}},
		{[]api.Node{dir(""), dir("b"), dir("a")}, "c", []api.Node{dir("")}}, {[]api.Node{dir("a"), dir("")}, "b", []api.Node{dir("")}}, {[]api.Node{dir(""), file("a/b", ""), dir("a")}, "c", []api.Node{dir("")}},
		{[]api.Node{dir("")}, "a", []api.Node{dir(""), file("c", ""), file("b", "")}}, {[]api.Node{dir("")}, "a", []api.Node{file("b", ""), dir("")}}, {[]api.Node{dir(""), dir("a")}, "a", []api.Node{file("b", "")}},
		{[]api.Node{dir(""), file("a/b", "")}, "a", []api.Node{dir("")}}, {[]api.Node{dir(""), file("a/b", "")}, "a", []api.Node{dir(""), file("c", "")}}, {[]api.Node{dir(""), dir("a/b"), file("a/b/c", "")}, "a", []api.Node{dir("")}},
		{[]api.Node{dir("")}, "a", []api.Node{{Kind: 0}}}, {[]api.Node{dir("")}, "a", []api.Node{{Kind: api.Dir, Data: "x"}}}, {[]api.Node{dir("")}, "a", []api.Node{dir(""), dir("b/")}},
	} {
		if got, ok := find.Graft(x.l, x.p, x.sub); len(got) != 0 || ok {
			t.Errorf("P3.1: Graft %d: %s, %t", i, show(got...), ok)
		}
	}
}

// smallTrees makes all trees of these places, each with nothing, a Dir, or a file that tells where it is.
func smallTrees() [][]api.Node {
	lists := [][]api.Node{{dir("")}}
	for _, p := range []string{"a", "a-", "a-/b", "a/a", "a/a-b", "a/a/b", "ab"} {
		for _, l := range slices.Clone(lists) {
			for _, n := range []api.Node{dir(p), file(p, p)} {
				if longer := append(slices.Clone(l), n); tree.May(longer) {
					lists = append(lists, longer)
				}
			}
		}
	}
	return append(lists, []api.Node{file("", "r")}, []api.Node{exec("", "")}, []api.Node{link("", "a")})
}

func TestOfAllSmallTrees(t *testing.T) {
	paths := []string{"", "a", "a-", "a-/b", "a/a", "a/a-b", "a/a/b", "ab", "-", "A", "a-b", "a-/a", "a/a-", "a/b", "a/a/a", "a/a/b/c", "a/b/c", "aa", "abc", "ab/c", "b", "b/c", "a/", "/a", "a//a", "..", "a/."}
	trees, told, nothing := smallTrees(), 0, 0
	for _, l := range trees {
		for _, p := range paths {
			if checkAt(t, l, p) {
				told++
			} else {
				nothing++
			}
		}
	}
	if len(trees) < 200 || told < 1000 || nothing < 1000 {
		t.Errorf("only %d trees, %d places and %d where nothing stands were looked at", len(trees), told, nothing)
	}
}

func TestGraftOfAllSmallTrees(t *testing.T) {
	subs := [][]api.Node{{dir("")}, {file("", "s")}, {link("", "a")}, {dir(""), file("-", ""), dir("a"), file("a-b", ""), file("a/b", "")}, {dir(""), dir("b"), exec("b/c", "")}}
	paths := []string{"", "a", "a-", "a-/b", "a-/c", "a/a", "a/a-", "a/a-b", "a/a/b", "a/a/c", "a/b", "a/b/c", "ab", "ab/c", "A", "b", "b/c", "a/", "/b", ".."}
	good, bad := 0, 0
	for _, l := range smallTrees() {
		for _, p := range paths {
			for _, sub := range subs {
				if checkGraft(t, l, p, sub) {
					good++
				} else {
					bad++
				}
			}
		}
	}
	if good < 1000 || bad < 1000 {
		t.Errorf("only %d grafts that may be and %d that may not were looked at", good, bad)
	}
}

func TestOfAllShortLists(t *testing.T) {
	pool := []api.Node{dir(""), file("", "x"), dir("a"), file("a", ""), link("a", "a/b"), dir("a-b"), dir("a/b"), file("a/b", "x"), exec("b", ""), file("b/c", ""), {}, link("a", ""), dir("a/")}
	lists := [][]api.Node{nil}
	for at := 0; at < len(lists); at++ {
		l := lists[at]
		for _, p := range []string{"", "a", "a-b", "a/b", "b", "a/"} {
			checkAt(t, l, p)
		}
		for _, p := range []string{"", "a", "a-", "a/b", "c"} {
			checkGraft(t, l, p, []api.Node{dir(""), file("x", "")})
			checkGraft(t, []api.Node{dir(""), dir("a"), file("a-b", "")}, p, l)
		}
		for _, n := range pool {
			if len(l) < 4 {
				lists = append(lists, append(slices.Clone(l), n))
			}
		}
	}
}

// great makes a tree of n nodes with Dirs in one another, by a rule; the seed says which.
func great(n int, seed uint32) []api.Node {
	names := []string{"a", "a-", "a0", "ab", "b", "\xff", ".a", "a b"}
	t := []api.Node{dir("")}
	dirs := []string{""}
	next := func(below int) int {
		seed = seed*1664525 + 1013904223
		return int(seed>>8) % below
	}
	for len(t) < n {
		p := strings.TrimPrefix(dirs[next(len(dirs))]+"/"+names[next(len(names))], "/")
		if strings.Count(p, "/") > 9 || slices.ContainsFunc(t, func(n api.Node) bool { return n.Path == p }) {
			continue
		}
		made := []api.Node{dir(p), file(p, p), exec(p, ""), link(p, "x"), dir(p)}[next(5)]
		if made.Kind == api.Dir {
			dirs = append(dirs, p)
		}
		t = append(t, made)
	}
	return tree.Sort(t)
}

func TestOfGreatTrees(t *testing.T) {
	for seed := range uint32(3) {
		l := great(400, seed)
		if !tree.May(l) {
			t.Fatalf("no tree of seed %d", seed)
		}
		for i, n := range l {
			checkAt(t, l, n.Path+[]string{"", "-", "/a", ""}[i%4])
		}
	}
}

func TestGraftTurnsSubRound(t *testing.T) {
	for seed := range uint32(3) {
		l := great(400, seed)
		for _, n := range l[1:] {
			sub, _ := find.Sub(l, n.Path)
			rest := tree.Filter(l, func(o api.Node) bool { return o.Path != n.Path && !strings.HasPrefix(o.Path, n.Path+"/") })
			if got, ok := find.Graft(rest, n.Path, sub); !ok || !slices.Equal(got, l) {
				t.Fatalf("P3.2: Graft at %q of what Sub tells there, seed %d: %t", n.Path, seed, ok)
			}
		}
	}
}

func TestGraftOfGreatTrees(t *testing.T) {
	l := great(200, 7)
	subs := [][]api.Node{great(200, 8), great(201, 8), great(20, 9)}
	good := 0
	for i, n := range l {
		p := strings.TrimPrefix(n.Path+[]string{"~", "/~"}[i%2], "/")
		if checkGraft(t, l, p, subs[i%3]) {
			good++
		}
	}
	if good < 20 || good > 180 {
		t.Errorf("%d of %d grafts may be: too few, or too many", good, len(l))
	}
}

// roomy tells the same nodes with spare room that holds others, and all of that.
func roomy(l []api.Node) (given, all []api.Node) {
	all = append(slices.Clone(l), slices.Repeat([]api.Node{file("room", "r")}, 40)...)
	return all[:len(l)], all
}

func TestWhatIsHandedInStays(t *testing.T) {
	for _, l := range append(noTrees()[:10], sample(), flat(400), []api.Node{dir("")}, []api.Node{file("", "x")}) {
		for _, sub := range [][]api.Node{nil, {dir("")}, {dir(""), file("b", ""), file("c", "")}, {dir(""), file("c", ""), file("b", "")}, sample()} {
			for _, p := range []string{"", "a", "a/b", "a/a", "0", "a/0", "z", "a/"} {
				given, all := roomy(l)
				graft, more := roomy(sub)
				keptAll, keptMore := slices.Clone(all), slices.Clone(more)
				find.Lookup(given, p)
				find.List(given, p)
				find.Sub(given, p)
				find.Graft(given, p, graft)
				find.Graft(given, p, given)
				if !slices.Equal(all, keptAll) || !slices.Equal(more, keptMore) {
					t.Fatalf("R4: what was handed in is changed, or its room, at %q: %s, %s", p, show(all...), show(more...))
				}
			}
		}
	}
}

// answers are the calls that answer nodes.
func answers() []func(l []api.Node) []api.Node {
	alone := []api.Node{file("", "x")}
	return []func(l []api.Node) []api.Node{
		func(l []api.Node) []api.Node { n, _ := find.Sub(l, ""); return n },
		func(l []api.Node) []api.Node { n, _ := find.Sub(l, "a"); return n },
		func(l []api.Node) []api.Node { n, _ := find.Graft(l, "0", alone); return n },
		func(l []api.Node) []api.Node { n, _ := find.Graft(l, "z", alone); return n },
		func(l []api.Node) []api.Node { n, _ := find.Graft([]api.Node{dir("")}, "a", l); return n },
		func(l []api.Node) []api.Node { n, _ := find.Graft(l, "z", l); return n },
	}
}

func TestAnswersShareNothing(t *testing.T) {
	for i, call := range answers() {
		l, all := roomy(sample())
		kept := slices.Clone(all)
		first, second := call(l), call(l)
		want := slices.Clone(second)
		if len(first) == 0 || !slices.Equal(first, second) {
			t.Fatalf("R5: answer %d is not told, or not told again", i)
		}
		first = append(first[:cap(first)], file("y", ""))
		for j := range first {
			first[j] = file("z", "z")
		}
		if !slices.Equal(all, kept) || !slices.Equal(second, want) {
			t.Errorf("R4: answer %d shares memory with what was handed in, or with another answer", i)
		}
		for j := range all {
			all[j] = file("y", "y")
		}
		if !slices.Equal(second, want) {
			t.Errorf("R4: answer %d changes with what was handed in", i)
		}
	}
	l := sample()
	first, _ := find.List(l, "")
	second, _ := find.List(l, "")
	want := slices.Clone(second)
	for i := range first {
		first[i] = ""
	}
	if !slices.Equal(second, want) || !slices.Equal(l, sample()) {
		t.Error("R4: what List answers shares memory with another answer")
	}
}

func TestOfVeryMuch(t *testing.T) {
	huge := flat(1 << 20)
	name := text(1 << 24)
	for range 200 {
		_, a := find.Lookup(huge, "f1000001")
		_, b := find.List(huge, "")
		_, c := find.Sub(huge, "")
		_, d := find.Graft(huge, "g", huge)
		_, e := find.Graft([]api.Node{dir("")}, "g", huge)
		_, f := find.Graft(flat(200), name, flat(200))
		_, g := find.Sub(sample(), name)
		if a || b || c || d || e || f || g {
			t.Fatal("P3.1: something is told of very much")
		}
	}
}

func TestFromSeveralGoroutines(t *testing.T) {
	l, all := roomy(sample())
	kept := slices.Clone(all)
	var group sync.WaitGroup
	for range 8 {
		group.Go(func() {
			for range 50 {
				n, a := find.Lookup(l, "a/ab")
				names, b := find.List(l, "a")
				sub, c := find.Sub(l, "ab")
				whole, d := find.Graft(l, "b", l)
				if !a || !b || !c || !d || n != file("a/ab", "2") || len(names) != 3 || len(sub) != 4 || len(whole) != 2*len(l) {
					t.Error("R5: calls at one time")
				}
			}
		})
	}
	group.Wait()
	if !slices.Equal(all, kept) {
		t.Error("R4: calls at one time change what was handed in")
	}
}
