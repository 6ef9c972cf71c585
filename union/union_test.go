package union_test

import (
	"math"
	"slices"
	"strconv"
	"strings"
	"sync"
	"testing"

	"hogshead/api"
	"hogshead/tree"
	"hogshead/union"
)

func dir(p string) api.Node { return api.Node{Path: p, Kind: api.Dir} }

func file(p, data string) api.Node { return api.Node{Path: p, Kind: api.File, Data: data} }

func exec(p, data string) api.Node { return api.Node{Path: p, Kind: api.Exec, Data: data} }

func link(p, data string) api.Node { return api.Node{Path: p, Kind: api.Link, Data: data} }

// made makes the root, a Dir, and these nodes.
func made(nodes ...api.Node) []api.Node { return append([]api.Node{dir("")}, nodes...) }

// files makes n files from a number on, behind the root.
func files(from, n int) []api.Node {
	t := made()
	for i := range n {
		t = append(t, file("f"+strconv.Itoa(10000000+from+i), ""))
	}
	return t
}

// text makes n bytes that may stand anywhere.
func text(n int) string { return strings.Repeat("x", n) }

// show tells the first few nodes of each list, for a message.
func show(lists ...[]api.Node) string {
	var out strings.Builder
	for _, l := range lists[:min(len(lists), 4)] {
		out.WriteString("(" + strconv.Itoa(len(l)) + ":")
		for _, n := range l[:min(len(l), 12)] {
			out.WriteString(" {" + strconv.Quote(n.Path) + " " + strconv.Itoa(n.Kind) + " " + strconv.Quote(n.Data[:min(len(n.Data), 20)]) + "}")
		}
		out.WriteString(")")
	}
	return out.String()
}

// policies are those that there are.
func policies() []int { return []int{api.Refuse, api.First} }

// model says by the chapter's words what Of is to tell, each node held against all those that were added.
func model(policy int, trees ...[]api.Node) ([]api.Node, api.Errno) {
	if policy != 0 && policy != 1 {
		return nil, 2
	}
	for _, t := range trees {
		if !tree.May(t) || t[0].Kind != 1 {
			return nil, 7
		}
	}
	all := []api.Node{{Path: "", Kind: 1, Data: ""}}
	for _, t := range trees {
		for _, n := range t {
			taken, clash := false, false
			for _, o := range all {
				if o.Path == n.Path {
					taken, clash = true, clash || o.Kind != n.Kind || o.Data != n.Data
				}
				if o.Kind != 1 && strings.HasPrefix(n.Path, o.Path+"/") {
					taken, clash = true, true
				}
			}
			if clash && policy == 0 {
				return nil, 9
			}
			if !taken {
				all = append(all, n)
			}
		}
	}
	if len(all) > 400 {
		return nil, 3
	}
	slices.SortFunc(all, func(a, b api.Node) int { return strings.Compare(a.Path, b.Path) })
	return all, 0
}

// check holds Of against what it is to tell; what is told is a tree, or none beside an error.
func check(t *testing.T, policy int, trees [][]api.Node, want []api.Node, e api.Errno) {
	t.Helper()
	got, errno := union.Of(policy, trees...)
	if errno != e || !slices.Equal(got, want) {
		t.Fatalf("P4.1: Of(%d, %s): %s, %d; not %s, %d", policy, show(trees...), show(got), errno, show(want), e)
	}
	if e == api.OK && !tree.May(got) {
		t.Fatalf("P4.1: Of(%d, %s) is no tree: %s", policy, show(trees...), show(got))
	}
}

// checkModel holds Of against the model, and tells the error.
func checkModel(t *testing.T, policy int, trees ...[]api.Node) api.Errno {
	t.Helper()
	want, e := model(policy, trees...)
	check(t, policy, trees, want, e)
	return e
}

func TestOf(t *testing.T) {
	a := made(file("a", "1"), dir("b"), file("b/c", "2"))
	b := made(dir("b"), file("b/c", "2"), exec("b/d", "\x00\xff"), link("z", "../z"))
	both := made(file("a", "1"), dir("b"), file("b/c", "2"), exec("b/d", "\x00\xff"), link("z", "../z"))
	over := made(dir("a"), file("a/b", ""), file("b", "3"), dir("c"))
	for _, x := range []struct {
		trees         [][]api.Node
		refuse, first []api.Node
	}{
		{nil, made(), made()}, {[][]api.Node{}, made(), made()}, {[][]api.Node{made()}, made(), made()}, {[][]api.Node{made(), made(), made()}, made(), made()},
		{[][]api.Node{a}, a, a}, {[][]api.Node{b}, b, b}, {[][]api.Node{a, a}, a, a}, {[][]api.Node{made(), a}, a, a}, {[][]api.Node{a, made()}, a, a},
		{[][]api.Node{a, b}, both, both}, {[][]api.Node{b, a}, both, both}, {[][]api.Node{b, a, both, b}, both, both},
		{[][]api.Node{a, over}, nil, made(file("a", "1"), dir("b"), file("b/c", "2"), dir("c"))}, {[][]api.Node{over, a}, nil, over}, {[][]api.Node{a, over, b}, nil, made(file("a", "1"), dir("b"), file("b/c", "2"), exec("b/d", "\x00\xff"), dir("c"), link("z", "../z"))},
		{[][]api.Node{made(file("a", "1")), made(dir("a"), file("a/b", ""))}, nil, made(file("a", "1"))},
	} {
		check(t, api.First, x.trees, x.first, api.OK)
		if x.refuse == nil {
			check(t, api.Refuse, x.trees, nil, api.ErrClash)
		} else {
			check(t, api.Refuse, x.trees, x.refuse, api.OK)
		}
	}
}

func TestOfIsSorted(t *testing.T) {
	// The byte - stands ahead of /, 0 behind it, so that a Dir and what stands in it come apart.
	trees := [][]api.Node{made(dir("a"), file("a/b", "1")), made(file("a-", "2"), file("a0", "3")), made(dir("a"), dir("a/a"), file("a/a/z", "")), made(file("\xff", "4")), made(file("\x01", "5"), dir("a"), file("a/b-", ""))}
	want := made(file("\x01", "5"), dir("a"), file("a-", "2"), dir("a/a"), file("a/a/z", ""), file("a/b", "1"), file("a/b-", ""), file("a0", "3"), file("\xff", "4"))
	for _, policy := range policies() {
		check(t, policy, trees, want, api.OK)
		for _, order := range orders(len(trees)) {
			check(t, policy, put(trees, order), want, api.OK)
		}
	}
}

// orders tells all orders of the numbers below n.
func orders(n int) [][]int {
	all := [][]int{{}}
	for k := range n {
		var longer [][]int
		for _, o := range all {
			for at := range len(o) + 1 {
				longer = append(longer, slices.Insert(slices.Clone(o), at, k))
			}
		}
		all = longer
	}
	return all
}

// put tells the trees in another order.
func put(trees [][]api.Node, order []int) [][]api.Node {
	var out [][]api.Node
	for _, at := range order {
		out = append(out, trees[at])
	}
	return out
}

func TestNoPolicy(t *testing.T) {
	clash := [][]api.Node{made(file("a", "1")), made(file("a", "2"))}
	full := [][]api.Node{files(0, 300), files(300, 300)}
	for _, policy := range []int{-1, 2, 3, -2, 256, 257, 1 << 32, 1<<32 + 1, -1 << 32, math.MaxInt, math.MinInt, math.MinInt + 1} {
		for _, trees := range [][][]api.Node{nil, {}, {made()}, {made(file("a", "1")), made(file("b", "2"))}, {nil}, {{file("", "x")}}, clash, full, append(clash, nil), append(full, []api.Node{{}})} {
			check(t, policy, trees, nil, api.ErrArg)
		}
	}
}

// noTrees are lists that are none, or whose root is no Dir.
func noTrees() [][]api.Node {
	return [][]api.Node{
		nil, {}, {file("", "")}, {file("", "x")}, {exec("", "x")}, {link("", "a")},
		{{}}, {{Kind: 5}}, {{Kind: api.Dir, Data: "x"}}, {link("", "")}, {dir("a")}, {file("a", "")}, {dir("a"), file("a/b", "")}, {dir("a"), dir("")}, {dir(""), dir("")}, {file("", ""), file("a", "")},
		made(file("b", ""), file("a", "")), made(file("a", ""), file("a", "")), made(file("a/b", "")), made(file("a/b", ""), dir("a")), made(file("a", ""), file("a/b", "")), made(link("a", "b"), file("a/b", "")),
		made(link("a", "")), made(link("a", "\x00")), made(file("a", text(401))), made(api.Node{Path: "a", Kind: api.Dir, Data: "x"}), made(api.Node{Path: "a"}), made(api.Node{Path: "a", Kind: -1}),
		made(dir("a/")), made(dir("/a")), made(dir("..")), made(dir(".wh.a")), made(dir("a\x00")), made(dir(text(61))), files(0, 400), files(0, 1<<16),
	}
}

func TestNoTree(t *testing.T) {
	for i, bad := range noTrees() {
		for _, good := range [][][]api.Node{
			{}, {made()}, {made(file("a", "1")), made(file("b", "2")), made(dir("c"))},
			{made(file("a", "1")), made(file("a", "2"))}, {made(file("a", "1")), made(dir("a"), file("a/b", ""))},
			{files(0, 300), files(300, 300)}, {files(0, 399), files(399, 1), made(dir(files(0, 1)[1].Path))},
		} {
			for at := range len(good) + 1 {
				trees := slices.Insert(slices.Clone(good), at, bad)
				for _, policy := range policies() {
					if l, e := union.Of(policy, trees...); e != api.ErrTree || l != nil {
						t.Errorf("P4.1: Of with list %d, which is none, at place %d: %s, %d", i, at, show(l), e)
					}
				}
			}
		}
	}
}

func TestNoTreeThatWouldBecomeOne(t *testing.T) {
	for i, trees := range [][][]api.Node{
		{made(dir("a")), {file("a/b", "")}}, {made(dir("a")), made(file("a/b", ""))}, {{dir("a")}, made()}, {made(file("b", ""), file("a", ""))}, {made(file("a", "1")), made(file("a", "1"), file("a", "1"))}, {made(file("a", "1")), {}}, {made(), {file("", "")}, made()},
	} {
		for _, policy := range policies() {
			if l, e := union.Of(policy, trees...); e != api.ErrTree || l != nil {
				t.Errorf("P4.1: Of %d, policy %d: %s, %d", i, policy, show(l), e)
			}
		}
	}
}

// housed makes a tree of n, the Dirs that it stands in, and these nodes of the root.
func housed(n api.Node, beside ...api.Node) []api.Node {
	t := append(made(n), beside...)
	for at, c := range n.Path {
		if c == '/' {
			t = append(t, dir(n.Path[:at]))
		}
	}
	return tree.Sort(t)
}

func TestTaken(t *testing.T) {
	for _, p := range []string{"a", "d/a", "d/d/a"} {
		nodes := []api.Node{dir(p), file(p, ""), file(p, "1"), file(p, "2"), file(p, "1\x00"), file(p, text(400)), file(p, text(399)+"y"), exec(p, ""), exec(p, "1"), link(p, "1"), link(p, "2"), link(p, text(400))}
		for i, n := range nodes {
			for j, o := range nodes {
				one, other := housed(n, file("y", "")), housed(o, file("z", ""))
				check(t, api.First, [][]api.Node{one, other}, housed(n, file("y", ""), file("z", "")), api.OK)
				check(t, api.First, [][]api.Node{other, one}, housed(o, file("y", ""), file("z", "")), api.OK)
				if i == j {
					check(t, api.Refuse, [][]api.Node{one, other}, housed(n, file("y", ""), file("z", "")), api.OK)
				} else {
					check(t, api.Refuse, [][]api.Node{one, other}, nil, api.ErrClash)
					check(t, api.Refuse, [][]api.Node{made(), one, made(), one, other, made()}, nil, api.ErrClash)
				}
			}
		}
	}
}

func TestUnderNoDir(t *testing.T) {
	under := made(dir("a"), file("a-", "-"), dir("a/b"), file("a/b-", ""), dir("a/b/c"), exec("a/b/c/d", ""), link("a/b/e", "x"), file("a/f", ""), file("a0", "0"), file("aa", ""))
	beside := func(n api.Node) []api.Node { return made(n, file("a-", "-"), file("a0", "0"), file("aa", "")) }
	for _, n := range []api.Node{file("a", ""), file("a", "1"), exec("a", ""), link("a", "b")} {
		alone := made(n)
		check(t, api.First, [][]api.Node{alone, under}, beside(n), api.OK)
		check(t, api.First, [][]api.Node{under, alone}, under, api.OK)
		check(t, api.First, [][]api.Node{made(), alone, under, under, alone}, beside(n), api.OK)
		check(t, api.Refuse, [][]api.Node{alone, under}, nil, api.ErrClash)
		check(t, api.Refuse, [][]api.Node{under, alone}, nil, api.ErrClash)
		check(t, api.Refuse, [][]api.Node{made(), under, made(), alone}, nil, api.ErrClash)
		low := made(dir("a"), api.Node{Path: "a/b", Kind: n.Kind, Data: n.Data})
		check(t, api.First, [][]api.Node{low, under}, made(dir("a"), file("a-", "-"), low[2], file("a/b-", ""), file("a/f", ""), file("a0", "0"), file("aa", "")), api.OK)
		check(t, api.First, [][]api.Node{low, alone, under}, made(dir("a"), file("a-", "-"), low[2], file("a/b-", ""), file("a/f", ""), file("a0", "0"), file("aa", "")), api.OK)
		check(t, api.First, [][]api.Node{alone, low, under}, beside(n), api.OK)
		check(t, api.Refuse, [][]api.Node{low, under}, nil, api.ErrClash)
		check(t, api.Refuse, [][]api.Node{under, low}, nil, api.ErrClash)
		check(t, api.Refuse, [][]api.Node{low, alone}, nil, api.ErrClash)
	}
}

func TestNamesThatOnlyBeginAlike(t *testing.T) {
	trees := [][]api.Node{made(file("a", "1")), made(dir("a-"), file("a-/b", "")), made(dir("a0"), file("a0/b", "")), made(dir("aa"), file("aa/a", "")), made(dir("b"), file("b/a", "2")), made(dir("\x01"), file("\x01/a", ""))}
	want := made(dir("\x01"), file("\x01/a", ""), file("a", "1"), dir("a-"), file("a-/b", ""), dir("a0"), file("a0/b", ""), dir("aa"), file("aa/a", ""), dir("b"), file("b/a", "2"))
	for _, order := range orders(len(trees)) {
		check(t, api.Refuse, put(trees, order), want, api.OK)
		check(t, api.First, put(trees, order), want, api.OK)
	}
}

func TestUnderNoDirAtEachDepth(t *testing.T) {
	deep := made()
	for n := 1; n <= api.MaxDepth; n++ {
		deep = append(deep, dir(strings.TrimSuffix(strings.Repeat("d/", n), "/")))
	}
	for n := 1; n <= api.MaxDepth; n++ {
		cut := slices.Clone(deep[:n+1])
		cut[n].Kind = api.File
		check(t, api.First, [][]api.Node{cut, deep}, cut, api.OK)
		check(t, api.First, [][]api.Node{deep, cut}, deep, api.OK)
		check(t, api.Refuse, [][]api.Node{cut, deep}, nil, api.ErrClash)
		check(t, api.Refuse, [][]api.Node{deep, cut}, nil, api.ErrClash)
		check(t, api.Refuse, [][]api.Node{deep[:n], deep, deep[:n]}, deep, api.OK)
	}
}

func TestFull(t *testing.T) {
	for _, policy := range policies() {
		for _, n := range []int{0, 1, 2, 199, 200, 201, 398, 399} {
			for _, m := range []int{399 - n, 400 - n, 401 - n, 399} {
				one, other := files(0, n), files(n, min(m, 399))
				if n+len(other)-1 <= 399 {
					check(t, policy, [][]api.Node{one, other}, files(0, n+len(other)-1), api.OK)
				} else {
					check(t, policy, [][]api.Node{one, other}, nil, api.ErrFull)
				}
			}
		}
		check(t, policy, [][]api.Node{files(0, 399)}, files(0, 399), api.OK)
		check(t, policy, slices.Repeat([][]api.Node{files(0, 399)}, 20), files(0, 399), api.OK)
		check(t, policy, [][]api.Node{files(0, 300), files(100, 299), files(399, 0), files(50, 349)}, files(0, 399), api.OK)
		check(t, policy, [][]api.Node{files(0, 300), files(100, 300)}, nil, api.ErrFull)
		check(t, policy, [][]api.Node{files(0, 399), files(0, 399), files(399, 1), files(0, 399)}, nil, api.ErrFull)
		check(t, policy, [][]api.Node{files(0, 399), made(dir("g"), file("g/h", ""))}, nil, api.ErrFull)
		single := [][]api.Node{}
		for i := range 399 {
			single = append(single, files(398-i, 1))
		}
		check(t, policy, single, files(0, 399), api.OK)
		check(t, policy, append(single, files(399, 1)), nil, api.ErrFull)
	}
}

func TestWhatIsPassedOverTakesNoRoom(t *testing.T) {
	under := made(dir("a"))
	for i := range 390 {
		under = append(under, file("a/"+strconv.Itoa(1000+i), ""))
	}
	full := append(made(file("a", "1")), files(0, 398)[1:]...)
	check(t, api.First, [][]api.Node{full, under}, full, api.OK)
	check(t, api.First, [][]api.Node{made(file("a", "1")), under, files(0, 398)}, full, api.OK)
	check(t, api.First, [][]api.Node{made(file("a", "1")), under, files(0, 399)}, nil, api.ErrFull)
	check(t, api.First, [][]api.Node{under, full}, nil, api.ErrFull)
	changed := files(0, 399)
	for i := range changed[1:] {
		changed[i+1].Data = "2"
	}
	check(t, api.First, [][]api.Node{files(0, 200), changed}, append(files(0, 200), changed[201:]...), api.OK)
	check(t, api.First, [][]api.Node{files(0, 200), changed, files(399, 1)}, nil, api.ErrFull)
}

func TestClashAheadOfFull(t *testing.T) {
	over := files(300, 300)
	for _, at := range []int{1, 50, 99, 100, 101, 200, 300} {
		clash := made(dir(over[at].Path), file(over[at].Path+"/x", ""))
		other := made(file(over[at].Path, "x"))
		for _, last := range [][]api.Node{clash, other} {
			trees := [][]api.Node{files(0, 300), over, last}
			for _, order := range orders(3) {
				check(t, api.Refuse, put(trees, order), nil, api.ErrClash)
				check(t, api.First, put(trees, order), nil, api.ErrFull)
			}
		}
	}
	far := [][]api.Node{files(0, 399), files(1000, 399), files(2000, 399), made(file(files(2398, 1)[1].Path, "x"))}
	for _, order := range orders(len(far)) {
		check(t, api.Refuse, put(far, order), nil, api.ErrClash)
	}
}

// smallTrees makes all trees of these few places, each with nothing or with one of some nodes.
func smallTrees() [][]api.Node {
	lists := [][]api.Node{made()}
	for _, nodes := range [][]api.Node{
		{dir("a"), file("a", "1"), link("a", "1")}, {file("a-b", "")}, {dir("a/b"), file("a/b", "1")}, {file("a/b/c", "1"), exec("a/b/c", "1")},
	} {
		for _, l := range slices.Clone(lists) {
			for _, n := range nodes {
				if longer := append(slices.Clone(l), n); tree.May(longer) {
					lists = append(lists, longer)
				}
			}
		}
	}
	return lists
}

func TestOfAllSmallTrees(t *testing.T) {
	trees := smallTrees()
	for _, policy := range policies() {
		count := map[api.Errno]int{}
		for _, a := range trees {
			count[checkModel(t, policy, a)]++
			for _, b := range trees {
				count[checkModel(t, policy, a, b)]++
				for _, c := range trees {
					count[checkModel(t, policy, a, b, c)]++
				}
			}
		}
		if count[api.OK] < 500 || policy == api.Refuse && count[api.ErrClash] < 500 {
			t.Errorf("policy %d: only %v were looked at", policy, count)
		}
	}
}

func TestOfAllShortLists(t *testing.T) {
	pool := []api.Node{dir(""), file("", "x"), dir("a"), file("a", ""), dir("a/b"), file("a/b", "x"), exec("b", ""), {}, link("a", "")}
	lists := [][]api.Node{nil}
	for at := 0; at < len(lists); at++ {
		l := lists[at]
		for _, policy := range policies() {
			checkModel(t, policy, l)
			checkModel(t, policy, l, made(dir("a")))
			checkModel(t, policy, made(file("a", "")), made(file("a", "1")), l)
			checkModel(t, policy, made(dir("a"), file("a/b", "")), l, l)
		}
		for _, n := range pool {
			if len(l) < 4 {
				lists = append(lists, append(slices.Clone(l), n))
			}
		}
	}
}

// same tells whether Refuse answers one thing of the trees in each of these orders, and what.
func same(t *testing.T, trees [][]api.Node, orders [][]int) api.Errno {
	t.Helper()
	want, e := union.Of(api.Refuse, trees...)
	for _, order := range orders {
		if got, errno := union.Of(api.Refuse, put(trees, order)...); errno != e || !slices.Equal(got, want) {
			t.Fatalf("P4.2: of %s in the order %v: %s, %d; not %s, %d", show(trees...), order, show(got), errno, show(want), e)
		}
	}
	return e
}

func TestOrderOfSmallTrees(t *testing.T) {
	trees := smallTrees()
	three := orders(3)
	count := map[api.Errno]int{}
	for i, a := range trees {
		for j, b := range trees[i:] {
			for _, c := range trees[i+j:] {
				count[same(t, [][]api.Node{a, b, c}, three)]++
			}
		}
	}
	if count[api.OK] < 100 || count[api.ErrClash] < 100 {
		t.Errorf("P4.2: only %v were looked at", count)
	}
}

// great makes a tree of n nodes with Dirs in one another, by a rule: the seed says which; of two seeds the same path has the same node, if plain.
func great(n int, seed uint32, plain bool) []api.Node {
	names := []string{"a", "a-", "a0", "ab", "b", "\xff", ".a", "a b"}
	t := made()
	dirs := []string{""}
	next := func(below int) int {
		seed = seed*1664525 + 1013904223
		return int(seed>>8) % below
	}
	for len(t) < n {
		p := strings.TrimPrefix(dirs[next(len(dirs))]+"/"+names[next(len(names))], "/")
		if strings.Count(p, "/") > 9 || slices.ContainsFunc(t, func(n api.Node) bool { return n.Path == p }) {
			continue
		}
		kind := next(5)
		if plain {
			kind = (len(p) + int(p[len(p)-1])) % 5
		}
		node := []api.Node{dir(p), file(p, p), exec(p, ""), link(p, "x"), dir(p)}[kind]
		if node.Kind == api.Dir {
			dirs = append(dirs, p)
		}
		t = append(t, node)
	}
	return tree.Sort(t)
}

func TestOfGreatTrees(t *testing.T) {
	count := map[api.Errno]int{}
	for seed := range uint32(12) {
		for _, plain := range []bool{true, false} {
			for _, n := range []int{40, 150, 400} {
				trees := [][]api.Node{great(n, seed, plain), great(n/2, seed+100, plain), great(n/3, seed+200, plain)}
				for _, policy := range policies() {
					count[checkModel(t, policy, trees...)]++
				}
				same(t, trees, orders(3))
			}
		}
	}
	if count[api.OK] < 20 || count[api.ErrClash] < 20 || count[api.ErrFull] < 5 {
		t.Errorf("only %v were looked at", count)
	}
}

func TestOrderOfSeveral(t *testing.T) {
	for want, trees := range map[api.Errno][][]api.Node{
		api.OK:       {great(60, 1, true), great(60, 2, true), made(), great(60, 3, true), great(60, 1, true)},
		api.ErrClash: {great(60, 1, true), great(60, 2, true), files(0, 399), made(file("z", "1")), made(file("z", "2"))},
		api.ErrFull:  {files(0, 399), files(100, 299), great(60, 1, true), made(), files(50, 200)},
		api.ErrTree:  {files(0, 399), files(399, 1), made(file("z", "1")), made(file("z", "2")), made(file("z/a", ""))},
	} {
		if e := same(t, trees, orders(len(trees))); e != want {
			t.Errorf("P4.2: of %s: %d, not %d", show(trees...), e, want)
		}
	}
}

func TestFirstGoesTreeByTree(t *testing.T) {
	for seed := range uint32(10) {
		trees := [][]api.Node{great(60, seed, false), great(60, seed+10, false), great(60, seed+20, false)}
		two, _ := union.Of(api.First, trees[:2]...)
		want, _ := union.Of(api.First, trees...)
		got, e := union.Of(api.First, two, trees[2])
		if e != api.OK || !slices.Equal(got, want) {
			t.Errorf("P4.1: of seed %d the first two, and then the third, come to something else", seed)
		}
		for _, n := range trees[0] {
			if !slices.Contains(got, n) {
				t.Errorf("P4.1: of seed %d the first tree's %q is not there", seed, n.Path)
			}
		}
	}
}

// roomy tells the same trees, each with spare room that holds others, and all of that.
func roomy(trees [][]api.Node) (given, all [][]api.Node) {
	for _, l := range trees {
		whole := append(slices.Clone(l), slices.Repeat([]api.Node{file("room", "r")}, 8)...)
		all = append(all, whole)
		given = append(given, whole[:len(l)])
	}
	return given, all
}

// clones tells a copy of each list.
func clones(lists [][]api.Node) [][]api.Node {
	var out [][]api.Node
	for _, l := range lists {
		out = append(out, slices.Clone(l))
	}
	return out
}

// equal tells whether two lists of lists are the same.
func equal(a, b [][]api.Node) bool {
	return slices.EqualFunc(a, b, func(x, y []api.Node) bool { return slices.Equal(x, y) })
}

func TestWhatIsHandedInStays(t *testing.T) {
	for i, trees := range [][][]api.Node{
		nil, {made()}, {made(file("b", "")), made(file("a", ""))}, {made(file("a", "")), made(file("a", "1"))}, {made(file("a", "")), made(dir("a"), dir("a/b"))}, {files(0, 300), files(200, 300)}, {files(0, 399), nil}, {made(file("b", ""), file("a", ""))}, {{file("", "x")}, made()},
	} {
		for _, policy := range []int{api.Refuse, api.First, 2} {
			given, all := roomy(trees)
			kept := clones(all)
			longer := append(slices.Clone(given), files(7, 7), files(8, 8))
			union.Of(policy, longer[:len(given)]...)
			union.Of(policy, append(given, given...)...)
			if !equal(all, kept) {
				t.Errorf("R4: of %d, policy %d, what was handed in is changed, or its room", i, policy)
			}
			if !equal(longer, append(clones(trees), files(7, 7), files(8, 8))) {
				t.Errorf("R4: of %d, policy %d, the list of trees is changed, or its room", i, policy)
			}
		}
	}
}

func TestAnswersShareNothing(t *testing.T) {
	for i, trees := range [][][]api.Node{nil, {made()}, {made(dir("b"), file("b/c", ""))}, {made(), made(file("b", ""))}, {made(file("b", "")), made(file("a", ""))}, {files(0, 399)}} {
		for _, policy := range policies() {
			given, all := roomy(trees)
			kept := clones(all)
			first, _ := union.Of(policy, given...)
			second, _ := union.Of(policy, given...)
			want := slices.Clone(second)
			if !slices.Equal(first, second) || len(first) == 0 {
				t.Fatalf("R5: answer %d is not told, or not told again", i)
			}
			first = first[:cap(first)]
			for j := range first {
				first[j] = file("z", "z")
			}
			if !equal(all, kept) || !slices.Equal(second, want) {
				t.Errorf("R4: answer %d shares memory with what was handed in, or with another answer", i)
			}
			for _, l := range all {
				for j := range l {
					l[j] = file("y", "y")
				}
			}
			if !slices.Equal(second, want) {
				t.Errorf("R4: answer %d changes with what was handed in", i)
			}
			if third, e := union.Of(policy); e != api.OK || !slices.Equal(third, made()) {
				t.Errorf("R5: of no trees, behind answer %d: %s, %d", i, show(third), e)
			}
		}
	}
}

func TestOfVeryMuch(t *testing.T) {
	many := slices.Repeat([][]api.Node{files(0, 399)}, 2000)
	apart := [][]api.Node{}
	for i := range 500 {
		apart = append(apart, files(399*i, 399))
	}
	clash := append(slices.Clone(apart), made(file(apart[499][399].Path, "x")))
	huge := files(0, 1<<20)
	for _, policy := range policies() {
		check(t, policy, many, files(0, 399), api.OK)
		check(t, policy, apart, nil, api.ErrFull)
		for range 200 {
			check(t, policy, [][]api.Node{huge, huge}, nil, api.ErrTree)
			check(t, policy, [][]api.Node{made(), made(file(text(1<<10), ""))}, nil, api.ErrTree)
		}
	}
	check(t, api.Refuse, clash, nil, api.ErrClash)
	check(t, api.First, clash, nil, api.ErrFull)
}

func TestFromSeveralGoroutines(t *testing.T) {
	given, all := roomy([][]api.Node{great(100, 1, true), great(100, 2, true), files(0, 50)})
	kept := clones(all)
	want, e := model(api.Refuse, given...)
	if e != api.OK {
		t.Fatalf("the trees do not go together: %d", e)
	}
	var group sync.WaitGroup
	for range 8 {
		group.Go(func() {
			for range 50 {
				for _, policy := range policies() {
					if got, e := union.Of(policy, given...); e != api.OK || !slices.Equal(got, want) {
						t.Error("R5: calls at one time")
					}
				}
			}
		})
	}
	group.Wait()
	if !equal(all, kept) {
		t.Error("R4: calls at one time change what was handed in")
	}
}
