package closure_test

import (
	"fmt"
	"math"
	"reflect"
	"regexp"
	"slices"
	"strconv"
	"strings"
	"sync"
	"testing"

	"hogshead/api"
	"hogshead/closure"
	"hogshead/item"
)

var (
	prefixRule = regexp.MustCompile(`\A/[a-z0-9]{3,15}\z`)
	nameRule   = regexp.MustCompile(`\A[0-9a-df-np-sv-z]{8}-[a-z0-9][a-z0-9.+_-]{0,20}\z`)
)

const (
	a  = "aaaaaaaa-x"
	a2 = "aaaaaaaa-y"
	b  = "bbbbbbbb-y"
	c  = "cccccccc-z"
	d  = "dddddddd-0.1"
	z  = "zzzzzzzz-none"
)

func dir(p string) api.Node { return api.Node{Path: p, Kind: api.Dir} }

func file(p, data string) api.Node { return api.Node{Path: p, Kind: api.File, Data: data} }

func text(n int) string { return strings.Repeat("x", n) }

// byteText is the text of one byte, which may be no letter.
func byteText(b int) string { return string([]byte{byte(b)}) }

// made is an item whose file says something.
func made(name, says string, refs ...string) api.Item {
	return api.Item{Name: name, Refs: refs, Tree: []api.Node{dir(""), file("f", says)}}
}

// holding is an item of this Tree that refers to nothing.
func holding(nodes ...api.Node) api.Item { return api.Item{Name: a, Tree: nodes} }

// some is a closure: a refers to b and d, b to itself, c to a, d to nothing.
func some() []api.Item {
	return []api.Item{made(a, "/gnu/"+b+" /gnu/"+d, b, d), made(b, b, b), made(c, "see "+a, a), made(d, "nothing")}
}

// with is that closure, but for what turn does to the item at a place.
func with(at int, turn func(i *api.Item)) []api.Item {
	l := some()
	turn(&l[at])
	return l
}

// names makes n names, rising, each with a hash of its own.
func names(n int) []string {
	var all []string
	for i := range n {
		all = append(all, strconv.Itoa(10000000+i)+"-x")
	}
	return all
}

// apart makes n items that refer to nothing.
func apart(n int) []api.Item {
	var all []api.Item
	for _, name := range names(n) {
		all = append(all, made(name, ""))
	}
	return all
}

// turned is the same list the other way round.
func turned[T any](l []T) []T {
	all := slices.Clone(l)
	slices.Reverse(all)
	return all
}

// choices are all lists of at most n of pool, in whatever order, one of them twice too.
func choices(pool []string, n int) [][]string {
	lists := [][]string{nil}
	for from := 0; len(lists[from]) < n; from++ {
		for _, s := range pool {
			lists = append(lists, append(slices.Clone(lists[from]), s))
		}
	}
	return lists
}

// modelRefs says name by name what a tree refers to.
func modelRefs(t []api.Node, items []api.Item) []string {
	var all []string
	for _, i := range items {
		for _, n := range t {
			if strings.Contains(n.Data, i.Name[:8]) && !slices.Contains(all, i.Name) {
				all = append(all, i.Name)
			}
		}
	}
	slices.Sort(all)
	return all
}

// modelValidate says by the chapter's words, one by one, what is wrong.
func modelValidate(prefix string, items []api.Item) api.Errno {
	if !prefixRule.MatchString(prefix) {
		return api.ErrPrefix
	}
	if len(items) > 8 {
		return api.ErrFull
	}
	for at, i := range items {
		if !nameRule.MatchString(i.Name) || at > 0 && i.Name <= items[at-1].Name {
			return api.ErrName
		}
		for _, ahead := range items[:at] {
			if ahead.Name[:8] == i.Name[:8] {
				return api.ErrName
			}
		}
		if !item.May(api.Item{Name: "00000000-x", Tree: i.Tree}) {
			return api.ErrTree
		}
	}
	for _, i := range items {
		if !slices.Equal(i.Refs, modelRefs(i.Tree, items)) {
			return api.ErrRefs
		}
	}
	return api.OK
}

// modelReach goes over all items again and again, until nothing is new.
func modelReach(items []api.Item, from []string) []string {
	have := item.Names(items...)
	reached := map[string]bool{}
	for _, name := range from {
		if slices.Contains(have, name) {
			reached[name] = true
		}
	}
	for before := -1; before != len(reached); {
		before = len(reached)
		for at, i := range items {
			if !reached[i.Name] || slices.Contains(have[:at], i.Name) {
				continue
			}
			for _, ref := range i.Refs {
				if slices.Contains(have, ref) {
					reached[ref] = true
				}
			}
		}
	}
	var all []string
	for name := range reached {
		all = append(all, name)
	}
	slices.Sort(all)
	return all
}

func checkPrefix(t *testing.T, p string, want bool) {
	t.Helper()
	if got := closure.Prefix(p); got != want {
		t.Errorf("P9.1: Prefix(%.60q) of %d bytes is %t", p, len(p), got)
	}
	// What is no prefix is told ahead of all else.
	for _, x := range []struct {
		items []api.Item
		want  api.Errno
	}{{nil, api.OK}, {some(), api.OK}, {apart(9), api.ErrFull}, {with(0, func(i *api.Item) { i.Name = "?" }), api.ErrName}, {with(0, func(i *api.Item) { i.Tree = nil }), api.ErrTree}, {with(0, func(i *api.Item) { i.Refs = nil }), api.ErrRefs}} {
		if !want {
			x.want = api.ErrPrefix
		}
		checkValidateUnder(t, p, "items under a prefix", x.items, x.want)
	}
}

func checkValidateUnder(t *testing.T, prefix, what string, items []api.Item, want api.Errno) {
	t.Helper()
	if got := closure.Validate(prefix, items); got != want {
		t.Errorf("P9.1: Validate(%.60q) of %s: %d, not %d", prefix, what, got, want)
	}
}

func checkValidate(t *testing.T, what string, items []api.Item, want api.Errno) {
	t.Helper()
	checkValidateUnder(t, "/gnu", what, items, want)
}

func checkReach(t *testing.T, items []api.Item, from, want []string) {
	t.Helper()
	if got := closure.Reach(items, from...); !slices.Equal(got, want) {
		t.Errorf("P9.1: Reach(%.300q; %.200q): %.200q, not %.200q", fmt.Sprint(items), from, got, want)
	}
}

func TestPrefix(t *testing.T) {
	for _, p := range []string{"/gnu", "/000", "/zzz", "/a0z", "/store", "/0123456789abcde", "/abc012345678901", "/" + text(15)} {
		checkPrefix(t, p, true)
	}
	for _, p := range []string{
		"", "/", "//", "///", "////", "g", "gnu", "gnu0", "gnu/", "/g", "/gn", "/gnu/", "//gnu", "/gnu/store", "/g/u", "/gn/", "/Gnu", "/gnU", "/gn-", "/gn.", "/gn_", "/gn+", "/gn ", " /gnu", "/gnu ", "/gnu\n", "\n/gnu", "/gn\x00", "/gnu\x00", "\\gnu", "/gn\xff", "/äb", "/gnä", "/gnü1", "/...",
		"/abc0123456789012", "/" + text(16), text(16), text(4), "\uff0fgnu", "/ｇnu",
	} {
		checkPrefix(t, p, false)
	}
}

func TestEachLengthOfAPrefix(t *testing.T) {
	for n := range 300 {
		checkPrefix(t, "/"+text(n), n >= 3 && n <= 15)
		checkPrefix(t, "/"+strings.Repeat("0", n), n >= 3 && n <= 15)
		checkPrefix(t, text(n), false)
		checkPrefix(t, strings.Repeat("/", n), false)
	}
	checkPrefix(t, "/"+text(1<<24), false)
}

func TestEachByteOfAPrefix(t *testing.T) {
	count := 0
	for b := range 256 {
		is := b >= 'a' && b <= 'z' || b >= '0' && b <= '9'
		if is {
			count++
		}
		for n := 2; n <= 16; n++ {
			checkPrefix(t, byteText(b)+text(n), b == '/' && n >= 3 && n <= 15)
			checkPrefix(t, "/"+strings.Repeat(byteText(b), n), is && n >= 3 && n <= 15)
			for at := range n {
				checkPrefix(t, "/"+text(at)+byteText(b)+text(n-1-at), is && n >= 3 && n <= 15)
			}
		}
	}
	if count != 36 {
		t.Errorf("%d signs of a prefix", count)
	}
}

func TestPrefixesChangedAtEachPlace(t *testing.T) {
	for _, p := range []string{"/gnu", "/gn", "/0123456789abcde", "/0123456789abcdef", "gnu0", "/g-u"} {
		for at := range len(p) {
			for _, put := range []string{"", "0", "z", "/", "//", "-", "A", "\x00", "\xff", "ä"} {
				for _, other := range []string{p[:at] + put + p[at:], p[:at] + put + p[at+1:], p + put} {
					checkPrefix(t, other, prefixRule.MatchString(other))
				}
			}
		}
	}
}

func TestValidateOfEachNumberOfItems(t *testing.T) {
	checkValidate(t, "no items", nil, api.OK)
	checkValidate(t, "an empty list", []api.Item{}, api.OK)
	checkValidate(t, "an empty list with room", make([]api.Item, 0, 9), api.OK)
	checkValidate(t, "four items", some(), api.OK)
	for n := range 40 {
		want := api.OK
		if n > 8 {
			want = api.ErrFull
		}
		checkValidate(t, strconv.Itoa(n)+" items", apart(n), want)
		if n > 8 {
			// Each other fault is named behind it.
			checkValidate(t, strconv.Itoa(n)+" items that are none", make([]api.Item, n), api.ErrFull)
			checkValidate(t, strconv.Itoa(n)+" items turned", turned(apart(n)), api.ErrFull)
			checkValidate(t, strconv.Itoa(n)+" times one", slices.Repeat(apart(1), n), api.ErrFull)
			checkValidateUnder(t, "", strconv.Itoa(n)+" items", apart(n), api.ErrPrefix)
		} else if n > 1 {
			checkValidate(t, strconv.Itoa(n)+" items turned", turned(apart(n)), api.ErrName)
			checkValidate(t, strconv.Itoa(n)+" times one", slices.Repeat(apart(1), n), api.ErrName)
		}
	}
	checkValidate(t, "one item that is none", make([]api.Item, 1), api.ErrName)
	checkValidate(t, "very many", apart(1<<16), api.ErrFull)
}

func TestValidateOfNames(t *testing.T) {
	for _, x := range []struct {
		what  string
		names []string
		want  api.Errno
	}{
		{"one", []string{a}, api.OK}, {"three", []string{a, b, c}, api.OK}, {"the least and the greatest", []string{"00000000-0", "zzzzzzzz-" + strings.Repeat("z", 21)}, api.OK}, {"hashes beside one another", []string{"00000000-z", "00000001-0"}, api.OK},
		{"an empty one", []string{""}, api.ErrName}, {"a hash", []string{"aaaaaaaa"}, api.ErrName}, {"no hash", []string{"aaaaaaae-x"}, api.ErrName}, {"one too long", []string{"aaaaaaaa-" + text(22)}, api.ErrName}, {"one that is long", []string{"aaaaaaaa-" + text(21)}, api.OK}, {"a path", []string{"/gnu/" + a}, api.ErrName}, {"great letters", []string{"AAAAAAAA-x"}, api.ErrName},
		{"none behind", []string{a, b, "cccccccc"}, api.ErrName}, {"none between", []string{a, "bbbbbbbb", c}, api.ErrName}, {"none ahead", []string{"", b, c}, api.ErrName},
		{"one twice", []string{a, a}, api.ErrName}, {"one twice behind", []string{a, b, b}, api.ErrName}, {"one again later", []string{a, b, a}, api.ErrName},
		{"out of order", []string{b, a}, api.ErrName}, {"the last out of order", []string{a, c, b}, api.ErrName}, {"the last below all", []string{b, c, a}, api.ErrName},
		{"two of one hash", []string{a, a2}, api.ErrName}, {"two of one hash turned", []string{a2, a}, api.ErrName}, {"two of one hash, one longer", []string{a, a + "x"}, api.ErrName}, {"two of one hash behind", []string{"00000000-x", a, a2, b}, api.ErrName}, {"two of one hash apart", []string{a, b, a2}, api.ErrName}, {"two of one hash farther apart", []string{a, b, c, d, a2}, api.ErrName}, {"two of one hash, one between", []string{a, a + "a", a2}, api.ErrName},
		{"two of one rest", []string{"aaaaaaaa-x", "bbbbbbbb-x"}, api.OK}, {"hashes that part at the last sign", []string{"aaaaaaaa-z", "aaaaaaab-a"}, api.OK}, {"hashes that part at the first sign", []string{"0aaaaaaa-z", "1aaaaaaa-a"}, api.OK}, {"digits behind letters", []string{"a0000000-x", "00000000-x"}, api.ErrName},
		{"a hash in another one's rest", []string{a, "bbbbbbbb-aaaaaaaa-x"}, api.OK},
	} {
		var items []api.Item
		for _, name := range x.names {
			items = append(items, made(name, ""))
		}
		checkValidate(t, x.what, items, x.want)
		if model := modelValidate("/gnu", items); model != x.want {
			t.Errorf("the model tells %d of %s", model, x.what)
		}
	}
}

func TestValidateOfAllShortListsOfNames(t *testing.T) {
	good := 0
	for _, l := range choices([]string{"", "00000000-z", a, a + "-", a2, "aaaaaaab-a", "aaaaaaae-a", "zzzzzzzz-z"}, 4) {
		var items []api.Item
		for _, name := range l {
			items = append(items, made(name, ""))
		}
		want := modelValidate("/gnu", items)
		checkValidate(t, fmt.Sprintf("%q", l), items, want)
		if want == api.OK {
			good++
		}
	}
	// Any choice of four hashes, one of which has three names: 2 * 4 * 2 * 2.
	if good != 32 {
		t.Errorf("%d lists of names may be", good)
	}
}

// flat makes a tree of n nodes: the root, and files in it.
func flat(n int) []api.Node {
	t := []api.Node{dir("")}
	for i := 1; i < n; i++ {
		t = append(t, file("f"+strconv.Itoa(10000000+i), ""))
	}
	return t
}

// chain makes the tree of a path of these parts: a Dir for each, one in the other.
func chain(parts ...string) []api.Node {
	t := []api.Node{dir("")}
	for n := range parts {
		t = append(t, dir(strings.Join(parts[:n+1], "/")))
	}
	return t
}

func TestValidateOfTrees(t *testing.T) {
	for _, x := range []struct {
		what string
		t    []api.Node
		want api.Errno
	}{
		{"no Tree", nil, api.ErrTree}, {"an empty Tree", []api.Node{}, api.ErrTree}, {"a Tree with room", make([]api.Node, 0, 3), api.ErrTree},
		{"a root", flat(1), api.OK}, {"a file as root", []api.Node{file("", "x")}, api.OK}, {"a link as root", []api.Node{{Kind: api.Link, Data: "x"}}, api.OK}, {"a program as root", []api.Node{{Kind: api.Exec}}, api.OK},
		{"a root of no Kind", []api.Node{{}}, api.ErrTree}, {"a Kind that is none", []api.Node{dir(""), {Path: "f", Kind: 5}}, api.ErrTree}, {"a Kind that is far off", []api.Node{dir(""), {Path: "f", Kind: math.MinInt}}, api.ErrTree}, {"no root", []api.Node{file("f", "")}, api.ErrTree}, {"out of order", []api.Node{dir(""), file("g", ""), file("f", "")}, api.ErrTree}, {"one path twice", []api.Node{dir(""), file("f", ""), file("f", "")}, api.ErrTree}, {"no Parent", []api.Node{dir(""), file("d/f", "")}, api.ErrTree}, {"a Parent that is a file", []api.Node{dir(""), file("d", ""), file("d/f", "")}, api.ErrTree},
		{"a path that is none", []api.Node{dir(""), file("f/", "")}, api.ErrTree}, {"a mark", []api.Node{dir(""), file(".wh.f", "")}, api.ErrTree}, {"a Dir with Data", []api.Node{{Kind: api.Dir, Data: "x"}}, api.ErrTree}, {"a link without Data", []api.Node{dir(""), {Path: "f", Kind: api.Link}}, api.ErrTree},
		{"Data at the limit", []api.Node{file("", text(400))}, api.OK}, {"Data past it", []api.Node{file("", text(401))}, api.ErrTree},
		{"MaxOwn nodes", flat(24), api.OK}, {"one more", flat(25), api.ErrTree}, {"MaxNodes nodes", flat(400), api.ErrTree}, {"very many", flat(1 << 16), api.ErrTree},
		{"8 parts", chain(slices.Repeat([]string{"d"}, 8)...), api.OK}, {"9 parts", chain(slices.Repeat([]string{"d"}, 9)...), api.ErrTree}, {"a path of 120 bytes", chain(text(60), text(57), "x"), api.OK}, {"of 121", chain(text(60), text(58), "x"), api.ErrTree},
	} {
		checkValidate(t, x.what, []api.Item{holding(x.t...)}, x.want)
		// At each place among others, and whatever the Refs are.
		for at := range 4 {
			l := with(at, func(i *api.Item) { i.Tree = x.t })
			want := x.want
			if want == api.OK {
				want = modelValidate("/gnu", l)
			}
			checkValidate(t, x.what+" at "+strconv.Itoa(at), l, want)
		}
	}
}

func TestValidateOfRefs(t *testing.T) {
	far := text(390)
	for _, x := range []struct {
		what string
		says string
		refs []string
		want api.Errno
	}{
		{"nothing", "", nil, api.OK}, {"nothing, empty", "", []string{}, api.OK}, {"nothing, with room", "", make([]string, 0, 4), api.OK},
		{"one", a, []string{a}, api.OK}, {"two", a + b, []string{a, b}, api.OK}, {"all", a + b + c + d, []string{a, b, c, d}, api.OK}, {"all, said the other way round", d + c + b + a, []string{a, b, c, d}, api.OK}, {"one said twice", a + a, []string{a}, api.OK},
		{"a hash alone", "aaaaaaaa", []string{a}, api.OK}, {"in the midst", "..aaaaaaaa..", []string{a}, api.OK}, {"at the end", far + "aaaaaaaa", []string{a}, api.OK}, {"a hash of nobody", z, nil, api.OK}, {"all but a sign", "aaaaaaa", nil, api.OK}, {"another sign", "aaaaaaab-x", nil, api.OK}, {"great letters", "AAAAAAAA", nil, api.OK},
		{"one less", a + b, []string{a}, api.ErrRefs}, {"the other less", a + b, []string{b}, api.ErrRefs}, {"none of one", a, nil, api.ErrRefs}, {"none of all", a + b + c + d, nil, api.ErrRefs},
		{"one more", a, []string{a, b}, api.ErrRefs}, {"one more ahead", b, []string{a, b}, api.ErrRefs}, {"one of none", "", []string{a}, api.ErrRefs}, {"another", a, []string{b}, api.ErrRefs},
		{"out of order", a + b, []string{b, a}, api.ErrRefs}, {"one twice", a, []string{a, a}, api.ErrRefs}, {"one twice behind", a + b, []string{a, b, b}, api.ErrRefs}, {"one twice for two", a + b, []string{a, a}, api.ErrRefs},
		{"of an item that is not there", z, []string{z}, api.ErrRefs}, {"of one that is not there, beside one", a + z, []string{a, z}, api.ErrRefs}, {"of one that is not there nor said", a, []string{a, z}, api.ErrRefs},
		{"itself", c, []string{c}, api.OK}, {"itself, not said", "", []string{c}, api.ErrRefs}, {"itself, not declared", c, nil, api.ErrRefs}, {"itself among others, not declared", a + c, []string{a}, api.ErrRefs}, {"itself among others", a + c, []string{a, c}, api.OK},
		{"another name of that hash", a, []string{a2}, api.ErrRefs}, {"both names of that hash", a, []string{a, a2}, api.ErrRefs}, {"another name said", a2, []string{a}, api.OK},
		{"a hash for a name", a, []string{"aaaaaaaa"}, api.ErrRefs}, {"an empty one", "", []string{""}, api.ErrRefs}, {"an empty one ahead", a, []string{"", a}, api.ErrRefs}, {"no name", "?", []string{"?"}, api.ErrRefs}, {"a path", "/gnu/" + a, []string{"/gnu/" + a}, api.ErrRefs}, {"very many", a, names(1 << 16), api.ErrRefs},
	} {
		checkValidate(t, "Refs: "+x.what, with(2, func(i *api.Item) { i.Refs, i.Tree[1].Data = x.refs, x.says }), x.want)
		// Wherever in the Tree it stands.
		for _, tree := range [][]api.Node{{file("", x.says)}, {{Kind: api.Exec, Data: x.says}}, {dir(""), dir("d"), file("d/f", x.says), file("e", "x")}, {dir(""), {Path: "l", Kind: api.Link, Data: x.says + "."}}} {
			checkValidate(t, "Refs: "+x.what, with(2, func(i *api.Item) { i.Refs, i.Tree = x.refs, tree }), x.want)
		}
	}
	for at := range 400 - 7 {
		says := text(at) + "aaaaaaaa" + text(400-8-at)
		checkValidate(t, "a hash at "+strconv.Itoa(at), with(2, func(i *api.Item) { i.Tree[1].Data = says }), api.OK)
		checkValidate(t, "a hash at "+strconv.Itoa(at)+", not declared", with(2, func(i *api.Item) { i.Refs, i.Tree[1].Data = nil, says }), api.ErrRefs)
	}
}

func TestAHashInAPathAlone(t *testing.T) {
	for _, tree := range [][]api.Node{{dir(""), file("bbbbbbbb", "")}, {dir(""), dir(b), file(b+"/f", "x")}, {dir(""), file("f-"+b, "bbbbbbb")}} {
		checkValidate(t, "a hash in a Path", []api.Item{{Name: a, Tree: tree}, made(b, "")}, api.OK)
		checkValidate(t, "a hash in a Path, declared", []api.Item{{Name: a, Refs: []string{b}, Tree: tree}, made(b, "")}, api.ErrRefs)
	}
	// Nor do halves in two nodes make a hash, or a Path and Data.
	halves := []api.Node{dir(""), file("f", "bbbb"), file("g", "bbbb")}
	checkValidate(t, "halves of a hash", []api.Item{{Name: a, Tree: halves}, made(b, "")}, api.OK)
	checkValidate(t, "halves of a hash, declared", []api.Item{{Name: a, Refs: []string{b}, Tree: halves}, made(b, "")}, api.ErrRefs)
}

func TestValidateOfAllSmallRefs(t *testing.T) {
	pool := []string{a, b, c, z}
	good := 0
	for _, said := range choices([]string{"aaaaaaaa", "bbbbbbbb", "cccccccc", "zzzzzzzz"}, 3) {
		for _, refs := range choices(pool, 3) {
			l := []api.Item{made(a, ""), made(b, strings.Join(said, " "), refs...), made(c, "")}
			want := modelValidate("/gnu", l)
			checkValidate(t, fmt.Sprintf("%q saying %q", refs, said), l, want)
			if want == api.OK {
				good++
			}
		}
	}
	// For each of the 85 texts there is just one list of Refs.
	if good != 85 {
		t.Errorf("%d lists of Refs may be", good)
	}
}

// fault is one thing that is wrong with an item.
type fault struct {
	what string
	want api.Errno
	turn func(i *api.Item)
}

func faults() []fault {
	return []fault{
		{"no Name", api.ErrName, func(i *api.Item) { i.Name = "" }}, {"a Name that is none", api.ErrName, func(i *api.Item) { i.Name = i.Name[:8] }}, {"a Name that is too long", api.ErrName, func(i *api.Item) { i.Name = i.Name[:9] + text(22) }},
		{"no Tree", api.ErrTree, func(i *api.Item) { i.Tree = nil }}, {"too many nodes", api.ErrTree, func(i *api.Item) { i.Tree = append(i.Tree, flat(25)[1:]...) }}, {"a Kind that is none", api.ErrTree, func(i *api.Item) { i.Tree[1].Kind = 0 }},
		{"a name less", api.ErrRefs, func(i *api.Item) { i.Tree[1].Data += c }}, {"a name more", api.ErrRefs, func(i *api.Item) { i.Refs = append(i.Refs, z) }}, {"a name that is none", api.ErrRefs, func(i *api.Item) { i.Refs = append([]string{""}, i.Refs...) }},
	}
}

// earlier is the error that is named of two faults, at these places.
func earlier(one fault, at int, two fault, place int) api.Errno {
	if (one.want == api.ErrRefs) != (two.want == api.ErrRefs) {
		return min(one.want, two.want)
	}
	if at < place {
		return one.want
	}
	if at > place {
		return two.want
	}
	return min(one.want, two.want)
}

func TestEachTwoFaults(t *testing.T) {
	for _, one := range faults() {
		for at := range 4 {
			l := with(at, one.turn)
			checkValidate(t, one.what, l, one.want)
			checkValidateUnder(t, "gnu", one.what, l, api.ErrPrefix)
			// Five behind all, so that they are too many, whatever is wrong ahead.
			many := append(slices.Clone(l), made("v0000000-x", ""), made("v0000001-x", ""), made("v0000002-x", ""), made("v0000003-x", ""), made("v0000004-x", ""))
			checkValidate(t, one.what+", too many", many, api.ErrFull)
			checkValidate(t, one.what+", not too many", many[:8], one.want)
			checkValidateUnder(t, "", one.what+", too many", many, api.ErrPrefix)
			for _, two := range faults() {
				for place := range 4 {
					// Two faults of one item are put together once, the one that is named first last, since it may leave the other nothing to turn.
					if at == place && one.want >= two.want {
						continue
					}
					both := with(place, two.turn)
					one.turn(&both[at])
					checkValidate(t, fmt.Sprintf("%s at %d, %s at %d", one.what, at, two.what, place), both, earlier(one, at, two, place))
				}
			}
		}
	}
}

func TestFaultsInOrder(t *testing.T) {
	broken := func(turn func(l []api.Item)) []api.Item {
		l := some()
		turn(l)
		return l
	}
	for _, x := range []struct {
		what string
		turn func(l []api.Item)
		want api.Errno
	}{
		{"a Name behind a Tree", func(l []api.Item) { l[0].Tree, l[1].Name = nil, "?" }, api.ErrTree},
		{"a Name far behind a Tree", func(l []api.Item) { l[0].Tree, l[3].Name = nil, "?" }, api.ErrTree},
		{"a Tree behind a Name", func(l []api.Item) { l[0].Name, l[1].Tree = "?", nil }, api.ErrName},
		{"a Name and a Tree at once", func(l []api.Item) { l[2].Name, l[2].Tree = "?", nil }, api.ErrName},
		{"one Name twice behind a Tree", func(l []api.Item) { l[1].Tree, l[2].Name = nil, b }, api.ErrTree},
		{"one Name twice ahead of a Tree", func(l []api.Item) { l[1].Name, l[2].Tree = a, nil }, api.ErrName},
		{"one Name twice, the Tree of the second", func(l []api.Item) { l[1].Name, l[1].Tree = a, nil }, api.ErrName},
		{"one Hash twice, the Tree of the first", func(l []api.Item) { l[0].Tree, l[1].Name = nil, a2 }, api.ErrTree},
		{"one Hash twice, the Tree of the second", func(l []api.Item) { l[1].Name, l[1].Tree = a2, nil }, api.ErrName},
		{"out of order behind a Tree", func(l []api.Item) { l[1].Tree, l[2].Name = nil, "00000000-x" }, api.ErrTree},
		{"a Tree behind Refs", func(l []api.Item) { l[0].Refs, l[3].Tree = nil, nil }, api.ErrTree},
		{"a Name behind Refs", func(l []api.Item) { l[0].Refs, l[3].Name = nil, "?" }, api.ErrName},
		{"Refs of all", func(l []api.Item) { l[0].Refs, l[1].Refs, l[2].Refs, l[3].Refs = nil, nil, nil, []string{z} }, api.ErrRefs},
		{"all at once", func(l []api.Item) { l[0].Tree, l[1].Name, l[2].Refs = nil, "", nil }, api.ErrTree},
		{"the last one's Refs", func(l []api.Item) { l[3].Refs = []string{a} }, api.ErrRefs},
		{"the Hash of another Name is not there any more", func(l []api.Item) { l[1].Name, l[1].Tree[1].Data, l[1].Refs = "bbbbbbbc-y", "", nil }, api.ErrRefs},
		{"nothing", func(l []api.Item) {}, api.OK},
	} {
		checkValidate(t, x.what, broken(x.turn), x.want)
		if model := modelValidate("/gnu", broken(x.turn)); model != x.want {
			t.Errorf("the model tells %d of %s", model, x.what)
		}
		checkValidateUnder(t, "/g", x.what, broken(x.turn), api.ErrPrefix)
	}
}

// full makes the greatest closure: MaxItems items of MaxOwn nodes, each of which refers to all.
func full() []api.Item {
	var all []api.Item
	said := strings.Join(names(8), " ")
	for _, name := range names(8) {
		tree := flat(24)
		for at := 1; at < 24; at++ {
			tree[at].Data = said + text(400-len(said))
		}
		all = append(all, api.Item{Name: name, Refs: names(8), Tree: tree})
	}
	return all
}

func TestTheGreatestClosure(t *testing.T) {
	checkValidate(t, "the greatest", full(), api.OK)
	for at := range 8 {
		l := full()
		l[at].Refs = slices.Delete(l[at].Refs, at, at+1)
		checkValidate(t, "the greatest, a name less at "+strconv.Itoa(at), l, api.ErrRefs)
		l = full()
		l[at].Tree[23].Data += "x"
		checkValidate(t, "the greatest, a byte more at "+strconv.Itoa(at), l, api.ErrTree)
		checkValidate(t, "the greatest without one at "+strconv.Itoa(at), slices.Delete(full(), at, at+1), api.ErrRefs)
		checkReach(t, full(), names(8)[at:at+1], names(8))
	}
}

func TestNothingIsReferredToThatIsNotThere(t *testing.T) {
	for _, l := range [][]api.Item{nil, some(), full(), apart(8), some()[3:]} {
		checkValidate(t, "a closure", l, api.OK)
		checkReach(t, l, item.Names(l...), item.Names(l...))
		for at, i := range l {
			checkReach(t, l, i.Refs, modelReach(l, i.Refs))
			for _, ref := range i.Refs {
				if got, ok := closure.Get(l, ref); !ok || got.Name != ref {
					t.Errorf("P9.2: %s refers to %s, which is not there", i.Name, ref)
				}
			}
			// Without an item it is a closure just where no other one refers to that.
			want := api.OK
			for other, from := range l {
				if other != at && slices.Contains(from.Refs, i.Name) {
					want = api.ErrRefs
				}
			}
			checkValidate(t, "all but "+i.Name, slices.Delete(slices.Clone(l), at, at+1), want)
		}
	}
	// What some reach is a closure by itself.
	for _, from := range choices([]string{a, b, c, d}, 3) {
		var kept []api.Item
		for _, name := range closure.Reach(some(), from...) {
			i, ok := closure.Get(some(), name)
			if !ok {
				t.Errorf("P9.1: Reach tells %s, which Get does not", name)
			}
			kept = append(kept, i)
		}
		checkValidate(t, fmt.Sprintf("what %q reach", from), kept, api.OK)
	}
}

func TestGet(t *testing.T) {
	l := some()
	for _, want := range l {
		got, ok := closure.Get(l, want.Name)
		if !ok || !item.Same(got, want) {
			t.Errorf("P9.1: Get(%q): %v, %t", want.Name, got, ok)
		}
	}
	odd := []api.Item{{Name: "?", Refs: []string{z, a, z}, Tree: []api.Node{file("x", "1"), {Path: "/", Kind: -1, Data: "\x00"}}}, made(b, "first", a), made("", "nameless"), made(b, "second", c), made(a, "last"), made("", "again")}
	for name, at := range map[string]int{"?": 0, b: 1, "": 2, a: 4} {
		if got, ok := closure.Get(odd, name); !ok || !item.Same(got, odd[at]) {
			t.Errorf("P9.1: Get(%q) is not the one at %d: %v, %t", name, at, got, ok)
		}
	}
	for _, name := range []string{"aaaaaaaa", "aaaaaaaa-", a + "x", "aaaaaaaa-X", z, "\x00", "first", text(1 << 20)} {
		for _, items := range [][]api.Item{nil, {}, l, odd, odd[:0]} {
			if got, ok := closure.Get(items, name); ok || !reflect.DeepEqual(got, api.Item{}) {
				t.Errorf("P9.1: Get(%.60q), which none has: %v, %t", name, got, ok)
			}
		}
	}
	for _, items := range [][]api.Item{nil, {}, l, odd[:2]} {
		if got, ok := closure.Get(items, ""); ok || !reflect.DeepEqual(got, api.Item{}) {
			t.Errorf("P9.1: Get of the empty text: %v, %t", got, ok)
		}
	}
	many := apart(1 << 16)
	if got, ok := closure.Get(many, many[1<<16-1].Name); !ok || !item.Same(got, many[1<<16-1]) {
		t.Errorf("P9.1: Get of the last of very many: %v, %t", got, ok)
	}
}

// linked is an item that refers to these, whatever its Tree.
func linked(name string, refs ...string) api.Item { return api.Item{Name: name, Refs: refs} }

func TestReach(t *testing.T) {
	chained := []api.Item{linked("a", "b"), linked("b", "c"), linked("c"), linked("d")}
	ring := []api.Item{linked("a", "c"), linked("b", "a"), linked("c", "b"), linked("d", "a")}
	odd := []api.Item{linked("c", "c"), linked("b", "?", "", "d"), linked("a", "b", "b", "c", "a"), linked("?x", "a")}
	twice := []api.Item{linked("b", "c"), linked("a", "b"), linked("b", "d"), linked("c"), linked("d", "a"), linked("c", "d")}
	for _, x := range []struct {
		items      []api.Item
		from, want []string
	}{
		{nil, nil, nil}, {nil, []string{"a", ""}, nil}, {[]api.Item{}, []string{"a"}, nil}, {chained, nil, nil}, {chained, []string{}, nil},
		{chained, []string{"a"}, []string{"a", "b", "c"}}, {chained, []string{"b"}, []string{"b", "c"}}, {chained, []string{"c"}, []string{"c"}}, {chained, []string{"d"}, []string{"d"}},
		{chained, []string{"d", "a"}, []string{"a", "b", "c", "d"}}, {chained, []string{"c", "b"}, []string{"b", "c"}}, {chained, []string{"c", "c", "c"}, []string{"c"}}, {chained, []string{"d", "c", "d"}, []string{"c", "d"}},
		{chained, []string{"x"}, nil}, {chained, []string{""}, nil}, {chained, []string{"x", "c", ""}, []string{"c"}}, {chained, []string{"A", "aa", "a "}, nil}, {turned(chained), []string{"a"}, []string{"a", "b", "c"}},
		{ring, []string{"a"}, []string{"a", "b", "c"}}, {ring, []string{"c"}, []string{"a", "b", "c"}}, {ring, []string{"d"}, []string{"a", "b", "c", "d"}}, {ring, []string{"b", "d"}, []string{"a", "b", "c", "d"}}, {turned(ring), []string{"b"}, []string{"a", "b", "c"}},
		{odd, []string{"c"}, []string{"c"}}, {odd, []string{"b"}, []string{"b"}}, {odd, []string{"a"}, []string{"a", "b", "c"}}, {odd, []string{"?x"}, []string{"?x", "a", "b", "c"}}, {odd, []string{"?"}, nil}, {odd, []string{"d"}, nil},
		// Of two items of one Name the first one's Refs count.
		{twice, []string{"a"}, []string{"a", "b", "c"}}, {twice, []string{"b"}, []string{"b", "c"}}, {twice, []string{"c"}, []string{"c"}}, {turned(twice), []string{"b"}, []string{"a", "b", "d"}}, {turned(twice), []string{"c"}, []string{"a", "b", "c", "d"}},
		// An empty Name is one that items may have here.
		{[]api.Item{linked("", "a"), linked("a")}, []string{""}, []string{"", "a"}}, {[]api.Item{linked("a", ""), linked("")}, []string{"a"}, []string{"", "a"}}, {make([]api.Item, 3), []string{""}, []string{""}}, {make([]api.Item, 3), []string{"a"}, nil},
		// Rising by bytes.
		{[]api.Item{linked("\xff", "ä", "Z", "\x00", "a")}, []string{"\xff"}, []string{"\xff"}}, {[]api.Item{linked("\xff", "ä", "Z", "\x00", "a", "aa"), linked("a"), linked("aa"), linked("Z"), linked("ä"), linked("\x00")}, []string{"\xff"}, []string{"\x00", "Z", "a", "aa", "ä", "\xff"}},
		{some(), []string{c}, []string{a, b, c, d}}, {some(), []string{b}, []string{b}}, {some(), []string{a}, []string{a, b, d}}, {some(), []string{z}, nil},
	} {
		checkReach(t, x.items, x.from, x.want)
		if model := modelReach(x.items, x.from); !slices.Equal(model, x.want) {
			t.Errorf("the model tells %q of %q", model, x.from)
		}
	}
	if got := closure.Reach(some()); len(got) != 0 {
		t.Errorf("P9.1: Reach of no names: %q", got)
	}
	if got := closure.Reach(some(), d, b); !slices.Equal(got, []string{b, d}) {
		t.Errorf("P9.1: Reach of two names: %q", got)
	}
}

func TestReachDoesNotLookAtTrees(t *testing.T) {
	l := []api.Item{made("a", "b c d"), made("b", "", "c"), made("c", "a", "d")}
	checkReach(t, l, []string{"a"}, []string{"a"})
	checkReach(t, l, []string{"b"}, []string{"b", "c"})
}

func TestReachOfAllSmallGraphs(t *testing.T) {
	known := []string{"a", "b", "c", "x"}
	subsets := func(bits int) []string {
		var all []string
		for at, name := range known {
			if bits>>at&1 == 1 {
				all = append(all, name)
			}
		}
		return turned(all)
	}
	for bits := range 1 << 12 {
		l := []api.Item{linked("b", subsets(bits&15)...), linked("c", subsets(bits>>4&15)...), linked("a", subsets(bits>>8)...), linked("b", "c", "a")}
		for from := range 16 {
			checkReach(t, l, subsets(from), modelReach(l, subsets(from)))
			checkReach(t, turned(l), subsets(from), modelReach(turned(l), subsets(from)))
		}
		if t.Failed() {
			return
		}
	}
}

func TestReachOfVeryMany(t *testing.T) {
	const n = 1 << 16
	all := names(n)
	var chained, ring, alike []api.Item
	for at, name := range all {
		next := all[(at+1)%n]
		ring = append(ring, linked(name, next, name, z))
		alike = append(alike, linked("a", name))
		if at == n-1 {
			next = z
		}
		chained = append(chained, linked(name, next))
	}
	for _, x := range []struct {
		what  string
		items []api.Item
		from  []string
		want  []string
	}{
		{"a chain", chained, all[:1], all}, {"a chain turned", turned(chained), all[:1], all}, {"a chain's half", chained, all[n/2 : n/2+1], all[n/2:]}, {"a chain's end", chained, all[n-1:], all[n-1:]}, {"a chain from all", chained, turned(all), all}, {"a ring", ring, all[7:8], all}, {"a ring from all, twice", ring, append(turned(all), all...), all},
		{"one that refers to all", append([]api.Item{linked("a", turned(all)...)}, apart(n)...), []string{"a"}, append(slices.Clone(all), "a")}, {"one name again and again", chained[n-1:], slices.Repeat(all[n-1:], n), all[n-1:]}, {"many of one Name", alike, []string{"a"}, []string{"a"}}, {"names that none has", apart(n), slices.Repeat([]string{"a"}, n), nil},
	} {
		if got := closure.Reach(x.items, x.from...); !slices.Equal(got, x.want) {
			t.Errorf("P9.1: Reach through %s tells %d names, not %d", x.what, len(got), len(x.want))
		}
	}
	// Each of many refers to all of them.
	few := all[:1500]
	var thick []api.Item
	for _, name := range few {
		thick = append(thick, linked(name, few...))
	}
	if got := closure.Reach(thick, few[700]); !slices.Equal(got, few) {
		t.Errorf("P9.1: Reach where all refer to all tells %d names", len(got))
	}
}

// roomy tells a list with spare room that holds other things, and whether anything of both is changed, whenever that is asked.
func roomy[T any](given []T, room T) ([]T, func() bool) {
	all := append(append([]T{}, given...), room, room, room, room)
	kept := append([]T{}, all...)
	return all[:len(given)], func() bool { return !reflect.DeepEqual(all, kept) }
}

// roomyItems are items all of whose lists have spare room, and whether anything is changed, whenever that is asked.
func roomyItems(items []api.Item) ([]api.Item, func() bool) {
	var own []api.Item
	var asks []func() bool
	for _, i := range items {
		refs, refsChanged := roomy(i.Refs, c)
		nodes, nodesChanged := roomy(i.Tree, file("zz", b))
		own = append(own, api.Item{Name: i.Name, Refs: refs, Tree: nodes})
		asks = append(asks, refsChanged, nodesChanged)
	}
	all, allChanged := roomy(own, made(z, a, a))
	asks = append(asks, allChanged)
	return all, func() bool { return slices.ContainsFunc(asks, func(changed func() bool) bool { return changed() }) }
}

// wrong are lists of items that make no closure, and some that do.
func wrong() map[string][]api.Item {
	return map[string][]api.Item{
		"none": nil, "a closure": some(), "the greatest": full(), "too many": apart(9), "one that is none": make([]api.Item, 1), "three that are none": make([]api.Item, 3), "turned": turned(some()), "one twice": append(some(), some()...), "two of one hash": {made(a, b, b), made(a2, c, c)}, "Refs out of order": {linked(a, c, b, b, a), linked(b, z, "", a)},
		"nothing said": {linked(a, b), linked(b, a)}, "no names": {linked("?", "??", "?"), linked("??", "?")}, "a tree that is none": {holding(file("b", a), dir("a"))}, "Refs that are less": {made(a, a+b), made(b, "")}, "a fault at the end": append(some(), made("?", "?")),
	}
}

func TestWhatIsHandedInStays(t *testing.T) {
	for what, l := range wrong() {
		items, changed := roomyItems(l)
		for _, from := range [][]string{nil, {}, {a}, {c, b, a, a}, {"?", "", z, d, b}, {"??"}} {
			given, fromChanged := roomy(from, c)
			closure.Validate("/gnu", items)
			closure.Validate("?", items)
			closure.Reach(items, given...)
			for _, name := range from {
				closure.Get(items, name)
			}
			if changed() || fromChanged() {
				t.Errorf("R4: what is handed in of %s with %q is changed, or its room", what, from)
			}
			// Nothing hangs on what stands in the room.
			if got, want := closure.Reach(items, given...), closure.Reach(l, from...); !slices.Equal(got, want) || !slices.Equal(want, modelReach(l, from)) {
				t.Errorf("R5: Reach of %s from %q hangs on spare room: %q, %q", what, from, got, want)
			}
		}
		if got, want := closure.Validate("/gnu", items), closure.Validate("/gnu", l); got != want || want != modelValidate("/gnu", l) {
			t.Errorf("R5: Validate of %s: %d, %d", what, got, want)
		}
	}
}

// spoil changes all that a list holds, and its room too.
func spoil[T any](all []T, by T) {
	for at := range all[:cap(all)] {
		all[:cap(all)][at] = by
	}
}

// spoilItem changes all that an item's lists hold, and their room too.
func spoilItem(i api.Item) {
	spoil(i.Refs, "spoilt")
	spoil(i.Tree, file("spoilt", "s"))
}

func TestGetSharesNothing(t *testing.T) {
	for what, l := range wrong() {
		items, changed := roomyItems(l)
		for at, i := range l {
			if slices.Contains(item.Names(l[:at]...), i.Name) {
				continue
			}
			first, _ := closure.Get(items, i.Name)
			second, ok := closure.Get(items, i.Name)
			spoilItem(first)
			if changed() || !ok || !item.Same(second, i) {
				t.Errorf("R4: Get of %q of %s shares memory with what was handed in, or with another answer", i.Name, what)
			}
			spoilItem(second)
		}
		for _, i := range l {
			kept := item.Own(i)
			got, _ := closure.Get([]api.Item{kept}, i.Name)
			spoilItem(kept)
			if !item.Same(got, i) {
				t.Errorf("R4: Get of %q of %s changes with what was handed in", i.Name, what)
			}
		}
	}
}

func TestReachSharesNothing(t *testing.T) {
	want := []string{a, b, c, d}
	items, changed := roomyItems(some())
	from, fromChanged := roomy(want, z)
	first, second := closure.Reach(items, from...), closure.Reach(items, from...)
	spoil(first, "spoilt")
	if changed() || fromChanged() || !slices.Equal(second, want) {
		t.Error("R4: Reach shares memory with what was handed in, or with another answer")
	}
	// Names that are the answer already, and Refs that are it, are not handed out themselves.
	alone := []api.Item{linked(a, a)}
	spoil(closure.Reach(alone, alone[0].Refs...), "spoilt")
	if alone[0].Name != a || alone[0].Refs[0] != a {
		t.Error("R4: Reach answers a list that was handed in")
	}
	for at := range items {
		spoilItem(items[at])
	}
	spoil(items, api.Item{})
	spoil(from, "spoilt")
	if !slices.Equal(second, want) {
		t.Error("R4: Reach changes with what was handed in")
	}
}

func TestAnswersHangOnNothingElse(t *testing.T) {
	for range 20 {
		for what, l := range wrong() {
			checkValidate(t, what, l, modelValidate("/gnu", l))
			checkValidateUnder(t, "gnu", what, l, api.ErrPrefix)
			checkReach(t, l, []string{a, "?"}, modelReach(l, []string{a, "?"}))
			checkReach(t, some(), []string{a}, []string{a, b, d})
			checkValidate(t, "a closure", some(), api.OK)
			if got, ok := closure.Get(some(), d); !ok || !item.Same(got, some()[3]) {
				t.Errorf("R5: Get hangs on calls ahead, with %s", what)
			}
		}
	}
}

func TestOfVeryMuch(t *testing.T) {
	huge := text(1 << 24)
	for range 200 {
		if closure.Prefix(huge) || closure.Prefix("/"+huge[1:]) || closure.Validate(huge, some()) != api.ErrPrefix {
			t.Fatal("P9.1: a great prefix")
		}
	}
	checkValidate(t, "a great Name", []api.Item{made(huge, "")}, api.ErrName)
	checkValidate(t, "great Data", []api.Item{made(a, huge)}, api.ErrTree)
	checkValidate(t, "a great Path", []api.Item{holding(dir(""), file(huge, ""))}, api.ErrTree)
	checkValidate(t, "great Refs", []api.Item{made(a, "", slices.Repeat([]string{huge}, 1<<16)...)}, api.ErrRefs)
	checkReach(t, []api.Item{linked(huge, huge)}, []string{huge}, []string{huge})
}

func TestFromSeveralGoroutines(t *testing.T) {
	items, changed := roomyItems(some())
	from, fromChanged := roomy([]string{c, "?"}, z)
	var group sync.WaitGroup
	for range 8 {
		group.Go(func() {
			for range 200 {
				reached := closure.Reach(items, from...)
				got, ok := closure.Get(items, b)
				if !closure.Prefix("/gnu") || closure.Validate("/gnu", items) != api.OK || !slices.Equal(reached, []string{a, b, c, d}) || !ok || !item.Same(got, some()[1]) {
					t.Error("R5: calls at one time")
				}
				spoil(reached, "spoilt")
				spoilItem(got)
			}
		})
	}
	group.Wait()
	if changed() || fromChanged() {
		t.Error("R4: what was handed in is changed")
	}
}

func FuzzPrefix(f *testing.F) {
	for _, p := range []string{"", "/", "/gn", "/gnu", "/" + text(15), "/" + text(16), "/g/u"} {
		f.Add(p)
	}
	f.Fuzz(func(t *testing.T, p string) {
		if closure.Prefix(p) != prefixRule.MatchString(p) {
			t.Errorf("P9.1: Prefix(%q)", p)
		}
	})
}

func FuzzItems(f *testing.F) {
	f.Add("/gnu", a, b, "bbbbbbbb", b)
	f.Add("/gnu", a, a2, "", "")
	f.Add("gnu", "", "?", "?", "?")
	f.Fuzz(func(t *testing.T, prefix, one, two, says, ref string) {
		for _, l := range [][]api.Item{{made(one, says, ref), made(two, "")}, {made(one, says), made(two, ref, two)}, {made(two, says, ref, one), made(one, ref, two), made(one, "", ref)}} {
			checkValidateUnder(t, prefix, fmt.Sprint(l), l, modelValidate(prefix, l))
			for _, from := range [][]string{{one}, {two, ref}, {ref, says, ref}} {
				checkReach(t, l, from, modelReach(l, from))
			}
		}
	})
}
