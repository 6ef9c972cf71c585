package order_test

import (
	"fmt"
	"iter"
	"reflect"
	"slices"
	"strconv"
	"strings"
	"sync"
	"testing"

	"hogshead/api"
	"hogshead/item"
	"hogshead/order"
)

// linked is an item that refers to these.
func linked(name string, refs ...string) api.Item { return api.Item{Name: name, Refs: refs} }

// made makes an item a line: its Name, and behind it what it refers to.
func made(lines ...string) []api.Item {
	var items []api.Item
	for _, line := range lines {
		words := strings.Fields(line)
		items = append(items, linked(words[0], words[1:]...))
	}
	return items
}

// names makes n names, rising.
func names(n int) []string {
	var all []string
	for i := range n {
		all = append(all, strconv.Itoa(10000000+i)+"-x")
	}
	return all
}

// turned is the same list the other way round.
func turned[T any](l []T) []T {
	all := slices.Clone(l)
	slices.Reverse(all)
	return all
}

// mixed is the same list in an order that is neither rising nor falling, for a list whose length is no multiple of 7919.
func mixed[T any](l []T) []T {
	var all []T
	for at := range l {
		all = append(all, l[at*7919%len(l)])
	}
	return all
}

// arrangements are all orders of l: if l rises, the orders rise too.
func arrangements[T any](l []T) iter.Seq[[]T] {
	return func(yield func([]T) bool) { arrange(nil, l, yield) }
}

func arrange[T any](ahead, left []T, yield func([]T) bool) bool {
	if len(left) == 0 {
		return yield(ahead)
	}
	for at := range left {
		rest := append(slices.Clone(left[:at]), left[at+1:]...)
		if !arrange(append(slices.Clone(ahead), left[at]), rest, yield) {
			return false
		}
	}
	return true
}

// follows tells whether in all each item comes behind what it refers to.
func follows(items []api.Item, all []string) bool {
	for _, i := range items {
		at := slices.Index(all, i.Name)
		for _, ref := range i.Refs {
			if ref != i.Name && slices.Index(all, ref) > at {
				return false
			}
		}
	}
	return true
}

// unlike tells whether no two items have one Name.
func unlike(items []api.Item) bool {
	known := map[string]int{}
	for _, i := range items {
		known[i.Name]++
	}
	return len(known) == len(items)
}

// modelFirst goes through all orders, the least one first, and tells the first that may be: in that one always the least comes of those that could.
func modelFirst(items []api.Item) ([]string, bool) {
	if !unlike(items) {
		return nil, false
	}
	rising := item.Names(items...)
	slices.Sort(rising)
	for all := range arrangements(rising) {
		if follows(items, all) {
			return all, true
		}
	}
	return nil, false
}

// modelStep looks through all that are left for what comes next, again and again.
func modelStep(items []api.Item) ([]string, bool) {
	left := slices.Clone(items)
	slices.SortFunc(left, func(a, b api.Item) int { return strings.Compare(a.Name, b.Name) })
	var all []string
	for len(left) > 0 {
		waits := item.Names(left...)
		at := slices.IndexFunc(left, func(i api.Item) bool {
			return !slices.ContainsFunc(i.Refs, func(ref string) bool { return ref != i.Name && slices.Contains(waits, ref) })
		})
		if at < 0 {
			return nil, false
		}
		all = append(all, left[at].Name)
		left = slices.Delete(left, at, at+1)
	}
	return all, true
}

// short tells a list's beginning.
func short(l any) string { return fmt.Sprintf("%.300s", fmt.Sprintf("%q", l)) }

// check holds Of against want, and Ranks against where want has the items.
func check(t *testing.T, what string, items []api.Item, want []string, wantOK bool) {
	t.Helper()
	got, ok := order.Of(items)
	if !slices.Equal(got, want) || ok != wantOK {
		t.Errorf("P10.1: Of(%s): %s, %t, not %s, %t (%s)", short(items), short(got), ok, short(want), wantOK, what)
	}
	if !wantOK && got != nil {
		t.Errorf("R2: Of(%s): a list beside a false (%s)", short(items), what)
	}
	checkRanks(t, what, items, want, wantOK)
}

func checkRanks(t *testing.T, what string, items []api.Item, all []string, ok bool) {
	t.Helper()
	ranks := order.Ranks(items)
	if !ok {
		if ranks != nil {
			t.Errorf("P10.1: Ranks(%s): %v, where there are none (%s)", short(items), ranks, what)
		}
		return
	}
	places := map[string]int{}
	for at, name := range all {
		places[name] = at
	}
	var want []int
	for _, i := range items {
		want = append(want, places[i.Name])
	}
	if !slices.Equal(ranks, want) {
		t.Errorf("P10.1: Ranks(%s): %.300s, not %.300s (%s)", short(items), fmt.Sprint(ranks), fmt.Sprint(want), what)
	}
}

// checkEach hands the items in in each order: all but Ranks' order is the same.
func checkEach(t *testing.T, what string, items []api.Item, want []string, ok bool) {
	t.Helper()
	for given := range arrangements(items) {
		check(t, what, given, want, ok)
	}
}

func TestTheExample(t *testing.T) {
	got, ok := order.Of(made("a b", "b", "c a"))
	if !slices.Equal(got, []string{"b", "a", "c"}) || !ok {
		t.Errorf("P10.1: Of of the example: %q, %t", got, ok)
	}
	if ranks := order.Ranks(made("a b", "b", "c a")); !slices.Equal(ranks, []int{1, 0, 2}) {
		t.Errorf("P10.1: Ranks of the example: %v", ranks)
	}
}

func TestNoItems(t *testing.T) {
	for _, items := range [][]api.Item{nil, {}, make([]api.Item, 0, 3)} {
		check(t, "no items", items, nil, true)
	}
}

func TestRanksAreInTheOrderOfTheItems(t *testing.T) {
	for _, x := range []struct {
		items []api.Item
		want  []int
	}{
		{nil, nil}, {made("a"), []int{0}}, {made("a a"), []int{0}}, {made("a x"), []int{0}},
		{made("a", "b", "c"), []int{0, 1, 2}}, {made("c", "b", "a"), []int{2, 1, 0}}, {made("b", "c", "a"), []int{1, 2, 0}},
		{made("a b", "b c", "c"), []int{2, 1, 0}}, {made("c", "a b", "b c"), []int{0, 2, 1}}, {made("b c", "c", "a b"), []int{1, 0, 2}}, {made("c b", "a", "b a"), []int{2, 0, 1}},
		{made("a b", "b a"), nil}, {made("a", "a"), nil}, {made("c", "a b", "b a"), nil}, {made("a", "b", "a"), nil},
	} {
		if got := order.Ranks(x.items); !slices.Equal(got, x.want) {
			t.Errorf("P10.1: Ranks(%s): %v, not %v", short(x.items), got, x.want)
		}
	}
}

func TestOrders(t *testing.T) {
	for _, x := range []struct {
		what  string
		items []api.Item
		want  string
	}{
		{"one", made("a"), "a"}, {"one that refers to itself", made("a a"), "a"}, {"one that refers to itself twice", made("a a a"), "a"}, {"one that refers to what is not there", made("a x"), "a"}, {"to itself and to what is not there", made("a x a y"), "a"}, {"to what is not there, above it", made("b a c"), "b"},
		{"two", made("a", "b"), "a b"}, {"the least refers to the other", made("a b", "b"), "b a"}, {"the other refers to the least", made("a", "b a"), "a b"}, {"to itself and to the other", made("a a b", "b b"), "b a"}, {"to the other and to itself", made("a b a", "b"), "b a"}, {"to the other twice", made("a b b", "b"), "b a"}, {"to the other very often", []api.Item{linked("a", slices.Repeat([]string{"b"}, 1000)...), linked("b")}, "b a"}, {"to the other twice, apart", made("a b x b", "b"), "b a"},
		{"many that refer to nothing", made("a", "b", "c", "d", "e"), "a b c d e"}, {"many that refer to themselves alone", made("a a", "b b", "c c", "d d"), "a b c d"}, {"many that refer to what is not there", made("a x", "b x", "c y", "d z"), "a b c d"},
		{"a chain from the front", made("a b", "b c", "c d", "d e", "e"), "e d c b a"}, {"a chain from behind", made("a", "b a", "c b", "d c", "e d"), "a b c d e"}, {"a chain here and there", made("a c", "b d", "c e", "d a", "e"), "e c a d b"}, {"a chain with all shortcuts", made("a b c d e", "b c d e", "c d e", "d e", "e"), "e d c b a"}, {"a chain that refers to itself", made("a b a", "b b c", "c c d", "d d"), "d c b a"}, {"two chains", made("a c", "b d", "c", "d"), "c a d b"}, {"two chains crossed", made("a d", "b c", "c", "d"), "c b d a"},
		{"one that refers to all", made("a b c d e", "b", "c", "d", "e"), "b c d e a"}, {"the last refers to all", made("a", "b", "c", "d", "e a b c d"), "a b c d e"}, {"all refer to one", made("a e", "b e", "c e", "d e", "e"), "e a b c d"}, {"all refer to the first", made("a", "b a", "c a", "d a", "e a"), "a b c d e"}, {"all refer to the midst", made("a c", "b c", "c", "d c", "e c"), "c a b d e"}, {"all refer to one, and to themselves", made("a a c", "b b c", "c c", "d d c"), "c a b d"},
		{"Refs out of order", made("a d b c", "b", "c", "d"), "b c d a"}, {"a diamond", made("a b c", "b d", "c d", "d"), "d b c a"}, {"a diamond from behind", made("a", "b a", "c a", "d b c"), "a b c d"}, {"a diamond with one twice", made("a b c b", "b d d", "c d", "d"), "d b c a"},
		// Of those that could come next always the least: also if it could not a moment ago.
		{"free only since the last one", made("a b", "b", "c"), "b a c"}, {"free only since the last two", made("a b c", "b", "c", "d"), "b c a d"}, {"free in turn", made("a b", "b c", "c", "d"), "c b a d"}, {"free later than a greater one", made("a d", "b", "c", "d", "e"), "b c d a e"}, {"one that is free ahead of what it frees", made("b", "c", "d c", "a d"), "b c d a"}, {"one that waits does not hold others up", made("a z", "b", "c", "z"), "b c z a"}, {"the greatest first", made("a z", "b z", "z"), "z a b"}, {"layer by layer would be another order", made("a c", "b", "c", "d b"), "b c a d"}, {"what frees less comes ahead all the same", made("a", "b", "c b", "d b", "e a"), "a b c d e"}, {"two wait for the greatest, one for the least", made("a e", "b d", "c", "d c", "e"), "c d b e a"},
		{"what is not there holds nothing up", made("a x b", "b y", "c"), "b a c"},
		// One name that is another one's beginning, or stands in it.
		{"beginnings", made("a", "aa", "aaa", "ab", "b"), "a aa aaa ab b"}, {"beginnings that refer to one another", made("a aa", "aa aaa", "aaa"), "aaa aa a"}, {"a beginning of a Name", made("aa", "ab a"), "aa ab"}, {"an end of a Name", made("ba", "b a", "c ba"), "b ba c"}, {"more than a Name", made("a aa", "b aaa"), "a b"}, {"other letters", made("a B", "b A"), "a b"},
		{"digits by bytes", made("10", "2", "9", "100"), "10 100 2 9"}, {"great letters first", made("a", "B", "c", "D"), "B D a c"}, {"a stroke ahead of a point", made("a-", "a.", "a0", "a_", "a"), "a a- a. a0 a_"},
	} {
		checkEach(t, x.what, x.items, strings.Fields(x.want), true)
		for what, model := range map[string]func([]api.Item) ([]string, bool){"first": modelFirst, "step": modelStep} {
			if all, ok := model(x.items); !slices.Equal(all, strings.Fields(x.want)) || !ok {
				t.Errorf("the model %s tells %q, %t of %s", what, all, ok, x.what)
			}
		}
	}
}

func TestRings(t *testing.T) {
	for _, x := range []struct {
		what  string
		items []api.Item
	}{
		{"two", made("a b", "b a")}, {"three", made("a b", "b c", "c a")}, {"three the other way round", made("a c", "b a", "c b")}, {"four", made("a b", "b c", "c d", "d a")}, {"five", made("a b", "b c", "c d", "d e", "e a")}, {"each to each", made("a b c d", "b a c d", "c a b d", "d a b c")}, {"each to each and itself", made("a a b c", "b a b c", "c a b c")}, {"two that refer to themselves too", made("a a b", "b a b")}, {"two, one Ref twice", made("a b b", "b a")}, {"two, both twice", made("a b b", "b a a")},
		{"two rings", made("a b", "b a", "c d", "d c")}, {"two rings with one item", made("a b c", "b a", "c a")}, {"two rings, one refers to the other", made("a b", "b a c", "c d", "d c")},
		{"others refer to a ring", made("a b", "b c", "c b")}, {"others refer to a ring, from behind", made("a b", "b a", "c a", "d c")}, {"a ring refers to others", made("a b", "b a c", "c")}, {"a ring refers to others, ahead of it", made("a", "b c a", "c b")}, {"a ring refers to a chain", made("a b", "b a c", "c d", "d")}, {"a ring between", made("a b", "b c", "c b d", "d")}, {"a ring from both sides", made("a", "b a c", "c b", "d c")},
		{"a ring beside one", made("a b", "b a", "c")}, {"a ring beside one, ahead of it", made("a", "b c", "c b")}, {"a ring beside many", made("a", "b d", "c", "d b", "e")}, {"a ring beside a chain", made("a b", "b", "c d", "d c")}, {"a ring beside one that refers to itself", made("a a", "b c", "c b")}, {"a ring that refers to what is not there", made("a b x", "b a y")}, {"a ring at a chain's end", made("a b", "b c", "c d", "d e", "e d")}, {"a ring at a chain's beginning", made("a b", "b a c", "c d", "d e", "e")},
	} {
		checkEach(t, x.what, x.items, nil, false)
		if all, ok := modelFirst(x.items); all != nil || ok {
			t.Errorf("the model tells %q, %t of %s", all, ok, x.what)
		}
	}
}

func TestRingsThatAreNone(t *testing.T) {
	for _, x := range []struct {
		items []api.Item
		want  string
	}{
		{made("a a"), "a"}, {made("a a", "b b"), "a b"}, {made("a a b", "b b"), "b a"}, {made("a x", "b x"), "a b"}, {made("a x a", "b a x"), "a b"}, {made("a b x", "b c x", "c x"), "c b a"}, {made("a b c", "b c", "c"), "c b a"}, {made("a b", "c b", "b d", "d"), "d b a c"},
	} {
		checkEach(t, "no ring", x.items, strings.Fields(x.want), true)
	}
}

func TestTwoOfOneName(t *testing.T) {
	for _, x := range []struct {
		what  string
		items []api.Item
	}{
		{"the same twice", made("a", "a")}, {"the same three times", made("a", "a", "a")}, {"the same, with Refs", made("a b", "a b")}, {"the same, with itself", made("a a", "a a")}, {"one with Refs", made("a", "a b")}, {"one with itself", made("a a", "a")}, {"unlike Refs", made("a b", "a c")},
		{"beside one another", made("a", "a", "b")}, {"beside one another behind", made("a", "b", "b")}, {"apart", made("a", "b", "a")}, {"far apart", made("a", "b", "c", "d", "a")}, {"two of two", made("a", "b", "a", "b")}, {"two of two beside one another", made("a", "a", "b", "b")},
		{"one refers to them", made("a", "a", "b a")}, {"they refer to one", made("a b", "b", "a b")}, {"one of them refers to one that refers to it", made("a b", "b a", "a")}, {"both do", made("a b", "b a", "a b")}, {"beside a ring", made("a", "a", "b c", "c b")}, {"beside a chain", made("a", "a", "b c", "c d", "d")},
		{"empty", []api.Item{{}, {}}}, {"empty, apart", []api.Item{linked(""), linked("a"), linked("")}}, {"no letters", []api.Item{linked("\xff\x00"), linked("\xff"), linked("\xff\x00")}},
		{"with Trees that are unlike", []api.Item{{Name: "a", Tree: []api.Node{{Kind: api.Dir}}}, {Name: "a", Tree: []api.Node{{Kind: api.File}}}}},
	} {
		checkEach(t, "two of one Name: "+x.what, x.items, nil, false)
	}
	rising := names(50)
	var many []api.Item
	for _, name := range rising {
		many = append(many, linked(name))
	}
	check(t, "many unlike ones", many, rising, true)
	for one := range many {
		for other := range many {
			if one != other {
				l := slices.Clone(many)
				l[one].Name = l[other].Name
				check(t, "two of many have one Name", l, nil, false)
			}
		}
	}
}

func TestNamesOfAnyBytes(t *testing.T) {
	for _, l := range [][]string{
		{"", "\x00"}, {"", "a", "b"}, {"\x00", "\x00\x00", "\x01"}, {"Z", "a", "ä"}, {"a", "a\x00", "a "}, {"z", "\x80", "\xff"}, {"\xc3\xa4", "\xe4", "\xff"}, {"\ufffd", "\U0001f600", "\xff"}, {"a/b", "a0b"}, {"?", "??", "??\n"}, {"0123456a-x", "0123456a-y", "zzzzzzzz-a"}, {"\n", " ", "a b"}, {"e\u0301", "\u00e9"}, {"\xed\xa0\x80", "\xee\x80\x80", "\xf0\x90\x80\x80"}, {"a" + strings.Repeat("x", 1000), "a" + strings.Repeat("x", 1000) + "\x00", "a" + strings.Repeat("x", 999) + "y"},
	} {
		l = slices.Sorted(slices.Values(l))
		var free, up, down []api.Item
		for at, name := range l {
			free = append(free, linked(name))
			up = append(up, linked(name, l[:at]...))
			down = append(down, linked(name, l[at:]...))
		}
		checkEach(t, "Names of any bytes", free, l, true)
		checkEach(t, "Names of any bytes, rising", up, l, true)
		checkEach(t, "Names of any bytes, falling", down, turned(l), true)
		checkEach(t, "Names of any bytes in a ring", append(slices.Clone(up[1:]), linked(l[0], l...)), nil, false)
	}
}

func TestTheEmptyName(t *testing.T) {
	for _, x := range []struct {
		what  string
		items []api.Item
		want  []string
		ok    bool
	}{
		{"alone", []api.Item{{}}, []string{""}, true}, {"with itself", []api.Item{linked("", "")}, []string{""}, true}, {"with what is not there", []api.Item{linked("", "a")}, []string{""}, true}, {"not there", []api.Item{linked("a", ""), linked("b", "")}, []string{"a", "b"}, true},
		{"ahead", []api.Item{linked("a"), linked("")}, []string{"", "a"}, true}, {"referred to", []api.Item{linked("a", ""), linked("")}, []string{"", "a"}, true}, {"referring", []api.Item{linked("a"), linked("", "a")}, []string{"a", ""}, true}, {"referring to itself too", []api.Item{linked("a"), linked("", "", "a"), linked("b")}, []string{"a", "", "b"}, true}, {"in a ring", []api.Item{linked("a", ""), linked("", "a")}, nil, false},
	} {
		checkEach(t, "the empty Name "+x.what, x.items, x.want, x.ok)
	}
}

func TestEachTwoBytesAsNames(t *testing.T) {
	for one := range 256 {
		for other := range one {
			less, more := string([]byte{byte(other)}), string([]byte{byte(one)})
			check(t, "two bytes", []api.Item{linked(more), linked(less)}, []string{less, more}, true)
			check(t, "two bytes behind one", []api.Item{linked("x" + more), linked("x" + less)}, []string{"x" + less, "x" + more}, true)
			check(t, "the less one refers to the other", []api.Item{linked(more), linked(less, more, "x"+more)}, []string{more, less}, true)
		}
	}
}

// subset tells the names whose bits are set, the greatest first.
func subset(known []string, bits int) []string {
	var all []string
	for at, name := range known {
		if bits>>at&1 == 1 {
			all = append(all, name)
		}
	}
	return turned(all)
}

func TestAllGraphsOfThree(t *testing.T) {
	known := []string{"a", "b", "c", "x"}
	rings := 0
	for bits := range 1 << 12 {
		items := []api.Item{linked("a", subset(known, bits&15)...), linked("b", subset(known, bits>>4&15)...), linked("c", subset(known, bits>>8)...)}
		want, ok := modelFirst(items)
		if all, step := modelStep(items); !slices.Equal(all, want) || step != ok {
			t.Fatalf("the models differ: %q, %q", all, want)
		}
		checkEach(t, "three", items, want, ok)
		// The same Refs twice make no other order.
		for at := range items {
			twice := slices.Clone(items)
			twice[at].Refs = append(turned(items[at].Refs), items[at].Refs...)
			check(t, "three, Refs twice", twice, want, ok)
		}
		if !ok {
			rings++
		}
		if t.Failed() {
			return
		}
	}
	// Of the 64 graphs of three without loops 25 have no ring; a loop and a stray Ref of each item change nothing: 39 * 64.
	if rings != 39*64 {
		t.Errorf("%d graphs have a ring", rings)
	}
}

func TestAllGraphsOfFour(t *testing.T) {
	rings := 0
	for bits := range 1 << 12 {
		items := []api.Item{linked("a", subset([]string{"b", "c", "d"}, bits&7)...), linked("b", subset([]string{"a", "c", "d"}, bits>>3&7)...), linked("c", subset([]string{"a", "b", "d"}, bits>>6&7)...), linked("d", subset([]string{"a", "b", "c"}, bits>>9)...)}
		want, ok := modelFirst(items)
		checkEach(t, "four", items, want, ok)
		if !ok {
			rings++
		}
		if t.Failed() {
			return
		}
	}
	// Of the 4096 graphs of four without loops 543 have no ring.
	if rings != 4096-543 {
		t.Errorf("%d graphs have a ring", rings)
	}
}

func TestAllShortLists(t *testing.T) {
	pool := []api.Item{{}, linked("", "b"), linked("a"), linked("a", "b"), linked("b", "a", "b"), linked("b", ""), linked("c", "b", "a"), linked("\xff", "c", "c")}
	lists := [][]api.Item{nil}
	for from := 0; len(lists[from]) < 4; from++ {
		for _, i := range pool {
			lists = append(lists, append(slices.Clone(lists[from]), i))
		}
	}
	good := 0
	for _, l := range lists {
		want, ok := modelFirst(l)
		check(t, "a short list", l, want, ok)
		if ok {
			good++
		}
	}
	if good == 0 || good == len(lists) {
		t.Errorf("%d of %d lists have an order", good, len(lists))
	}
}

// drawn are n items whose Refs come out of a row of numbers that the seed begins: at most refs each, to those of the names whose places in a mixed list are less, and, with back, to others, too.
func drawn(n, refs int, seed uint32, back bool) []api.Item {
	next := func(below int) int {
		seed = seed*1664525 + 1013904223
		return int(seed>>8) % below
	}
	all := names(n)
	for at := range all {
		other := next(n)
		all[at], all[other] = all[other], all[at]
	}
	var items []api.Item
	for at, name := range all {
		i := linked(name)
		for range next(refs + 1) {
			of := next(at + 1)
			if back && next(n) == 0 {
				of = next(n)
			}
			i.Refs = append(i.Refs, all[of])
		}
		items = append(items, i)
	}
	for at := range items {
		other := next(n)
		items[at], items[other] = items[other], items[at]
	}
	return items
}

func TestDrawnGraphs(t *testing.T) {
	rings, orders := 0, 0
	for seed := range uint32(300) {
		for _, back := range []bool{false, true} {
			items := drawn(int(2+seed%50), int(seed/50), seed, back)
			want, ok := modelStep(items)
			check(t, "a drawn graph", items, want, ok)
			check(t, "a drawn graph turned", turned(items), want, ok)
			if ok {
				orders++
			} else if rings++; !back {
				t.Fatal("a graph that should have no ring has one")
			}
		}
	}
	if rings < 20 || orders < 320 {
		t.Errorf("%d graphs with rings, %d without", rings, orders)
	}
}

func TestOfVeryMany(t *testing.T) {
	const n = 1 << 17
	all := names(n)
	middle := all[n/2]
	apart, down, up, onOne, half := make([]api.Item, n), make([]api.Item, n), make([]api.Item, n), make([]api.Item, n), make([]api.Item, n)
	for at, name := range all {
		apart[at] = linked(name, name, "x")
		down[at] = linked(name, all[min(at+1, n-1)], name)
		up[at] = linked(name, all[max(at-1, 0)], "x", name)
		onOne[at] = linked(name, middle, middle)
		// Those ahead wait for one of those behind each: the other way round.
		half[at] = linked(name)
		if at < n/2 {
			half[at].Refs = []string{all[n-1-at]}
		}
	}
	var halves []string
	for at := n / 2; at < n; at++ {
		halves = append(halves, all[at], all[n-1-at])
	}
	star := append([]string{middle}, append(slices.Clone(all[:n/2]), all[n/2+1:]...)...)
	for _, x := range []struct {
		what  string
		items []api.Item
		want  []string
	}{
		{"very many apart", apart, all}, {"a chain from the front", down, turned(all)}, {"a chain from behind", up, all}, {"all refer to one", onOne, star}, {"each refers to one of its own", half, halves},
		{"one refers to all", append([]api.Item{linked("", all...)}, apart...), append(slices.Clone(all), "")}, {"one name very often", []api.Item{linked("a", slices.Repeat([]string{"b"}, 1<<20)...), linked("b", slices.Repeat([]string{"b", "x"}, 1<<19)...)}, []string{"b", "a"}},
	} {
		for _, items := range [][]api.Item{x.items, turned(x.items), mixed(x.items)} {
			check(t, x.what, items, x.want, true)
		}
	}
	ring, knot, twice := slices.Clone(down), slices.Clone(up), slices.Clone(apart)
	ring[n-1].Refs = all[:1]
	knot[0].Refs = all[1:2]
	twice[n-1].Name = all[0]
	for _, x := range []struct {
		what  string
		items []api.Item
	}{{"a great ring", ring}, {"a great chain behind a ring", knot}, {"very many, two of one Name", twice}, {"very many of one Name", make([]api.Item, n)}} {
		for _, items := range [][]api.Item{x.items, turned(x.items), mixed(x.items)} {
			check(t, x.what, items, nil, false)
		}
	}
}

func TestWhereEachRefersToMany(t *testing.T) {
	const n = 1500
	all := names(n)
	var less, more []api.Item
	for at, name := range all {
		less = append(less, linked(name, all[:at+1]...))
		more = append(more, linked(name, turned(all[at:])...))
	}
	for _, turn := range []func([]api.Item) []api.Item{slices.Clone[[]api.Item], turned[api.Item], mixed[api.Item]} {
		check(t, "each refers to all that are less", turn(less), all, true)
		check(t, "each refers to all that are more", turn(more), turned(all), true)
	}
	more[n-1].Refs = all
	check(t, "each refers to all that are more, and the last to all", more, nil, false)
}

func TestOfVeryMuch(t *testing.T) {
	huge := strings.Repeat("x", 1<<24)
	check(t, "great Names", []api.Item{linked(huge + "b"), linked(huge, huge+"a"), linked(huge+"a", "x")}, []string{huge + "a", huge, huge + "b"}, true)
	check(t, "great Names in a ring", []api.Item{linked(huge, huge+"a"), linked(huge+"a", huge)}, nil, false)
	check(t, "two great Names", []api.Item{linked(huge), linked(huge)}, nil, false)
	check(t, "great Refs", []api.Item{linked("a", huge), linked("b", huge, "c", huge), linked("c", huge)}, []string{"a", "c", "b"}, true)
}

// Only Names and Refs count: what stands in a Tree is not asked for, nor whether it may be.
func TestTreesDoNotCount(t *testing.T) {
	says := func(data string) []api.Node {
		return []api.Node{{Kind: api.Dir}, {Path: "f", Kind: api.File, Data: data}}
	}
	items := []api.Item{{Name: "aaaaaaaa-x", Tree: says("bbbbbbbb-y")}, {Name: "bbbbbbbb-y", Tree: says("aaaaaaaa-x")}, {Name: "cccccccc-z", Refs: []string{"dddddddd-z"}, Tree: []api.Node{{Path: "//", Kind: 9}, {}}}, {Name: "dddddddd-z", Refs: []string{"aaaaaaaa-x"}, Tree: says("cccccccc-z")}}
	checkEach(t, "Trees that refer elsewhere", items, []string{"aaaaaaaa-x", "bbbbbbbb-y", "dddddddd-z", "cccccccc-z"}, true)
	items[0].Refs = []string{"cccccccc-z"}
	checkEach(t, "Trees that do not refer in a ring", items, nil, false)
}

// roomy tells a list with spare room that holds other things, and whether anything of both is changed, whenever that is asked.
func roomy[T any](given []T, room T) ([]T, func() bool) {
	all := append(append([]T{}, given...), room, room, room, room)
	kept := append([]T{}, all...)
	return all[:len(given)], func() bool { return !reflect.DeepEqual(all, kept) }
}

// roomyItems are items all of whose lists have spare room, and whether anything is changed, whenever that is asked.
func roomyItems(items []api.Item) ([]api.Item, func() bool) {
	var own []api.Item
	var asks []func() bool
	for _, i := range items {
		refs, refsChanged := roomy(i.Refs, "a")
		nodes, nodesChanged := roomy(i.Tree, api.Node{Path: "b", Data: "a"})
		own = append(own, api.Item{Name: i.Name, Refs: refs, Tree: nodes})
		asks = append(asks, refsChanged, nodesChanged)
	}
	all, allChanged := roomy(own, linked("a", "b", "a"))
	asks = append(asks, allChanged)
	return all, func() bool { return slices.ContainsFunc(asks, func(changed func() bool) bool { return changed() }) }
}

// some are lists of items, with an order and without one.
func some() map[string][]api.Item {
	return map[string][]api.Item{
		"none": nil, "one": made("a"), "one that is none": {{}}, "three that are none": {{}, {}, {}}, "the example": made("a b", "b", "c a"), "a chain": made("a b", "b c", "c d", "d"), "a chain turned": made("d", "c d", "b c", "a b"), "apart": made("c", "b", "a"), "Refs out of order": made("a d c b d", "b d", "c", "d"), "itself": made("a a", "b b a b"), "not there": made("a x y", "b y x a"),
		"a ring": made("a b", "b c", "c a"), "a ring beside others": made("a", "b c", "c b", "d a"), "one twice": made("a", "b", "a"), "items that may be": {{Name: "aaaaaaaa-x", Refs: []string{"bbbbbbbb-y"}, Tree: []api.Node{{Kind: api.File, Data: "bbbbbbbb"}}}, {Name: "bbbbbbbb-y", Tree: []api.Node{{Kind: api.Dir}}}},
	}
}

func TestWhatIsHandedInStays(t *testing.T) {
	for what, l := range some() {
		items, changed := roomyItems(l)
		want, ok := modelFirst(l)
		// Nothing hangs on what stands in the room.
		check(t, what+", with spare room", items, want, ok)
		check(t, what+", without", l, want, ok)
		if changed() {
			t.Errorf("R4: what is handed in of %s is changed, or its room", what)
		}
	}
}

// spoil changes all that a list holds, and its room too.
func spoil[T any](all []T, by T) {
	for at := range all[:cap(all)] {
		all[:cap(all)][at] = by
	}
}

func TestAnswersShareNothing(t *testing.T) {
	for what, l := range some() {
		items, changed := roomyItems(l)
		want, _ := modelFirst(l)
		wantRanks := order.Ranks(l)
		first, firstRanks := make([][]string, 3), make([][]int, 3)
		for at := range first {
			first[at], _ = order.Of(items)
			firstRanks[at] = order.Ranks(items)
		}
		spoil(first[0], "spoilt")
		spoil(firstRanks[0], -1)
		if changed() || !slices.Equal(first[1], want) || !slices.Equal(firstRanks[1], wantRanks) {
			t.Errorf("R4: of %s: an answer shares memory with what was handed in, or with another answer", what)
		}
		for at := range items {
			spoil(items[at].Refs, "spoilt")
			spoil(items[at].Tree, api.Node{})
		}
		spoil(items, linked("spoilt"))
		if !slices.Equal(first[2], want) || !slices.Equal(firstRanks[2], wantRanks) {
			t.Errorf("R4: of %s: an answer changes with what was handed in", what)
		}
	}
	// Refs that are the answer already are not handed out themselves.
	items := []api.Item{linked("a"), linked("b", "a", "b")}
	all, _ := order.Of(items)
	spoil(all, "spoilt")
	if !slices.Equal(items[1].Refs, []string{"a", "b"}) {
		t.Error("R4: Of answers a list that was handed in")
	}
}

func TestAnswersHangOnNothingElse(t *testing.T) {
	for range 50 {
		for what, l := range some() {
			want, ok := modelFirst(l)
			check(t, what, l, want, ok)
			check(t, "the example behind "+what, made("a b", "b", "c a"), []string{"b", "a", "c"}, true)
		}
	}
}

func TestFromSeveralGoroutines(t *testing.T) {
	items, changed := roomyItems(made("a d", "b d", "c", "d"))
	ring, ringChanged := roomyItems(made("a b", "b a", "c"))
	var group sync.WaitGroup
	for range 8 {
		group.Go(func() {
			for range 300 {
				all, ok := order.Of(items)
				ranks := order.Ranks(items)
				none, ringOK := order.Of(ring)
				if !ok || !slices.Equal(all, []string{"c", "d", "a", "b"}) || !slices.Equal(ranks, []int{2, 3, 0, 1}) || none != nil || ringOK || order.Ranks(ring) != nil {
					t.Error("R5: calls at one time")
				}
				spoil(all, "spoilt")
				spoil(ranks, -1)
			}
		})
	}
	group.Wait()
	if changed() || ringChanged() {
		t.Error("R4: what was handed in is changed")
	}
}

func FuzzOrders(f *testing.F) {
	f.Add("a", "b", "c", "d", uint32(0x1234))
	f.Add("", "a", "\xff", "a", uint32(0))
	f.Add("aa", "a", "", "b", uint32(0xffffff))
	f.Fuzz(func(t *testing.T, one, two, three, four string, bits uint32) {
		known := []string{one, two, three, four, "x"}
		var items []api.Item
		for at, name := range known[:4] {
			items = append(items, linked(name, subset(known, int(bits>>(5*at)&31))...))
		}
		want, ok := modelFirst(items)
		check(t, "drawn", items, want, ok)
		check(t, "drawn, turned", turned(items), want, ok)
	})
}
