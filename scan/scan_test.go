package scan_test

import (
	"fmt"
	"math"
	"reflect"
	"regexp"
	"slices"
	"strconv"
	"strings"
	"sync"
	"testing"

	"hogshead/api"
	"hogshead/item"
	"hogshead/scan"
)

// signs are those of a hash.
const signs = "0123456789abcdfghijklmnpqrsvwxyz"

var nameRule = regexp.MustCompile(`\A([0-9a-df-np-sv-z]{8})-[a-z0-9][a-z0-9.+_-]{0,20}\z`)

// modelPlaces asks at each place by itself.
func modelPlaces(s, what string) []int {
	var all []int
	for at := range len(s) {
		if what != "" && strings.HasPrefix(s[at:], what) {
			all = append(all, at)
		}
	}
	return all
}

// modelTexts says by the chapter's words, name by name, which of names have their hash in one of the texts.
func modelTexts(texts, names []string) []string {
	kept := map[string]bool{}
	for _, name := range names {
		hash := nameRule.FindStringSubmatch(name)
		if hash != nil && slices.ContainsFunc(texts, func(s string) bool { return strings.Contains(s, hash[1]) }) {
			kept[name] = true
		}
	}
	var all []string
	for name := range kept {
		all = append(all, name)
	}
	slices.Sort(all)
	return all
}

// checkPlaces holds Places and Has against what is wanted.
func checkPlaces(t *testing.T, s, what string, want []int) {
	t.Helper()
	if got := scan.Places(s, what); !slices.Equal(got, want) {
		t.Errorf("P8.1: Places(%.60q, %.60q): %.80s, not %.80s", s, what, fmt.Sprint(got), fmt.Sprint(want))
	}
	if got := scan.Has(s, what); got != (len(want) > 0) {
		t.Errorf("P8.1: Has(%.60q, %.60q): %t", s, what, got)
	}
}

// checkText holds Text, and Tree of one node, against what is wanted.
func checkText(t *testing.T, s string, names, want []string) {
	t.Helper()
	if got := scan.Text(s, names); !slices.Equal(got, want) {
		t.Errorf("P8.1: Text(%.80q, %.200q): %.200q, not %.200q", s, names, got, want)
	}
	checkTree(t, []api.Node{file("f", s)}, names, want)
}

// checkTree holds Tree against what is wanted.
func checkTree(t *testing.T, nodes []api.Node, names, want []string) {
	t.Helper()
	if got := scan.Tree(nodes, names); !slices.Equal(got, want) {
		t.Errorf("P8.1: Tree(%.200s, %.200q): %.200q, not %.200q", fmt.Sprintf("%#v", nodes), names, got, want)
	}
}

func file(p, data string) api.Node { return api.Node{Path: p, Kind: api.File, Data: data} }

// allTexts are all texts of at most n of these letters.
func allTexts(letters string, n int) []string {
	all := []string{""}
	for from := 0; len(all[from]) < n; from++ {
		for at := range len(letters) {
			all = append(all, all[from]+letters[at:at+1])
		}
	}
	return all
}

// eachByte is a text of all bytes there are.
func eachByte() string {
	all := make([]byte, 256)
	for i := range all {
		all[i] = byte(i)
	}
	return string(all)
}

// numbered makes n names, rising, each with a hash of its own.
func numbered(n int) []string {
	var all []string
	for i := range n {
		all = append(all, strconv.Itoa(10000000+i)+"-x")
	}
	return all
}

// turned are the same the other way round.
func turned(names []string) []string {
	all := slices.Clone(names)
	slices.Reverse(all)
	return all
}

const (
	a  = "aaaaaaaa-x"
	b  = "bbbbbbbb-y"
	b2 = "bbbbbbbb-z"
	c  = "0123456c-lib+1.2_3-4"
	d  = "zzzzzzzz-0"
)

func TestPlaces(t *testing.T) {
	for _, x := range []struct {
		s, what string
		want    []int
	}{
		{"aaa", "aa", []int{0, 1}},
		// What is empty stands nowhere.
		{"", "", nil}, {"a", "", nil}, {"aaa", "", nil}, {"\x00", "", nil},
		// What is longer than the text, and the text itself.
		{"", "a", nil}, {"", "\x00", nil}, {"a", "aa", nil}, {"ab", "abc", nil}, {"ab", "cab", nil}, {"a", "a", []int{0}}, {"abab", "abab", []int{0}}, {"aaaa", "aaaa", []int{0}}, {"ab", "ba", nil},
		// At the first place, the last, in the midst.
		{"abc", "a", []int{0}}, {"abc", "c", []int{2}}, {"abc", "b", []int{1}}, {"abc", "ab", []int{0}}, {"abc", "bc", []int{1}}, {"abc", "ac", nil}, {"abc", "d", nil},
		// One behind the other, apart, overlapping.
		{"ababab", "ab", []int{0, 2, 4}}, {"ababab", "aba", []int{0, 2}}, {"ababab", "abab", []int{0, 2}}, {"ab ab", "ab", []int{0, 3}}, {"aaaaa", "a", []int{0, 1, 2, 3, 4}}, {"aaaaa", "aaa", []int{0, 1, 2}},
		{"abcabcab", "abcab", []int{0, 3}}, {"abaababaab", "abaab", []int{0, 5}}, {"aabaabaaab", "aaba", []int{0, 3}}, {"aabaabaaab", "aaab", []int{6}},
		// What nearly stands there, and then does, from within.
		{"aaab", "aab", []int{1}}, {"abababc", "ababc", []int{2}}, {"abcabd", "abd", []int{3}}, {"aabaaabaaaab", "aaaab", []int{7}},
		// Any bytes: no letters, halves of letters, signs that mean something elsewhere.
		{"\x00\xff\x00", "\x00", []int{0, 2}}, {"\x00\x00\x00", "\x00\x00", []int{0, 1}}, {"\xff\xff\xff", "\xff\xff", []int{0, 1}}, {"ää", "ä", []int{0, 2}}, {"ää", "\xa4", []int{1, 3}}, {"ää", "\xa4\xc3", []int{1}}, {"\xed\xa0\x80", "\ufffd", nil}, {"a.b", ".", []int{1}}, {"A", "a", nil}, {"a\nb", "\n", []int{1}},
		{"äxé", "é", []int{3}},
	} {
		checkPlaces(t, x.s, x.what, x.want)
	}
}

func TestPlacesOfAllShortTexts(t *testing.T) {
	for _, x := range []struct {
		letters string
		n, of   int
	}{{"ab", 9, 6}, {"\x00\xffa", 6, 4}, {"\xc3\xa4", 7, 5}, {"a", 40, 40}} {
		whats := allTexts(x.letters, x.of)
		for _, s := range allTexts(x.letters, x.n) {
			for _, what := range whats {
				checkPlaces(t, s, what, modelPlaces(s, what))
			}
			if t.Failed() {
				return
			}
		}
	}
}

func TestPlacesOfEachByte(t *testing.T) {
	all := eachByte()
	for i := range 256 {
		one := all[i : i+1]
		checkPlaces(t, all, one, []int{i})
		checkPlaces(t, all+all, one, []int{i, 256 + i})
		checkPlaces(t, strings.ReplaceAll(all, one, ""), one, nil)
		checkPlaces(t, all, all[i:], []int{i})
		checkPlaces(t, all, all[:i+1], []int{0})
		checkPlaces(t, all, one+one, nil)
		checkPlaces(t, all+one, one, modelPlaces(all+one, one))
		// A byte differs from each other one.
		for j := range 256 {
			checkPlaces(t, one, all[j:j+1], modelPlaces(one, all[j:j+1]))
		}
	}
}

func TestPlacesOfEachPiece(t *testing.T) {
	for _, s := range []string{"abaababaabaababaababa", "aabaabaaabaabaaabaabaa", "abcabcabdabcabcabcabd", "aaaaaaaabaaaaaaaacaaaaaaaa", "01101001100101101001011001101001", "\x00\x00\xff\x00\x00\xff\x00\x00\x00"} {
		for from := range len(s) {
			for to := from; to <= len(s); to++ {
				piece := s[from:to]
				checkPlaces(t, s, piece, modelPlaces(s, piece))
				checkPlaces(t, s, piece+"b", modelPlaces(s, piece+"b"))
				checkPlaces(t, piece, s, modelPlaces(piece, s))
			}
		}
	}
}

// rising are the numbers from from to to, to left out.
func rising(from, to int) []int {
	var all []int
	for n := from; n < to; n++ {
		all = append(all, n)
	}
	return all
}

// TestPlacesOfGreatTexts would go on for minutes, if a text were gone through again for each place.
func TestPlacesOfGreatTexts(t *testing.T) {
	const n = 1000000
	many := strings.Repeat("a", n)
	half := many[:n/2]
	checkPlaces(t, many, half, rising(0, n/2+1))
	checkPlaces(t, many, many, []int{0})
	checkPlaces(t, many, many+"a", nil)
	checkPlaces(t, many, half+"b", nil)
	checkPlaces(t, many, "b"+half, nil)
	checkPlaces(t, many, half+"b"+half[1:], nil)
	checkPlaces(t, many+"b", half+"b", []int{n / 2})
	checkPlaces(t, half+"b"+half, half, []int{0, n/2 + 1})
	checkPlaces(t, strings.Repeat(many[:999]+"b", 1000), many[:1000], nil)
	checkPlaces(t, strings.Repeat("ab", n/2), strings.Repeat("ab", n/4), doubled(rising(0, n/4+1)))
	one, two := "a", "ab"
	for len(two) < n/4 {
		one, two = two, two+one
	}
	all := two + one + two
	if got := scan.Places(all, two); len(got) < 2 || got[0] != 0 || got[len(got)-1] != len(all)-len(two) || !slices.IsSorted(got) || !scan.Has(all, two) {
		t.Errorf("P8.1: Places of a text that is much like itself: %v", got)
	}
	for range 2000 {
		if !scan.Has(many, "a") || scan.Has("a", many) || len(scan.Places("a", many)) > 0 || scan.Has(many, "") {
			t.Fatal("P8.1: Has of very much")
		}
	}
}

func doubled(all []int) []int {
	for at := range all {
		all[at] *= 2
	}
	return all
}

func TestText(t *testing.T) {
	names := []string{c, a, "?", d, b, a, "", b2}
	for _, x := range []struct {
		s    string
		want []string
	}{
		{"", nil}, {"x", nil}, {"aaaaaaa", nil}, {"aaaaaaaa", []string{a}}, {"aaaaaaaaaaaaaaaaaaaaaaa", []string{a}},
		{"aaaaaaaa behind", []string{a}}, {"ahead aaaaaaaa", []string{a}}, {"in the aaaaaaaa midst", []string{a}},
		{"aaaaaaaabbbbbbbb", []string{a, b, b2}}, {"bbbbbbbbaaaaaaaa", []string{a, b, b2}}, {"bbbbbbbb", []string{b, b2}}, {"aaaaaaabbbbbbbbaaaaaaa", []string{b, b2}},
		{"0123456c", []string{c}}, {"01234560123456c", []string{c}}, {"00123456cc", []string{c}}, {"0123456 c", nil}, {"0123456", nil}, {"123456c", nil}, {"c6543210", nil},
		{d + b2 + c + a, []string{c, a, b, b2, d}}, {"/gnu/store/" + d + "/bin", []string{d}}, {"zzzzzzzz zzzzzzzz-1", []string{d}}, {"ZZZZZZZZ", nil}, {"zzzzzzz", nil},
		{"\x00\xffzzzzzzzz\x00aaaa\x00aaaa", []string{d}}, {"\xc3aaaaaaaa\xa4", []string{a}}, {"aaaaäaaaa", nil}, {"aaaa\naaaa", nil},
		{"?", nil}, {"-x", nil}, {"x-y", nil},
	} {
		checkText(t, x.s, names, x.want)
		checkText(t, x.s, turned(names), x.want)
		checkText(t, x.s, append(names, names...), x.want)
		checkText(t, x.s, nil, nil)
		checkText(t, x.s, []string{}, nil)
		if want := modelTexts([]string{x.s}, names); !slices.Equal(want, x.want) {
			t.Errorf("the model tells %q of %q", want, x.s)
		}
	}
}

func TestTextOfOneName(t *testing.T) {
	for _, name := range []string{a, b, c, d} {
		hash := item.Hash(name)
		checkText(t, hash, []string{name}, []string{name})
		checkText(t, hash, []string{name, name, name}, []string{name})
		checkText(t, name, []string{name}, []string{name})
		checkText(t, hash[1:]+hash[:1], []string{name}, modelTexts([]string{hash[1:] + hash[:1]}, []string{name}))
		checkText(t, hash[:7], []string{name}, nil)
		checkText(t, hash[1:], []string{name}, nil)
		checkText(t, name[8:], []string{name}, nil)
		checkText(t, "", []string{name}, nil)
	}
}

func TestTextOfWhatIsNoName(t *testing.T) {
	for _, no := range []string{"", "?", "aaaaaaaa", "aaaaaaaa-", "aaaaaaaa-.x", "aaaaaaaa-X", "aaaaaaaae-x", "aaaaaaa-x", "eaaaaaaa-x", "aaaaaaa\x00-x", "aaaaaaaa x", "aaaaaaaa-x\n", "AAAAAAAA-x", "aaaaaaaa-" + strings.Repeat("x", 22), strings.Repeat("a", 1<<20), "\xff", "äaaaaaa-x"} {
		for _, s := range []string{"", no, "aaaaaaaa", no + "aaaaaaaa" + no, "eaaaaaaa"} {
			checkText(t, s, []string{no}, nil)
			checkText(t, s, []string{no, no, ""}, nil)
			checkText(t, s+"bbbbbbbb", []string{no, b, no}, []string{b})
			checkText(t, s, []string{no, d, no}, nil)
		}
	}
	longest := "aaaaaaaa-" + strings.Repeat("x", 21)
	checkText(t, "aaaaaaaa", []string{longest, longest + "x"}, []string{longest})
}

func TestTextRises(t *testing.T) {
	// In order by bytes, whatever the order of names and that of the text.
	want := []string{"00000000-a", "01234567-a", "aaaaaaaa-+", "aaaaaaaa-0", "aaaaaaaa-a", "aaaaaaaa-a+", "aaaaaaaa-a-", "aaaaaaaa-a.", "aaaaaaaa-a0", "aaaaaaaa-a_", "aaaaaaaa-aa", "b0000000-a", "bbbbbbbb-a", "zzzzzzzz-a"}
	want = slices.DeleteFunc(want, func(name string) bool { return !item.Name(name) })
	text := "zzzzzzzz01234567 00000000 b0000000 aaaaaaaa bbbbbbbb"
	names := slices.Clone(want)
	seed := uint64(1)
	for range 500 {
		for at := range names {
			seed = seed*6364136223846793005 + 1442695040888963407
			other := int(seed>>33) % len(names)
			names[at], names[other] = names[other], names[at]
		}
		checkText(t, text, names, want)
		checkText(t, text, append(slices.Clone(names), names[:5]...), want)
	}
}

func TestTextOfEachPlace(t *testing.T) {
	for _, filling := range []string{"a", "0", "-", "\x00", "\xff", "e", "z"} {
		for size := range 40 {
			for at := 0; at <= size; at++ {
				s := strings.Repeat(filling, at) + "0123456c" + strings.Repeat(filling, size-at)
				checkText(t, s, []string{d, c, a, c}, modelTexts([]string{s}, []string{d, c, a}))
				if !slices.Contains(scan.Text(s, []string{d, c, a}), c) {
					t.Fatalf("P8.1: Text(%q) has not %q", s, c)
				}
			}
		}
	}
}

func TestTextOfAllButOneSign(t *testing.T) {
	for _, name := range []string{a, c, d} {
		hash := item.Hash(name)
		for at := range 8 {
			for other := range 256 {
				other := string([]byte{byte(other)})
				s := hash[:at] + other + hash[at+1:]
				var want []string
				if s == hash {
					want = []string{name}
				}
				checkText(t, s, []string{name}, want)
				checkText(t, "-"+s+"-", []string{name}, want)
				// A sign too many, and one that is not there.
				checkText(t, hash[:at]+other+hash[at:], []string{name}, modelTexts([]string{hash[:at] + other + hash[at:]}, []string{name}))
				checkText(t, hash[:at]+hash[at+1:], []string{name}, nil)
			}
		}
	}
}

func TestTextOfEachSign(t *testing.T) {
	var names []string
	for at := range len(signs) {
		names = append(names, strings.Repeat(signs[at:at+1], 8)+"-n")
	}
	for at := range len(signs) {
		checkText(t, "."+strings.Repeat(signs[at:at+1], 8)+".", names, names[at:at+1])
	}
	checkText(t, signs, names, nil)
	checkText(t, strings.Join(names, ""), turned(names), names)
	for at := 0; at+8 <= len(signs); at++ {
		name := signs[at:at+8] + "-n"
		checkText(t, signs, []string{name}, []string{name})
	}
}

func TestTextOfAllShortLists(t *testing.T) {
	pool := []string{a, b, b2, d, "", "aaaaaaaa", "?"}
	lists := [][]string{nil}
	for from := 0; len(lists[from]) < 4; from++ {
		for _, name := range pool {
			lists = append(lists, append(slices.Clone(lists[from]), name))
		}
	}
	for _, s := range []string{"", "aaaaaaaa", "bbbbbbbb?", "zzzzzzzzbbbbbbbb", "aaaaaaaa zzzzzzzz bbbbbbbb", "aaaabbbbzzzz"} {
		for _, names := range lists {
			checkText(t, s, names, modelTexts([]string{s}, names))
		}
	}
}

func TestTree(t *testing.T) {
	names := []string{d, c, a, "?", b2, b, a}
	for _, x := range []struct {
		what  string
		nodes []api.Node
		want  []string
	}{
		{"no nodes", nil, nil},
		{"an empty list", []api.Node{}, nil},
		{"an empty node", []api.Node{{}}, nil},
		{"a Dir", []api.Node{{Kind: api.Dir}}, nil},
		{"a file", []api.Node{{Path: "f", Kind: api.File, Data: "(aaaaaaaa)"}}, []string{a}},
		{"what may be run", []api.Node{{Path: "f", Kind: api.Exec, Data: "#!/gnu/" + c}}, []string{c}},
		{"a link", []api.Node{{Path: "f", Kind: api.Link, Data: "/gnu/" + b}}, []string{b, b2}},
		{"a Dir with Data", []api.Node{{Path: "f", Kind: api.Dir, Data: "zzzzzzzz"}}, []string{d}},
		{"no Kind", []api.Node{{Data: "zzzzzzzz"}}, []string{d}},
		{"a Kind below", []api.Node{{Path: "f", Kind: -1, Data: "zzzzzzzz"}}, []string{d}},
		{"the greatest Kind", []api.Node{{Path: "f", Kind: math.MaxInt, Data: "zzzzzzzz"}}, []string{d}},
		{"no path", []api.Node{{Path: "/../", Kind: 9, Data: "zzzzzzzz"}, {Path: "\x00", Kind: 5, Data: "aaaaaaaa"}}, []string{a, d}},
		{"in a Path alone", []api.Node{{Path: "aaaaaaaa", Kind: api.File}, {Path: b, Kind: api.Dir}, {Path: "zzzzzzzz/x", Kind: api.Link, Data: "x"}}, nil},
		{"in a Path and other Data", []api.Node{{Path: "aaaaaaaa", Kind: api.File, Data: "bbbbbbbb"}}, []string{b, b2}},
		{"parted over two Data", []api.Node{file("f", "aaaa"), file("g", "aaaa")}, nil},
		{"parted, a node between", []api.Node{file("f", "aaaaaaa"), file("g", ""), file("h", "a")}, nil},
		{"parted over Path and Data", []api.Node{file("aaaa", "aaaa"), file("zzzz", "zzzz")}, nil},
		{"parted over Data and Path", []api.Node{file("f", "aaaa"), file("aaaa", "")}, nil},
		{"parted, and then whole", []api.Node{file("f", "zaaaa"), file("g", "aaaa"), file("h", "aaaaaaaa")}, []string{a}},
		{"in the first node", []api.Node{file("f", "aaaaaaaa"), file("g", "x"), file("h", "")}, []string{a}},
		{"in the last node", []api.Node{file("f", ""), file("g", "x"), file("h", "aaaaaaaa")}, []string{a}},
		{"in all nodes", slices.Repeat([]api.Node{file("f", "aaaaaaaa")}, 5), []string{a}},
		{"one in each", []api.Node{file("f", "zzzzzzzz"), file("g", "0123456c"), file("h", "aaaaaaaa")}, []string{c, a, d}},
		{"several in one", []api.Node{file("f", d+a+b)}, []string{a, b, b2, d}},
		{"falling paths, one twice", []api.Node{file("z", "aaaaaaaa"), file("a", "zzzzzzzz"), file("a", "aaaaaaaa")}, []string{a, d}},
	} {
		checkTree(t, x.nodes, names, x.want)
		checkTree(t, x.nodes, turned(names), x.want)
		checkTree(t, x.nodes, nil, nil)
		checkTree(t, x.nodes, []string{}, nil)
		checkTree(t, x.nodes, []string{"", "?", "aaaaaaaa"}, nil)
		other := slices.Clone(x.nodes)
		slices.Reverse(other)
		checkTree(t, other, names, x.want)
		if t.Failed() {
			t.Fatalf("P8.1: Tree of a list that has: %s", x.what)
		}
	}
}

func TestTreeOfAllShortLists(t *testing.T) {
	pool := []api.Node{{}, file("f", "aaaaaaaa"), file("aaaaaaaa", "aaaa"), {Path: "l", Kind: api.Link, Data: "../bbbbbbbb"}, {Path: "zzzzzzzz", Kind: api.Dir}, {Kind: -7, Data: "zzzzzzzzaaaa"}}
	names := []string{d, b, a, b2, "", a}
	lists := [][]api.Node{nil}
	for from := 0; len(lists[from]) < 4; from++ {
		for _, n := range pool {
			lists = append(lists, append(slices.Clone(lists[from]), n))
		}
	}
	for _, l := range lists {
		var texts []string
		for _, n := range l {
			texts = append(texts, n.Data)
		}
		checkTree(t, l, names, modelTexts(texts, names))
	}
}

func TestTreeOfManyNodes(t *testing.T) {
	names := numbered(400)
	var nodes []api.Node
	for at := range 400 {
		nodes = append(nodes, file("f"+strconv.Itoa(at), strings.Repeat("x", 392)+names[at][:8]))
	}
	checkTree(t, nodes, turned(names), names)
	for _, n := range []int{0, 1, 2, 199, 399} {
		checkTree(t, nodes[:n], names, names[:n])
		checkTree(t, nodes[n:], names, names[n:])
		checkTree(t, nodes, names[n:n+1], names[n:n+1])
	}
	// More nodes, and longer Data, than a tree may have.
	more := append(slices.Repeat(nodes, 3), file("long", strings.Repeat("y", 401)+"zzzzzzzz"))
	checkTree(t, more, append([]string{d}, names...), append(slices.Clone(names), d))
}

// TestOfGreatSizes would go on for minutes, if the whole were gone through again for each name.
func TestOfGreatSizes(t *testing.T) {
	names := numbered(100000)
	var text strings.Builder
	for _, name := range names[:50000] {
		text.WriteString("/gnu/store/" + name[:8] + "\n")
	}
	s := text.String()
	checkText(t, s, names, names[:50000])
	checkText(t, s, turned(names), names[:50000])
	checkText(t, strings.Repeat("a", 1000000), append(names, a, a), []string{a})
	checkText(t, s, slices.Repeat([]string{names[7]}, 100000), names[7:8])
	checkText(t, s, slices.Repeat([]string{"", "?", strings.Repeat("a", 1<<20)}, 100000), nil)
	checkTree(t, slices.Repeat([]api.Node{file("f", "10000003")}, 100000), names, names[3:4])
	checkTree(t, make([]api.Node, 100000), names, nil)
}

// roomy tells a list with spare room that holds other things, and whether anything of both is changed, whenever that is asked.
func roomy[T any](given []T, room T) ([]T, func() bool) {
	all := append(append([]T{}, given...), room, room, room, room)
	kept := append([]T{}, all...)
	return all[:len(given)], func() bool { return !reflect.DeepEqual(all, kept) }
}

func TestWhatIsHandedInStays(t *testing.T) {
	nodes := []api.Node{file("f", "zzzzzzzz"), file("f", "bbbbbbbb aaaaaaaa"), {Path: "e", Kind: 7, Data: ""}}
	for _, names := range [][]string{nil, {}, {a}, {a, a}, {d, c, b, a}, {d, "?", b2, b, "", a, d}, {"?", ""}} {
		givenNames, namesChanged := roomy(names, "aaaaaaaa-room")
		givenNodes, nodesChanged := roomy(nodes, file("room", "0123456c"))
		for _, s := range []string{"", "aaaaaaaa", d + b + a} {
			scan.Text(s, givenNames)
		}
		for n := range len(givenNodes) + 1 {
			scan.Tree(givenNodes[:n], givenNames)
		}
		if namesChanged() || nodesChanged() {
			t.Errorf("R4: what is handed in with %q is changed, or its room", names)
		}
		if got := scan.Tree(givenNodes, givenNames); !slices.Equal(got, modelTexts([]string{nodes[0].Data, nodes[1].Data}, names)) {
			t.Errorf("R5: Tree hangs on spare room: %q", got)
		}
	}
}

// spoil changes all that a list holds, and its room too.
func spoil[T any](all []T, by T) {
	for at := range all[:cap(all)] {
		all[:cap(all)][at] = by
	}
}

func TestAnswersShareNothing(t *testing.T) {
	names := append(make([]string, 0, 20), a, b, c, d)
	nodes := []api.Node{file("f", a+b+c+d)}
	want := []string{c, a, b, d}
	first := [][]string{scan.Text(nodes[0].Data, names), scan.Tree(nodes, names)}
	second := [][]string{scan.Text(nodes[0].Data, names), scan.Tree(nodes, names)}
	for at := range first {
		spoil(first[at], "spoilt")
	}
	if !slices.Equal(names, []string{a, b, c, d}) || nodes[0] != file("f", a+b+c+d) || !slices.Equal(names[:5], []string{a, b, c, d, ""}) {
		t.Error("R4: an answer shares memory with what was handed in")
	}
	spoil(names, "spoilt")
	spoil(nodes, api.Node{})
	for at := range second {
		if !slices.Equal(second[at], want) {
			t.Errorf("R4: an answer shares memory with another one, or with what was handed in: %q", second[at])
		}
	}
	one, two := scan.Places("aaaa", "a"), scan.Places("aaaa", "a")
	spoil(one, 7)
	if !slices.Equal(two, []int{0, 1, 2, 3}) || !slices.Equal(scan.Places("aaaa", "a"), two) {
		t.Error("R4: two answers of Places share memory")
	}
	// Names that rise already, each once, are answered as a list of its own, too.
	names = []string{a, b}
	got := scan.Text(a+b, names)
	spoil(got, "spoilt")
	if !slices.Equal(names, []string{a, b}) {
		t.Error("R4: Text answers the list that was handed in")
	}
}

func TestAnswersHangOnNothingElse(t *testing.T) {
	names := []string{d, b2, c, b, a}
	for range 100 {
		checkText(t, "aaaaaaaa zzzzzzzz bbbbbbbb", names, []string{a, b, b2, d})
		checkText(t, "", names, nil)
		checkText(t, "0123456c", names, []string{c})
		checkText(t, "0123456c", []string{"?"}, nil)
		checkPlaces(t, "abab", "ab", []int{0, 2})
		checkPlaces(t, "abab", "", nil)
		checkPlaces(t, "ab", "ababab", nil)
	}
}

func TestFromSeveralGoroutines(t *testing.T) {
	names, namesChanged := roomy([]string{d, b, a, a, "?"}, "room")
	nodes, nodesChanged := roomy([]api.Node{file("f", "zzzzzzzz"), file("g", "..aaaaaaaa")}, file("room", "bbbbbbbb"))
	var group sync.WaitGroup
	for range 8 {
		group.Go(func() {
			for range 200 {
				tree, text, places := scan.Tree(nodes, names), scan.Text("bbbbbbbb", names), scan.Places("abab", "ab")
				if !slices.Equal(tree, []string{a, d}) || !slices.Equal(text, []string{b}) || !slices.Equal(places, []int{0, 2}) || !scan.Has("ab", "b") {
					t.Error("R5: calls at one time")
				}
				spoil(tree, "spoilt")
				spoil(text, "spoilt")
				spoil(places, -1)
			}
		})
	}
	group.Wait()
	if namesChanged() || nodesChanged() {
		t.Error("R4: what was handed in is changed")
	}
}

func FuzzPlaces(f *testing.F) {
	for _, x := range [][2]string{{"aaa", "aa"}, {"aaa", ""}, {"", "a"}, {"abaababaab", "abaab"}, {"\x00\xff", "\xff"}} {
		f.Add(x[0], x[1])
	}
	f.Fuzz(func(t *testing.T, s, what string) { checkPlaces(t, s, what, modelPlaces(s, what)) })
}

func FuzzText(f *testing.F) {
	f.Add("aaaaaaaa", a, b)
	f.Add("0123456c bbbbbbbb", c, b)
	f.Add("", "", "?")
	f.Fuzz(func(t *testing.T, s, one, two string) {
		names := []string{two, one, two, a}
		checkText(t, s, names, modelTexts([]string{s}, names))
		checkTree(t, []api.Node{file(one, s), file(s, two), {}}, names, modelTexts([]string{s, two}, names))
	})
}
