package reg_test

import (
	"fmt"
	"math"
	"reflect"
	"regexp"
	"slices"
	"strconv"
	"strings"
	"sync"
	"testing"

	"hogshead/api"
	"hogshead/reg"
)

// Names, rising; a2 has a's hash.
const (
	a  = "00000000-a"
	a2 = "00000000-b"
	b  = "0123456a-x"
	c  = "bcdfghij-gcc.lib_1+2-3"
	z  = "zzzzzzzz-0"
)

// text makes n bytes that may stand in a prefix, and behind a name's stroke.
func text(n int) string { return strings.Repeat("x", n) }

// byteText is the text of one byte, which may be no letter.
func byteText(b int) string { return string([]byte{byte(b)}) }

// linked is an item that refers to these, without a Tree.
func linked(name string, refs ...string) api.Item { return api.Item{Name: name, Refs: refs} }

// apart makes items of these Names that refer to nothing.
func apart(names ...string) []api.Item {
	var items []api.Item
	for _, name := range names {
		items = append(items, linked(name))
	}
	return items
}

// names makes n names as long as may be, rising.
func names(n int) []string {
	var all []string
	for i := range n {
		all = append(all, strconv.Itoa(10000000+i)+"-"+text(21))
	}
	return all
}

// turned is the same list the other way round.
func turned[T any](l []T) []T {
	all := slices.Clone(l)
	slices.Reverse(all)
	return all
}

// pack is a pack under /gnu.
func pack(policy int, profile []string, items ...api.Item) api.Pack {
	return api.Pack{Prefix: "/gnu", Policy: policy, Items: items, Profile: profile}
}

// sample is a pack that may be, with lines of each kind.
func sample() api.Pack {
	return pack(api.First, []string{b, a, b}, linked(a, a, c, z), linked(b), linked(c, b))
}

// sampleText is the sample's.
const sampleText = "prefix /gnu\npolicy 1\nitem " + a + "\nref " + a + "\nref " + c + "\nref " + z + "\nitem " + b + "\nitem " + c + "\nref " + b + "\nprofile " + b + "\nprofile " + a + "\nprofile " + b + "\n"

// with is the sample, but for what turn does.
func with(turn func(p *api.Pack)) api.Pack {
	p := sample()
	turn(&p)
	return p
}

// full is as much as may be.
func full() api.Pack {
	p := api.Pack{Prefix: "/" + text(15), Policy: api.First, Profile: turned(names(8))}
	for _, name := range names(8) {
		p.Items = append(p.Items, linked(name, names(8)...))
	}
	return p
}

// bare is the pack without the items' Trees.
func bare(p api.Pack) api.Pack {
	p.Items = slices.Clone(p.Items)
	for at := range p.Items {
		p.Items[at].Tree = nil
	}
	return p
}

// copied is the pack with lists of its own.
func copied(p api.Pack) api.Pack {
	p.Profile = slices.Clone(p.Profile)
	p.Items = slices.Clone(p.Items)
	for at, i := range p.Items {
		p.Items[at].Refs, p.Items[at].Tree = slices.Clone(i.Refs), slices.Clone(i.Tree)
	}
	return p
}

// show writes a pack so that two unlike ones are written unlike, and an empty list as a nil one.
func show(p api.Pack) string {
	var s strings.Builder
	fmt.Fprintf(&s, "%q, %d, profile %q", p.Prefix, p.Policy, p.Profile)
	for _, i := range p.Items {
		fmt.Fprintf(&s, ", item %q, refs %q, tree", i.Name, i.Refs)
		for _, n := range i.Tree {
			fmt.Fprintf(&s, " (%q %d %q)", n.Path, n.Kind, n.Data)
		}
	}
	return s.String()
}

// short tells a text's beginning.
func short(s string) string { return fmt.Sprintf("%.400s", s) }

var (
	nameRule   = regexp.MustCompile(`\A[0-9a-df-np-sv-z]{8}-[a-z0-9][a-z0-9.+_-]{0,20}\z`)
	prefixRule = regexp.MustCompile(`\A/[a-z0-9]{3,15}\z`)
	policyRule = regexp.MustCompile(`\A[01]\z`)
	shapeRule  = regexp.MustCompile(`\Apn(ir{0,8}){0,8}f{0,8}\z`)
)

// rises tells whether each is above all ahead of it.
func rises(l []string) bool {
	for at, one := range l {
		for _, ahead := range l[:at] {
			if ahead >= one {
				return false
			}
		}
	}
	return true
}

// areNames tells whether all are names by a rule of another kind.
func areNames(l []string) bool {
	for _, one := range l {
		if !nameRule.MatchString(one) {
			return false
		}
	}
	return true
}

// modelMay says by the chapter's words which registration may be.
func modelMay(p api.Pack) bool {
	var all []string
	for _, i := range p.Items {
		if len(i.Refs) > 8 || !areNames(i.Refs) || !rises(i.Refs) {
			return false
		}
		all = append(all, i.Name)
	}
	return prefixRule.MatchString(p.Prefix) && (p.Policy == 0 || p.Policy == 1) && len(all) <= 8 && areNames(all) && rises(all) && len(p.Profile) <= 8 && areNames(p.Profile)
}

// modelLay writes all lines, whether they may be or not.
func modelLay(p api.Pack) string {
	s := fmt.Sprintf("prefix %s\npolicy %d\n", p.Prefix, p.Policy)
	for _, i := range p.Items {
		s += fmt.Sprintf("item %s\n", i.Name)
		for _, ref := range i.Refs {
			s += fmt.Sprintf("ref %s\n", ref)
		}
	}
	for _, name := range p.Profile {
		s += fmt.Sprintf("profile %s\n", name)
	}
	return s
}

// kindOf is a letter for each kind of line that is one, and what the line says; else a question mark.
func kindOf(line string) (string, string) {
	for _, x := range []struct {
		kind, word string
		rule       *regexp.Regexp
	}{
		{"p", "prefix ", prefixRule}, {"n", "policy ", policyRule}, {"i", "item ", nameRule}, {"r", "ref ", nameRule}, {"f", "profile ", nameRule},
	} {
		if strings.HasPrefix(line, x.word) && x.rule.MatchString(line[len(x.word):]) {
			return x.kind, line[len(x.word):]
		}
	}
	return "?", ""
}

// modelRead reads by what each line is and by the shape that all of them make, not by what would be written.
func modelRead(s string) (api.Pack, bool) {
	var p api.Pack
	shape := ""
	lines := strings.Split(s, "\n")
	if lines[len(lines)-1] != "" {
		return api.Pack{}, false
	}
	for _, line := range lines[:len(lines)-1] {
		kind, says := kindOf(line)
		shape += kind
		switch {
		case kind == "p":
			p.Prefix = says
		case kind == "n":
			p.Policy = int(says[0] - '0')
		case kind == "i":
			p.Items = append(p.Items, linked(says))
		case kind == "f":
			p.Profile = append(p.Profile, says)
		case kind == "r" && len(p.Items) > 0:
			last := &p.Items[len(p.Items)-1]
			last.Refs = append(last.Refs, says)
		}
	}
	var all []string
	for _, i := range p.Items {
		all = append(all, i.Name)
		if !rises(i.Refs) {
			return api.Pack{}, false
		}
	}
	if !shapeRule.MatchString(shape) || !rises(all) {
		return api.Pack{}, false
	}
	return p, true
}

// checkRead holds Read of s against want.
func checkRead(t *testing.T, what, s string, want api.Pack, ok bool) {
	t.Helper()
	got, e := reg.Read(s)
	if !ok {
		if e != api.ErrForm {
			t.Errorf("P11.1: Read(%s) is %d, not ErrForm (%s)", short(strconv.Quote(s)), e, what)
		}
		if !reflect.DeepEqual(got, api.Pack{}) {
			t.Errorf("R2: Read(%s) tells %s beside an error (%s)", short(strconv.Quote(s)), short(show(got)), what)
		}
		return
	}
	if e != api.OK || show(got) != show(want) {
		t.Errorf("P11.1: Read(%s): %s, %d, not %s (%s)", short(strconv.Quote(s)), short(show(got)), e, short(show(want)), what)
	}
	if again, e := reg.Lay(got); again != s || e != api.OK {
		t.Errorf("P11.1: what was read of %s is laid as %s, %d (%s)", short(strconv.Quote(s)), short(strconv.Quote(again)), e, what)
	}
}

// checkText holds Read of s against the model.
func checkText(t *testing.T, what, s string) bool {
	t.Helper()
	want, ok := modelRead(s)
	checkRead(t, what, s, want, ok)
	return ok
}

// check holds May and Lay of p against what is wanted, and Read of what is laid against p.
func check(t *testing.T, what string, p api.Pack, may bool) {
	t.Helper()
	if reg.May(p) != may {
		t.Errorf("P11.1: May(%s) is %t (%s)", short(show(p)), !may, what)
	}
	got, e := reg.Lay(p)
	if !may {
		if e != api.ErrArg {
			t.Errorf("P11.1: Lay(%s) is %d, not ErrArg (%s)", short(show(p)), e, what)
		}
		if got != "" {
			t.Errorf("R2: Lay(%s) tells %q beside an error (%s)", short(show(p)), short(got), what)
		}
		return
	}
	if want := modelLay(p); got != want || e != api.OK {
		t.Errorf("P11.1: Lay(%s): %s, %d, not %s (%s)", short(show(p)), short(strconv.Quote(got)), e, short(strconv.Quote(want)), what)
	}
	checkRead(t, what, got, bare(p), true)
}

// checkPack holds all calls on p against the model, and Read of its text, whether that may be or not.
func checkPack(t *testing.T, what string, p api.Pack) bool {
	t.Helper()
	may := modelMay(p)
	check(t, what, p, may)
	// The lines of what may not be may be those of another one that may, where a name has a byte 10.
	checkText(t, what, modelLay(p))
	return may
}

func TestTheExample(t *testing.T) {
	s := "prefix /gnu\npolicy 1\nitem 00000000-a\nref 00000000-a\n"
	p, e := reg.Read(s)
	if e != api.OK || p.Prefix != "/gnu" || p.Policy != api.First || len(p.Items) != 1 || p.Items[0].Name != "00000000-a" || !slices.Equal(p.Items[0].Refs, []string{"00000000-a"}) || p.Items[0].Tree != nil || p.Profile != nil {
		t.Errorf("P11.1: Read of the example: %s, %d", show(p), e)
	}
	if got, e := reg.Lay(p); got != s || e != api.OK || !reg.May(p) {
		t.Errorf("P11.1: Lay of the example: %q, %d", got, e)
	}
}

func TestTexts(t *testing.T) {
	for _, x := range []struct {
		what string
		p    api.Pack
		want string
	}{
		{"no items", pack(0, nil), "prefix /gnu\npolicy 0\n"},
		{"no items, the other policy", pack(1, nil), "prefix /gnu\npolicy 1\n"},
		{"another prefix", api.Pack{Prefix: "/0a9z"}, "prefix /0a9z\npolicy 0\n"},
		{"the longest prefix", api.Pack{Prefix: "/" + text(15)}, "prefix /xxxxxxxxxxxxxxx\npolicy 0\n"},
		{"one item", pack(0, nil, linked(a)), "prefix /gnu\npolicy 0\nitem 00000000-a\n"},
		{"one item in the profile", pack(0, []string{a}, linked(a)), "prefix /gnu\npolicy 0\nitem 00000000-a\nprofile 00000000-a\n"},
		{"one item that refers to what is not there", pack(0, nil, linked(a, z)), "prefix /gnu\npolicy 0\nitem 00000000-a\nref zzzzzzzz-0\n"},
		{"one item that refers to two", pack(0, nil, linked(b, a, b)), "prefix /gnu\npolicy 0\nitem 0123456a-x\nref 00000000-a\nref 0123456a-x\n"},
		{"two items", pack(0, nil, linked(a), linked(b)), "prefix /gnu\npolicy 0\nitem 00000000-a\nitem 0123456a-x\n"},
		{"two items, the first one refers", pack(0, nil, linked(a, b), linked(b)), "prefix /gnu\npolicy 0\nitem 00000000-a\nref 0123456a-x\nitem 0123456a-x\n"},
		{"two items, the second one refers", pack(0, nil, linked(a), linked(b, a)), "prefix /gnu\npolicy 0\nitem 00000000-a\nitem 0123456a-x\nref 00000000-a\n"},
		{"two items of one hash", pack(0, nil, linked(a, a, a2), linked(a2)), "prefix /gnu\npolicy 0\nitem 00000000-a\nref 00000000-a\nref 00000000-b\nitem 00000000-b\n"},
		{"a profile without items", pack(1, []string{z}), "prefix /gnu\npolicy 1\nprofile zzzzzzzz-0\n"},
		{"a profile of what is not there", pack(1, []string{z}, linked(a)), "prefix /gnu\npolicy 1\nitem 00000000-a\nprofile zzzzzzzz-0\n"},
		{"a profile that falls", pack(1, []string{b, a}, linked(a), linked(b)), "prefix /gnu\npolicy 1\nitem 00000000-a\nitem 0123456a-x\nprofile 0123456a-x\nprofile 00000000-a\n"},
		{"a profile that names one twice", pack(1, []string{a, a}, linked(a, a)), "prefix /gnu\npolicy 1\nitem 00000000-a\nref 00000000-a\nprofile 00000000-a\nprofile 00000000-a\n"},
		{"one name of each kind", pack(0, []string{c}, linked(c, c)), "prefix /gnu\npolicy 0\nitem bcdfghij-gcc.lib_1+2-3\nref bcdfghij-gcc.lib_1+2-3\nprofile bcdfghij-gcc.lib_1+2-3\n"},
		{"the sample", sample(), "prefix /gnu\npolicy 1\nitem 00000000-a\nref 00000000-a\nref bcdfghij-gcc.lib_1+2-3\nref zzzzzzzz-0\nitem 0123456a-x\nitem bcdfghij-gcc.lib_1+2-3\nref 0123456a-x\nprofile 0123456a-x\nprofile 00000000-a\nprofile 0123456a-x\n"},
	} {
		if got, e := reg.Lay(x.p); got != x.want || e != api.OK {
			t.Errorf("P11.1: Lay of %s: %q, %d, not %q", x.what, got, e, x.want)
		}
		check(t, x.what, x.p, true)
		checkRead(t, x.what, x.want, x.p, true)
		if want, ok := modelRead(x.want); !ok || show(want) != show(x.p) || !modelMay(x.p) || modelLay(x.p) != x.want {
			t.Errorf("the model tells %s, %t of %s", show(want), ok, x.what)
		}
	}
	if sampleText != modelLay(sample()) {
		t.Error("the sample's text is another one")
	}
}

func TestTheGreatest(t *testing.T) {
	check(t, "as much as may be", full(), true)
	s, _ := reg.Lay(full())
	// The prefix, the policy, items, Refs, and the Profile, by their lines' bytes.
	if want := 24 + 9 + 8*36 + 64*35 + 8*39; len(s) != want || strings.Count(s, "\n") != 82 {
		t.Errorf("P11.1: the greatest text has %d bytes, not %d, and %d lines", len(s), want, strings.Count(s, "\n"))
	}
	for _, more := range []func(p *api.Pack){
		func(p *api.Pack) { p.Items = append(p.Items, linked(z)) },
		func(p *api.Pack) { p.Items[0].Refs = append(p.Items[0].Refs, z) },
		func(p *api.Pack) { p.Items[7].Refs = append(p.Items[7].Refs, z) },
		func(p *api.Pack) { p.Profile = append(p.Profile, z) },
		func(p *api.Pack) { p.Prefix += "x" },
		func(p *api.Pack) { p.Policy++ },
		func(p *api.Pack) { p.Items[7].Name += "x" },
		func(p *api.Pack) { p.Items[4].Refs[7] += "x" },
		func(p *api.Pack) { p.Profile[7] += "x" },
	} {
		p := full()
		more(&p)
		check(t, "one more than may be", p, false)
		checkRead(t, "one more than may be", modelLay(p), api.Pack{}, false)
	}
}

func TestPrefixes(t *testing.T) {
	for _, x := range []struct {
		prefix string
		may    bool
	}{
		{"/gnu", true}, {"/000", true}, {"/zzz", true}, {"/az09", true}, {"/" + text(3), true}, {"/" + text(14), true}, {"/" + text(15), true},
		{"", false}, {"/", false}, {"/x", false}, {"/xx", false}, {"/" + text(16), false}, {"/" + text(17), false}, {"gnu", false}, {"gnux", false}, {"//gnu", false}, {"/gnu/", false}, {"/gnu/store", false}, {"/g/u", false}, {"/Gnu", false}, {"/GNU", false}, {"/g-u", false}, {"/g.u", false}, {"/g_u", false}, {"/gn ", false}, {" /gnu", false}, {"/gnu ", false}, {"/gnu\n", false}, {"\n/gnu", false}, {"/gnu\npolicy 0", false}, {"/gnu\r", false}, {"/gn\x00", false}, {"/gn\xff", false}, {"/gn\u00e4", false}, {"\\gnu", false}, {"prefix /gnu", false},
	} {
		for _, p := range []api.Pack{{Prefix: x.prefix}, with(func(p *api.Pack) { p.Prefix = x.prefix })} {
			check(t, "a prefix", p, x.may)
			checkPack(t, "a prefix", p)
		}
	}
	for at := range 5 {
		for one := range 256 {
			checkPack(t, "each byte of a prefix", api.Pack{Prefix: "/gnux"[:at] + byteText(one) + "/gnux"[at+1:]})
		}
	}
}

func TestPolicies(t *testing.T) {
	for _, x := range []struct {
		policy int
		may    bool
	}{
		{0, true}, {1, true}, {-1, false}, {-2, false}, {2, false}, {3, false}, {10, false}, {11, false}, {100, false}, {255, false}, {256, false}, {257, false}, {1 << 16, false}, {1<<16 + 1, false}, {1 << 32, false}, {1<<32 + 1, false}, {math.MaxInt32, false}, {math.MinInt32, false}, {math.MaxInt, false}, {math.MinInt, false}, {math.MinInt + 1, false},
	} {
		for _, p := range []api.Pack{pack(x.policy, nil), with(func(p *api.Pack) { p.Policy = x.policy })} {
			check(t, "a policy", p, x.may)
			checkPack(t, "a policy", p)
		}
	}
	for policy := -300; policy < 300; policy++ {
		checkPack(t, "a policy", pack(policy, nil))
	}
}

func TestHowMany(t *testing.T) {
	for n := range 20 {
		all := names(n)
		check(t, "items", pack(0, nil, apart(all...)...), n <= 8)
		check(t, "a Profile", pack(0, all), n <= 8)
		check(t, "a Profile that falls", pack(0, turned(all)), n <= 8)
		check(t, "a Profile of one name", pack(0, slices.Repeat([]string{b}, n)), n <= 8)
		check(t, "Refs", pack(0, nil, linked(a, all...)), n <= 8)
		for at := range 8 {
			p := full()
			p.Items[at].Refs = all
			check(t, "Refs of one of many", p, n <= 8)
			checkPack(t, "Refs of one of many", p)
		}
	}
	// Each limit is asked of its own list, not of all of them together.
	check(t, "items and a Profile", pack(0, names(8), apart(names(8)...)...), true)
	check(t, "many Refs of few items", pack(0, nil, linked(a, names(8)...), linked(b, names(8)...)), true)
}

func TestNames(t *testing.T) {
	for _, x := range []struct {
		name string
		may  bool
	}{
		{a, true}, {a2, true}, {b, true}, {c, true}, {z, true}, {"00000000-0", true}, {"zzzzzzzz-z", true}, {"00000000-" + text(21), true}, {"00000000-x.+_-", true}, {"00000000-a-", true},
		{"", false}, {"?", false}, {" ", false}, {"\n", false}, {"00000000", false}, {"00000000-", false}, {"0000000-a", false}, {"000000000-a", false}, {"00000000a", false}, {"00000000_a", false}, {"0000000e-a", false}, {"0000000o-a", false}, {"0000000t-a", false}, {"0000000u-a", false}, {"0000000A-a", false}, {"00000000-.", false}, {"00000000-+a", false}, {"00000000-_a", false}, {"00000000--a", false}, {"00000000-A", false}, {"00000000-aB", false}, {"00000000-a/b", false}, {"00000000-a b", false}, {"00000000-" + text(22), false},
		{" " + a, false}, {a + " ", false}, {a + "\n", false}, {"\n" + a, false}, {a + "\r", false}, {a + "\x00", false}, {a + "\xff", false}, {a + "\u00e4", false}, {a + "\n" + b, false}, {a + "\nref " + a, false}, {a + "\nitem " + b, false}, {a + "\nprofile " + a, false}, {"item " + a, false}, {"ref " + a, false}, {"/" + a, false}, {"/gnu", false}, {"0", false},
	} {
		for what, p := range map[string]api.Pack{
			"a Name": pack(0, nil, linked(x.name)), "a Ref": pack(0, nil, linked(a, x.name)), "a name in a Profile": pack(0, []string{x.name}),
			"a Name with all else": pack(1, []string{a, z}, linked(x.name, a, b)), "a Ref of the last item": pack(1, []string{b}, linked(a), linked(b, x.name)), "a name at a Profile's end": pack(1, []string{b, x.name}, linked(b, a)), "a name at a Profile's beginning": pack(1, []string{x.name, b}, linked(b, a)),
		} {
			check(t, what, p, x.may)
			checkPack(t, what, p)
		}
	}
	for at := range len(b) {
		for one := range 256 {
			name := b[:at] + byteText(one) + b[at+1:]
			checkPack(t, "each byte of a Name", pack(0, nil, linked(name)))
			checkPack(t, "each byte of a Ref", pack(0, nil, linked(a, name)))
			checkPack(t, "each byte in a Profile", pack(0, []string{name}))
		}
	}
}

func TestNamesRise(t *testing.T) {
	for _, x := range []struct {
		names []string
		may   bool
	}{
		{nil, true}, {[]string{a}, true}, {[]string{a, b}, true}, {[]string{a, a2}, true}, {[]string{a, a2, b, c, z}, true}, {[]string{"00000000-a", "00000000-a+", "00000000-a-", "00000000-a.", "00000000-a0", "00000000-a_", "00000000-aa"}, true}, {[]string{"00000000-9", "00000000-a"}, true}, {[]string{"99999999-a", "aaaaaaaa-a"}, true},
		{[]string{b, a}, false}, {[]string{a2, a}, false}, {[]string{a, c, b}, false}, {[]string{b, a, c}, false}, {[]string{a, b, c, a}, false}, {[]string{c, b, a}, false}, {[]string{"00000000-aa", "00000000-a"}, false}, {[]string{"00000000-a", "00000000-9"}, false}, {[]string{"00000000-a.", "00000000-a-"}, false},
		{[]string{a, a}, false}, {[]string{a, a, b}, false}, {[]string{a, b, b}, false}, {[]string{a, b, a}, false}, {[]string{a, b, c, b}, false}, {[]string{a, a, a}, false}, {[]string{z, z}, false},
	} {
		check(t, "Names", pack(0, nil, apart(x.names...)...), x.may)
		check(t, "Refs", pack(0, nil, linked(b, x.names...)), x.may)
		check(t, "Refs of the last item", pack(1, []string{a}, linked(a, a, b), linked(b, x.names...)), x.may)
		check(t, "Refs of the first item", pack(1, []string{a}, linked(a, x.names...), linked(b, b, c)), x.may)
		check(t, "a Profile need not rise", pack(1, x.names, linked(a)), true)
	}
	// What one item refers to has nothing to do with what the others do, nor with Names.
	check(t, "Refs that fall from item to item", pack(0, nil, linked(a, z), linked(b, b, c), linked(c, a)), true)
	check(t, "the same Refs", pack(0, nil, linked(a, b), linked(b, b), linked(c, b)), true)
	for at := range 7 {
		for other := at + 1; other < 8; other++ {
			p := full()
			p.Items[at].Name, p.Items[other].Name = p.Items[other].Name, p.Items[at].Name
			check(t, "two Names have changed places", p, false)
			p = full()
			p.Items[at].Name = p.Items[other].Name
			check(t, "two Names are the same", p, false)
			p = full()
			p.Items[3].Refs[at] = p.Items[3].Refs[other]
			check(t, "two Refs are the same", p, false)
			p = full()
			p.Profile[at] = p.Profile[other]
			check(t, "two of a Profile are the same", p, true)
		}
	}
}

// trees are of any kind.
func trees() [][]api.Node {
	var many []api.Node
	for range 1000 {
		many = append(many, api.Node{Path: text(1000), Kind: 3, Data: text(1000)})
	}
	return [][]api.Node{
		nil, {}, {{Kind: api.Dir}}, {{Kind: api.File, Data: "x"}}, {{Kind: api.Dir}, {Path: "a", Kind: api.File, Data: "item " + a + "\n"}}, {{}}, {{Kind: 9}}, {{Kind: -1, Path: "//", Data: "\n"}}, {{Path: "b", Kind: 2}, {Path: "a", Kind: 1}}, {{Kind: api.Dir}, {Kind: api.Dir}}, {{Path: "", Kind: api.Link}}, many,
	}
}

func TestTreesAreNotLookedAt(t *testing.T) {
	for _, tree := range trees() {
		for at := range 3 {
			p := sample()
			p.Items[at].Tree = tree
			check(t, "a Tree", p, true)
			if s, e := reg.Lay(p); s != sampleText || e != api.OK {
				t.Errorf("P11.1: Lay hangs on a Tree: %q, %d", s, e)
			}
			p.Items[at].Name = "?"
			check(t, "a Tree of what may not be", p, false)
		}
	}
	got, _ := reg.Read(sampleText)
	for _, i := range got.Items {
		if i.Tree != nil {
			t.Errorf("P11.1: Read tells a Tree of %q", i.Name)
		}
	}
}

// lists are all lists of at most n of the pool's.
func lists(n int, pool ...string) [][]string {
	all := [][]string{nil}
	for from := 0; len(all[from]) < n; from++ {
		for _, one := range pool {
			all = append(all, append(slices.Clone(all[from]), one))
		}
	}
	return all
}

func TestAllSmallPacks(t *testing.T) {
	may := 0
	for _, held := range lists(3, a, b, z, "?") {
		for _, refs := range lists(2, a, b, "?") {
			for _, profile := range lists(2, b, a, "?") {
				for policy := -1; policy < 3; policy++ {
					items := apart(held...)
					for at := range items {
						if at != 1 {
							items[at].Refs = refs
						}
					}
					if checkPack(t, "small", pack(policy, profile, items...)) {
						may++
					}
				}
			}
		}
		if t.Failed() {
			return
		}
	}
	// Two policies; 8 rising lists of items, one of them none, which refers to nothing; 4 rising lists of Refs; 7 Profiles. Of no items the 13 lists of Refs make no difference.
	if want := 2 * (7*4 + 13) * 7; may != want {
		t.Errorf("%d small packs may be, not %d", may, want)
	}
}

func TestTwoFaults(t *testing.T) {
	faults := []func(p *api.Pack){
		func(p *api.Pack) { p.Prefix = "" }, func(p *api.Pack) { p.Policy = 2 }, func(p *api.Pack) { p.Items[0].Name = "" }, func(p *api.Pack) { p.Items[2].Name = a }, func(p *api.Pack) { p.Items[1].Refs = []string{"?"} }, func(p *api.Pack) { p.Items[2].Refs = []string{b, a} }, func(p *api.Pack) { p.Items = append(p.Items, apart(names(9)...)...) }, func(p *api.Pack) { p.Items[0].Refs = names(9) }, func(p *api.Pack) { p.Profile[2] = "" }, func(p *api.Pack) { p.Profile = names(9) },
	}
	for _, one := range faults {
		check(t, "one fault", with(one), false)
		for _, other := range faults {
			check(t, "two faults", with(func(p *api.Pack) { one(p); other(p) }), false)
		}
	}
}

func TestTextsThatAreNone(t *testing.T) {
	const head = "prefix /gnu\npolicy 0\n"
	for _, x := range []struct{ what, s string }{
		{"empty", ""}, {"a line's end", "\n"}, {"two", "\n\n"}, {"a blank", " "}, {"letters", "hogshead"}, {"a zero byte", "\x00"},
		{"the prefix alone", "prefix /gnu\n"}, {"the policy alone", "policy 0\n"}, {"no prefix", "policy 0\nitem " + a + "\n"}, {"no policy", "prefix /gnu\nitem " + a + "\n"}, {"an item alone", "item " + a + "\n"}, {"a profile alone", "profile " + a + "\n"}, {"a ref alone", "ref " + a + "\n"},
		{"the prefix twice", "prefix /gnu\nprefix /gnu\npolicy 0\n"}, {"two prefixes", "prefix /gnu\nprefix /hurd\npolicy 0\n"}, {"the prefix again at the end", head + "prefix /gnu\n"}, {"the policy twice", head + "policy 0\n"}, {"two policies", head + "policy 1\n"}, {"all twice", head + head}, {"the policy ahead", "policy 0\nprefix /gnu\n"}, {"the policy behind", "prefix /gnu\nitem " + a + "\npolicy 0\n"}, {"the prefix behind", "policy 0\nitem " + a + "\nprefix /gnu\n"},
		{"a ref ahead of items", head + "ref " + a + "\nitem " + a + "\n"}, {"a ref without items", head + "ref " + a + "\n"}, {"a ref between the first two", "prefix /gnu\nref " + a + "\npolicy 0\nitem " + a + "\n"}, {"a ref behind the profile", head + "item " + a + "\nprofile " + a + "\nref " + a + "\n"}, {"an item behind the profile", head + "profile " + a + "\nitem " + a + "\n"}, {"an item ahead of all", "item " + a + "\n" + head}, {"a profile ahead of all", "profile " + a + "\n" + head}, {"a profile between items", head + "item " + a + "\nprofile " + a + "\nitem " + b + "\n"}, {"a profile between an item and its ref", head + "item " + a + "\nprofile " + a + "\nref " + b + "\n"},
		{"no byte 10 at the end", "prefix /gnu\npolicy 0"}, {"no byte 10 behind an item", head + "item " + a}, {"no byte 10 behind a profile", head + "profile " + a}, {"a second byte 10", head + "\n"}, {"a second byte 10 behind an item", head + "item " + a + "\n\n"}, {"a byte 10 ahead", "\n" + head}, {"a byte 10 between", "prefix /gnu\n\npolicy 0\n"}, {"only one line", "prefix /gnu policy 0\n"}, {"byte 13 too", "prefix /gnu\r\npolicy 0\r\n"}, {"byte 13 alone", "prefix /gnu\rpolicy 0\r"}, {"a zero byte for byte 10", "prefix /gnu\x00policy 0\x00"}, {"a zero byte behind", head + "\x00"}, {"a blank behind", head + " "}, {"a letter behind", head + "x"}, {"a comment", head + "# \n"}, {"a byte order mark", "\ufeff" + head},
		{"an empty prefix", "prefix \npolicy 0\n"}, {"no word behind prefix", "prefix\npolicy 0\n"}, {"no blank behind prefix", "prefix/gnu\npolicy 0\n"}, {"two blanks behind prefix", "prefix  /gnu\npolicy 0\n"}, {"a blank behind the prefix", "prefix /gnu \npolicy 0\n"}, {"a blank ahead of prefix", " prefix /gnu\npolicy 0\n"}, {"a tabulator", "prefix\t/gnu\npolicy 0\n"}, {"a word more", "prefix /gnu /gnu\npolicy 0\n"}, {"prefix in great letters", "PREFIX /gnu\npolicy 0\n"}, {"prefix with a great letter", "Prefix /gnu\npolicy 0\n"}, {"prefix with a colon", "prefix: /gnu\npolicy 0\n"}, {"prefix with an equals sign", "prefix=/gnu\npolicy 0\n"}, {"a prefix that is none", "prefix gnu\npolicy 0\n"}, {"a prefix too short", "prefix /gn\npolicy 0\n"}, {"a prefix too long", "prefix /" + text(16) + "\npolicy 0\n"}, {"a prefix in quotes", "prefix \"/gnu\"\npolicy 0\n"},
		{"policy 2", "prefix /gnu\npolicy 2\n"}, {"policy 10", "prefix /gnu\npolicy 10\n"}, {"policy -1", "prefix /gnu\npolicy -1\n"}, {"policy -0", "prefix /gnu\npolicy -0\n"}, {"policy +0", "prefix /gnu\npolicy +0\n"}, {"policy +1", "prefix /gnu\npolicy +1\n"}, {"policy 00", "prefix /gnu\npolicy 00\n"}, {"policy 01", "prefix /gnu\npolicy 01\n"}, {"policy 0x0", "prefix /gnu\npolicy 0x0\n"}, {"policy 0x1", "prefix /gnu\npolicy 0x1\n"}, {"policy 0b1", "prefix /gnu\npolicy 0b1\n"}, {"policy 0_0", "prefix /gnu\npolicy 0_0\n"}, {"policy 0.0", "prefix /gnu\npolicy 0.0\n"}, {"policy 1e0", "prefix /gnu\npolicy 1e0\n"}, {"policy 1.", "prefix /gnu\npolicy 1.\n"}, {"policy refuse", "prefix /gnu\npolicy refuse\n"}, {"policy first", "prefix /gnu\npolicy first\n"}, {"policy Refuse", "prefix /gnu\npolicy Refuse\n"}, {"policy false", "prefix /gnu\npolicy false\n"}, {"policy empty", "prefix /gnu\npolicy \n"}, {"policy without a word", "prefix /gnu\npolicy\n"}, {"policy without a blank", "prefix /gnu\npolicy0\n"}, {"policy with two blanks", "prefix /gnu\npolicy  0\n"}, {"policy with a blank behind", "prefix /gnu\npolicy 0 \n"}, {"a blank ahead of policy", "prefix /gnu\n policy 0\n"}, {"two numbers", "prefix /gnu\npolicy 0 0\n"}, {"a great number", "prefix /gnu\npolicy 18446744073709551616\n"}, {"another great number", "prefix /gnu\npolicy 18446744073709551617\n"}, {"another one", "prefix /gnu\npolicy 4294967296\n"}, {"a digit of another writing", "prefix /gnu\npolicy \u0661\n"}, {"a wide digit", "prefix /gnu\npolicy \uff11\n"}, {"Policy", "prefix /gnu\nPolicy 0\n"}, {"a letter of another writing", "prefix /gnu\npolic\u0443 0\n"},
		{"an item that is none", head + "item 00000000\n"}, {"an item without a name", head + "item \n"}, {"item alone", head + "item\n"}, {"item with two blanks", head + "item  " + a + "\n"}, {"item with a blank behind", head + "item " + a + " \n"}, {"a blank ahead of item", head + " item " + a + "\n"}, {"two names in a line", head + "item " + a + " " + b + "\n"}, {"a name without item", head + a + "\n"}, {"Item", head + "Item " + a + "\n"}, {"items", head + "items " + a + "\n"}, {"tem", head + "tem " + a + "\n"}, {"ite", head + "ite " + a + "\n"}, {"items that fall", head + "item " + b + "\nitem " + a + "\n"}, {"an item twice", head + "item " + a + "\nitem " + a + "\n"}, {"an item twice, apart", head + "item " + a + "\nref " + a + "\nitem " + a + "\n"}, {"an item under its prefix", head + "item /gnu/" + a + "\n"},
		{"a ref that is none", head + "item " + a + "\nref 00000000\n"}, {"a ref without a name", head + "item " + a + "\nref \n"}, {"ref alone", head + "item " + a + "\nref\n"}, {"ref with two blanks", head + "item " + a + "\nref  " + a + "\n"}, {"a ref with a blank behind", head + "item " + a + "\nref " + a + " \n"}, {"two refs in a line", head + "item " + a + "\nref " + a + " " + b + "\n"}, {"Ref", head + "item " + a + "\nRef " + a + "\n"}, {"refs", head + "item " + a + "\nrefs " + a + "\n"}, {"refs that fall", head + "item " + a + "\nref " + b + "\nref " + a + "\n"}, {"a ref twice", head + "item " + a + "\nref " + b + "\nref " + b + "\n"}, {"a line between refs", head + "item " + a + "\nref " + a + "\n\nref " + b + "\n"},
		{"a profile that is none", head + "profile 00000000\n"}, {"a profile without a name", head + "profile \n"}, {"profile alone", head + "profile\n"}, {"profile with two blanks", head + "profile  " + a + "\n"}, {"a profile with a blank behind", head + "profile " + a + " \n"}, {"two in a line", head + "profile " + a + " " + b + "\n"}, {"Profile", head + "Profile " + a + "\n"}, {"profiles", head + "profiles " + a + "\n"}, {"a profile of the prefix", head + "profile /gnu\n"},
		{"a line of another kind", head + "tree x\n"}, {"a line of another kind ahead", "version 1\n" + head}, {"another kind between", "prefix /gnu\nname x\npolicy 0\n"}, {"two kinds in one line", head + "item ref " + a + "\n"}, {"a kind twice in a line", head + "item item " + a + "\n"}, {"a kind behind", head + a + " item\n"},
	} {
		checkRead(t, x.what, x.s, api.Pack{}, false)
		if _, ok := modelRead(x.s); ok {
			t.Errorf("the model reads %s", x.what)
		}
	}
	checkRead(t, "the head alone", head, pack(0, nil), true)
}

// somePacks are packs that may be, from the least on.
func somePacks() []api.Pack {
	return []api.Pack{pack(0, nil), pack(1, nil, linked(a)), pack(0, []string{a}), pack(0, []string{a, a}, linked(a, a), linked(b)), sample()}
}

func TestEachByteIsAnotherOne(t *testing.T) {
	for _, p := range somePacks() {
		s := modelLay(p)
		may := 0
		for at := range len(s) {
			for one := range 256 {
				if checkText(t, "a byte is another one", s[:at]+byteText(one)+s[at+1:]) {
					may++
				}
				checkText(t, "a byte more", s[:at]+byteText(one)+s[at:])
			}
			checkText(t, "a byte is left out", s[:at]+s[at+1:])
			checkText(t, "a byte stands twice", s[:at+1]+s[at:])
			checkText(t, "a byte is a blank", s[:at]+"  "+s[at+1:])
			if t.Failed() {
				return
			}
		}
		if may < len(s) || may == 256*len(s) {
			t.Errorf("%d of the changed texts may be", may)
		}
		for one := range 256 {
			checkRead(t, "a byte behind", s+byteText(one), api.Pack{}, false)
			checkRead(t, "a byte ahead", byteText(one)+s, api.Pack{}, false)
		}
	}
}

func TestCutShort(t *testing.T) {
	for _, p := range append(somePacks(), full()) {
		s := modelLay(p)
		for at := range len(s) {
			checkText(t, "cut short behind", s[:at])
			checkText(t, "cut short ahead", s[at:])
			checkText(t, "round about", s[at:]+s[:at])
		}
		for from := range min(len(s), 120) {
			for to := from; to < min(len(s), 120); to++ {
				checkText(t, "a piece left out", s[:from]+s[to:])
				checkText(t, "a piece twice", s[:to]+s[from:])
			}
		}
		if t.Failed() {
			return
		}
	}
}

func TestLinesLeftOutTwiceAndElsewhere(t *testing.T) {
	for _, p := range append(somePacks(), full()) {
		lines := strings.SplitAfter(modelLay(p), "\n")
		lines = lines[:len(lines)-1]
		for at := range lines {
			checkText(t, "a line left out", strings.Join(slices.Delete(slices.Clone(lines), at, at+1), ""))
			for to := range lines {
				checkText(t, "a line twice", strings.Join(slices.Insert(slices.Clone(lines), to, lines[at]), ""))
				moved := slices.Insert(slices.Delete(slices.Clone(lines), at, at+1), to, lines[at])
				checkText(t, "a line elsewhere", strings.Join(moved, ""))
				swapped := slices.Clone(lines)
				swapped[at], swapped[to] = swapped[to], swapped[at]
				checkText(t, "two lines have changed places", strings.Join(swapped, ""))
				copied := slices.Clone(lines)
				copied[at] = lines[to]
				checkText(t, "a line instead of another one", strings.Join(copied, ""))
			}
			for _, other := range []string{"\n", " \n", "x\n", "item " + a2 + "\n", "ref " + a2 + "\n", "profile " + a2 + "\n", "policy 0\n", "prefix /hurd\n", lines[at][:len(lines[at])-1] + " \n", " " + lines[at], lines[at] + lines[at]} {
				for _, cut := range []int{at, at + 1} {
					checkText(t, "another line", strings.Join(lines[:at], "")+other+strings.Join(lines[cut:], ""))
				}
			}
			if t.Failed() {
				return
			}
		}
	}
}

func TestAllShortTextsOfLines(t *testing.T) {
	const n = 6
	pool := []string{"prefix /gnu\n", "policy 1\n", "item " + a + "\n", "item " + b + "\n", "ref " + a + "\n", "ref " + b + "\n", "profile " + b + "\n"}
	may, all := 0, 0
	for _, lines := range lists(n, pool...) {
		s := strings.Join(lines, "")
		want, ok := modelRead(s)
		if ok {
			may++
			checkRead(t, "short", s, want, ok)
		} else if got, e := reg.Read(s); e != api.ErrForm || !reflect.DeepEqual(got, api.Pack{}) {
			checkRead(t, "short", s, want, ok)
		}
		all++
		if t.Failed() {
			return
		}
	}
	// Behind the two lines that all have, items with their Refs may take 0 to 4 lines in 1, 2, 5, 6, 6 ways, and of the profile there are as many as there is room: 5*1 + 4*2 + 3*5 + 2*6 + 1*6.
	if may != 46 {
		t.Errorf("%d of %d short texts may be", may, all)
	}
}

func TestVeryLongTexts(t *testing.T) {
	const n = 1 << 24
	head := "prefix /gnu\npolicy 0\n"
	for what, s := range map[string]string{
		"letters": text(n), "line ends": strings.Repeat("\n", n), "blanks": strings.Repeat(" ", n), "zero bytes": strings.Repeat("\x00", n), "no letters": strings.Repeat("\xff", n), "the sample again and again": strings.Repeat(sampleText, n/len(sampleText)),
		"a long prefix": "prefix /" + text(n) + "\npolicy 0\n", "a long policy": "prefix /gnu\npolicy " + strings.Repeat("1", n) + "\n", "a policy with zeros ahead": "prefix /gnu\npolicy " + strings.Repeat("0", n) + "1\n", "a policy of letters": "prefix /gnu\npolicy " + text(n) + "\n", "a policy with underscores": "prefix /gnu\npolicy " + strings.Repeat("1_", n/2) + "\n", "a long item": head + "item 00000000-" + text(n) + "\n", "a long ref": head + "item " + a + "\nref 00000000-" + text(n) + "\n", "a long profile": head + "profile 00000000-" + text(n) + "\n", "a long word": head + text(n) + " " + a + "\n",
		"prefixes": strings.Repeat("prefix /gnu\n", n/12) + "policy 0\n", "policies": head + strings.Repeat("policy 0\n", n/9), "items": head + strings.Repeat("item "+a+"\n", n/16), "refs": head + "item " + a + "\n" + strings.Repeat("ref "+a+"\n", n/15), "refs without an item": head + strings.Repeat("ref "+a+"\n", n/15), "a profile": head + strings.Repeat("profile "+a+"\n", n/19), "line ends behind": sampleText + strings.Repeat("\n", n), "letters behind": sampleText + text(n), "blanks ahead": strings.Repeat(" ", n) + sampleText, "words": strings.Repeat("item ", n/5), "words in lines": strings.Repeat("item \n", n/6),
	} {
		if got, e := reg.Read(s); e != api.ErrForm || !reflect.DeepEqual(got, api.Pack{}) {
			t.Errorf("P11.1: Read of %s: %d, %s", what, e, short(show(got)))
		}
	}
}

func TestVeryGreatPacks(t *testing.T) {
	const n = 1 << 20
	huge := text(1 << 24)
	for what, p := range map[string]api.Pack{
		"a long prefix": {Prefix: "/" + huge}, "a long Name": pack(0, nil, linked("00000000-"+huge)), "a long Ref": pack(0, nil, linked(a, "00000000-"+huge)), "a long name in a Profile": pack(0, []string{"00000000-" + huge}), "all long": {Prefix: huge, Policy: math.MaxInt, Items: apart(huge, huge), Profile: []string{huge, huge}},
		"very many items": pack(0, nil, make([]api.Item, n)...), "very many Refs": pack(0, nil, linked(a, make([]string, n)...)), "a very long Profile": pack(0, slices.Repeat([]string{a}, n)), "very many items that may be": pack(0, nil, apart(names(n)...)...), "very many Refs that may be": pack(0, nil, linked(a, names(n)...)),
	} {
		for range 3 {
			if s, e := reg.Lay(p); reg.May(p) || s != "" || e != api.ErrArg {
				t.Errorf("P11.1: Lay of %s: %d", what, e)
			}
		}
	}
}

// roomy tells a list with spare room that holds other things, and whether anything of both is changed, whenever that is asked.
func roomy[T any](given []T, room T) ([]T, func() bool) {
	all := append(append([]T{}, given...), room, room, room, room)
	kept := append([]T{}, all...)
	return all[:len(given)], func() bool { return !reflect.DeepEqual(all, kept) }
}

// roomyPack is a pack all of whose lists have spare room, and whether anything is changed, whenever that is asked.
func roomyPack(p api.Pack) (api.Pack, func() bool) {
	var asks []func() bool
	var own []api.Item
	for _, i := range p.Items {
		refs, refsChanged := roomy(i.Refs, c)
		nodes, nodesChanged := roomy(i.Tree, api.Node{Path: "zz", Kind: api.File})
		own = append(own, api.Item{Name: i.Name, Refs: refs, Tree: nodes})
		asks = append(asks, refsChanged, nodesChanged)
	}
	items, itemsChanged := roomy(own, linked(z, a))
	profile, profileChanged := roomy(p.Profile, c)
	asks = append(asks, itemsChanged, profileChanged)
	all := api.Pack{Prefix: p.Prefix, Policy: p.Policy, Items: items, Profile: profile}
	return all, func() bool { return slices.ContainsFunc(asks, func(changed func() bool) bool { return changed() }) }
}

// strange are packs that may be, and some that may not.
func strange() map[string]api.Pack {
	return map[string]api.Pack{
		"none": {}, "the least": pack(0, nil), "the sample": sample(), "the greatest": full(), "no prefix": with(func(p *api.Pack) { p.Prefix = "" }), "another policy": with(func(p *api.Pack) { p.Policy = -7 }), "items that fall": with(func(p *api.Pack) { slices.Reverse(p.Items) }), "an item twice": with(func(p *api.Pack) { p.Items[1] = p.Items[0] }), "Refs that fall": with(func(p *api.Pack) { slices.Reverse(p.Items[0].Refs) }), "items that are none": pack(0, nil, make([]api.Item, 3)...), "too many items": pack(0, nil, apart(names(9)...)...), "too many Refs": pack(0, nil, linked(a, names(9)...)), "too long a Profile": pack(0, names(9)), "a Profile that is none": pack(0, []string{"", "?", "\n"}), "Trees": with(func(p *api.Pack) { p.Items[0].Tree, p.Items[2].Tree = trees()[4], trees()[7] }),
	}
}

func TestWhatIsHandedInStays(t *testing.T) {
	for what, given := range strange() {
		p, changed := roomyPack(given)
		for range 3 {
			may := checkPack(t, what, p)
			got, e := reg.Lay(p)
			if want, wantError := reg.Lay(given); reg.May(p) != may || reg.May(given) != may || got != want || e != wantError {
				t.Errorf("R5: %s hangs on spare room: %q, %d", what, got, e)
			}
			if changed() {
				t.Errorf("R4: what is handed in of %s is changed, or its room", what)
			}
		}
	}
}

// spoil changes all that a list holds, and its room too.
func spoil[T any](all []T, by T) {
	for at := range all[:cap(all)] {
		all[:cap(all)][at] = by
	}
}

// spoilPack changes all that a pack's lists hold, and their room too.
func spoilPack(p api.Pack) {
	for _, i := range p.Items {
		spoil(i.Refs, "spoilt")
	}
	spoil(p.Items, linked("spoilt", "spoilt"))
	spoil(p.Profile, "spoilt")
}

func TestReadSharesNothing(t *testing.T) {
	for _, want := range append(somePacks(), full()) {
		s := modelLay(want)
		first, _ := reg.Read(s)
		second, _ := reg.Read(s)
		spoilPack(first)
		if show(second) != show(want) {
			t.Errorf("R4: two answers of Read share memory: %s", short(show(second)))
		}
		if third, e := reg.Read(s); e != api.OK || show(third) != show(want) {
			t.Errorf("R5: Read hangs on what was done to an answer: %s", short(show(third)))
		}
		// A list whose room is filled must not reach into another one.
		for at := range second.Items {
			got, _ := reg.Read(s)
			spoil(got.Items[at].Refs, "spoilt")
			got.Items[at].Refs = want.Items[at].Refs
			if show(got) != show(want) {
				t.Errorf("R4: the Refs of item %d share memory with another list: %s", at, short(show(got)))
			}
		}
		got, _ := reg.Read(s)
		spoil(got.Profile, "spoilt")
		got.Profile = want.Profile
		if show(got) != show(want) {
			t.Errorf("R4: the Profile shares memory with another list: %s", short(show(got)))
		}
		got, _ = reg.Read(s)
		kept := copied(got)
		spoil(got.Items, linked("spoilt"))
		got.Items = kept.Items
		if show(got) != show(want) {
			t.Errorf("R4: Items share memory with another list: %s", short(show(got)))
		}
	}
}

func TestLayKeepsNothing(t *testing.T) {
	p := copied(sample())
	first, e := reg.Lay(p)
	spoilPack(p)
	if first != sampleText || e != api.OK {
		t.Errorf("R4: Lay's answer changes with what was handed in: %q, %d", first, e)
	}
	check(t, "what was handed in is spoilt", p, false)
	check(t, "the same again", sample(), true)
}

func TestAnswersHangOnNothingElse(t *testing.T) {
	texts := []string{"", sampleText, sampleText + "\n", "prefix /gnu\n", "policy 1\nprefix /gnu\n", modelLay(full()), "prefix /gnu\npolicy 1\nitem " + a + "\nref ?\n"}
	for range 20 {
		for what, p := range strange() {
			checkPack(t, what, p)
			for _, s := range texts {
				checkText(t, what, s)
			}
		}
	}
}

func TestFromSeveralGoroutines(t *testing.T) {
	p, changed := roomyPack(sample())
	var group sync.WaitGroup
	for range 8 {
		group.Go(func() {
			for range 200 {
				s, e := reg.Lay(p)
				got, read := reg.Read(sampleText)
				wrong, none := reg.Read(sampleText[1:])
				if !reg.May(p) || s != sampleText || e != api.OK || read != api.OK || show(got) != show(sample()) || none != api.ErrForm || wrong.Items != nil {
					t.Error("R5: calls at one time")
				}
				spoilPack(got)
			}
		})
	}
	group.Wait()
	if changed() {
		t.Error("R4: what was handed in is changed")
	}
}

func FuzzRead(f *testing.F) {
	for _, p := range append(somePacks(), full()) {
		f.Add(modelLay(p))
	}
	f.Add("")
	f.Add("prefix /gnu\npolicy 0\nref " + a + "\n")
	f.Fuzz(func(t *testing.T, s string) { checkText(t, "fuzzed", s) })
}

func FuzzLay(f *testing.F) {
	f.Add("/gnu", 0, a, b, a, b)
	f.Add("/gnu", 1, b, a, a, a)
	f.Add("gnu", 2, "", "?", a, "\n")
	f.Fuzz(func(t *testing.T, prefix string, policy int, one, two, ref, shown string) {
		for _, p := range []api.Pack{
			{Prefix: prefix, Policy: policy, Items: []api.Item{linked(one, ref), linked(two)}, Profile: []string{shown}},
			{Prefix: prefix, Policy: policy, Items: []api.Item{linked(one), linked(two, ref, shown)}},
			{Prefix: prefix, Policy: policy, Profile: []string{one, two, ref, shown}},
			{Prefix: prefix, Policy: policy, Items: []api.Item{linked(a, one, two, ref, shown)}},
		} {
			checkPack(t, "fuzzed", p)
		}
	})
}
