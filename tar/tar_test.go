package tar_test

import (
	stdtar "archive/tar"
	"bytes"
	"fmt"
	"go/parser"
	"go/token"
	"io"
	"math"
	"os"
	"slices"
	"strconv"
	"strings"
	"sync"
	"testing"

	"hogshead/api"
	"hogshead/head"
	"hogshead/tar"
)

func dir(p string) api.Node { return api.Node{Path: p, Kind: api.Dir} }

func file(p, data string) api.Node { return api.Node{Path: p, Kind: api.File, Data: data} }

func exec(p, data string) api.Node { return api.Node{Path: p, Kind: api.Exec, Data: data} }

func link(p, data string) api.Node { return api.Node{Path: p, Kind: api.Link, Data: data} }

// text makes n bytes that may stand anywhere.
func text(n int) string { return strings.Repeat("x", n) }

// counted makes n bytes of which no two that are near each other are the same.
func counted(n int) string {
	return strings.Repeat("abcdefghijklmnopqrstuvwxyz0123456789_", n/37+1)[:n]
}

// zeros makes n bytes 0.
func zeros(n int) string { return strings.Repeat("\x00", n) }

// byteText is the text of one byte, which may be no letter.
func byteText(b int) string { return string([]byte{byte(b)}) }

// show tells the first few nodes, for a message.
func show(nodes []api.Node) string {
	var out strings.Builder
	for _, n := range nodes[:min(len(nodes), 6)] {
		fmt.Fprintf(&out, " {%.40q %d %.20q}", n.Path, n.Kind, n.Data)
	}
	return strconv.Itoa(len(nodes)) + " nodes" + out.String()
}

// housed makes a tree of the root, the node, and the Dirs above it, each part of whose path is a Dir's.
func housed(n api.Node) []api.Node {
	t := []api.Node{dir("")}
	for at := range n.Path {
		if n.Path[at] == '/' {
			t = append(t, dir(n.Path[:at]))
		}
	}
	return append(t, n)
}

// long makes a path of n bytes in parts of at most 60.
func long(n int) string {
	var parts []string
	for n > 60 {
		size := min(60, n-2)
		parts = append(parts, counted(size))
		n -= size + 1
	}
	return strings.Join(append(parts, counted(n)), "/")
}

// deep makes a path of n parts.
func deep(n int) string { return strings.TrimSuffix(strings.Repeat("d/", n), "/") }

// flat makes a tree of n nodes: the root, and files in it.
func flat(n int) []api.Node {
	t := []api.Node{dir("")}
	for i := 1; i < n; i++ {
		t = append(t, file("f"+strconv.Itoa(10000000+i), strconv.Itoa(i)))
	}
	return t
}

// greatest makes a tree of as many nodes as there may be, nearly all with a path and Data of as many bytes as there may be.
func greatest(kind int) []api.Node {
	up := counted(60) + "/" + counted(60) + "/" + counted(60)
	t := housed(dir(up))
	for i := len(t); i < api.MaxNodes; i++ {
		name := strconv.Itoa(1000 + i)
		t = append(t, api.Node{Path: up + "/" + name + counted(api.MaxPath-len(up)-1-len(name)), Kind: kind, Data: strings.Repeat(name, api.MaxData/len(name))})
	}
	return t
}

// small is a tree with a node of each kind.
func small() []api.Node {
	return []api.Node{dir(""), file("a", "12"), dir("d"), exec("d/run", "#!"), link("l", "d/run")}
}

// sample is a tree with all kinds, and what asks for entries ahead, and what does not.
func sample() []api.Node {
	t := []api.Node{
		dir(""), dir("a"), file("a-", ""), link("a.x", "../a"), exec("a/b", "\x00\xff"), dir("a/c"), link("a/c/l", counted(400)), exec("b", text(101)), file("c", zeros(400)), link("d", counted(100)), link("e", counted(101)),
		dir(counted(60)), dir(counted(60) + "/" + counted(39)), file(counted(60)+"/"+counted(39)+"/x", "of 102 bytes"), file(counted(60)+"/"+counted(40), "of 101 bytes"), link(counted(60)+"/"+counted(50), counted(300)), dir("pax"), file("pax/pax", "30 path=pax\n"), dir("\xff"), file("\xff/\x01", "z\x00"),
	}
	slices.SortFunc(t, func(a, b api.Node) int { return strings.Compare(a.Path, b.Path) })
	return t
}

// trees are trees of many forms, the least and the greatest among them.
func trees() [][]api.Node {
	return [][]api.Node{
		{dir("")}, {file("", "")}, {file("", "x")}, {exec("", "")}, {exec("", text(api.MaxData))}, {file("", text(api.MaxData))}, {link("", "a")}, {link("", ".")}, {link("", text(100))}, {link("", text(101))}, {link("", text(api.MaxData))},
		small(), sample(), housed(dir(deep(api.MaxDepth))), housed(file(deep(api.MaxDepth), "")), housed(dir(long(api.MaxPath))), housed(link(long(api.MaxPath), text(api.MaxData))),
		flat(2), flat(api.MaxNodes - 1), flat(api.MaxNodes), greatest(api.File), greatest(api.Exec), greatest(api.Link),
	}
}

// noTrees are lists that are none.
func noTrees() [][]api.Node {
	root := dir("")
	return [][]api.Node{
		nil, {}, make([]api.Node, 0, 3), {{}}, {{Kind: 5}}, {{Kind: -1}}, {{Kind: api.Dir, Data: "x"}}, {link("", "")}, {dir("a")}, {file("a", "")}, {dir("a"), root}, {root, root}, {file("", ""), file("a", "")}, {link("", "x"), dir("a")},
		{root, file("b", ""), file("a", "")}, {root, file("a", ""), file("a", "")}, {root, file("a/b", "")}, {root, file("a/b", ""), dir("a")}, {root, file("a", ""), file("a/b", "")}, {root, exec("a", ""), file("a/b", "")}, {root, link("a", "b"), dir("a/b")},
		{root, link("a", "")}, {root, link("a", "x\x00")}, {root, link("a", text(401))}, {root, file("a", text(401))}, {root, exec("a", text(401))}, {root, {Path: "a", Kind: api.Dir, Data: "x"}}, {root, {Path: "a"}}, {root, {Path: "pax", Kind: head.Extra, Data: "11 path=ab\n"}},
		{root, {Path: "a", Kind: 1<<32 + 1}}, {root, {Path: "a", Kind: 1<<8 + 1}}, {root, {Path: "a", Kind: math.MinInt + 1}}, {root, {Path: "a", Kind: math.MaxInt}}, {root, {Path: "a", Kind: math.MinInt}}, {root, {Path: "a", Kind: '5'}}, {root, {Path: "a", Kind: '0'}},
		{dir(".")}, {root, dir(".")}, {root, dir("a/")}, {root, dir("/a")}, {root, dir("..")}, {root, dir("a"), file("a/..", "")}, {root, dir(".wh.a")}, {root, dir("a\x00")}, {root, dir(text(61))}, housed(dir(deep(11))), housed(dir(long(200) + "x")), housed(file(long(150)+"/"+text(50), "")),
		flat(api.MaxNodes + 1), flat(2 * api.MaxNodes), append(greatest(api.Link), dir("~")), small()[1:], append(sample(), dir("")), append(sample(), sample()...), flat(1 << 20),
	}
}

// modelPath says by the words of chapter 1 which paths may be.
func modelPath(p string) bool {
	if p == "" {
		return true
	}
	parts := strings.Split(p, "/")
	for _, s := range parts {
		if s == "" || s == "." || s == ".." || strings.HasPrefix(s, ".wh.") || len(s) > 60 || strings.Contains(s, "\x00") {
			return false
		}
	}
	return len(p) <= 200 && len(parts) <= 10
}

// modelMay says by the words of chapter 2 which nodes are a tree.
func modelMay(t []api.Node) bool {
	if len(t) == 0 || len(t) > 400 || t[0].Path != "" {
		return false
	}
	dirs := map[string]bool{}
	for i, n := range t {
		up := n.Path[:max(0, strings.LastIndex(n.Path, "/"))]
		if !modelPath(n.Path) || i > 0 && (n.Path <= t[i-1].Path || !dirs[up]) {
			return false
		}
		switch size := len(n.Data); n.Kind {
		case 1:
			if size > 0 {
				return false
			}
			dirs[n.Path] = true
		case 2, 3:
			if size > 400 {
				return false
			}
		case 4:
			if size == 0 || size > 400 || strings.Contains(n.Data, "\x00") {
				return false
			}
		default:
			return false
		}
	}
	return true
}

// modelRecord tries all lengths from one on that is too short.
func modelRecord(key, value string) string {
	for n := len(key) + len(value); ; n++ {
		if s := fmt.Sprintf("%d %s=%s\n", n, key, value); len(s) == n {
			return s
		}
	}
}

// modelHeader says by the words of chapter 12 what stands in a header.
func modelHeader(name, mode, sign string, size int, link string) string {
	s := name + zeros(100-len(name)) + mode + "\x000000000\x000000000\x00" + fmt.Sprintf("%011o", size) + "\x0000000000000\x00"
	rest := sign + link + zeros(100-len(link)) + "ustar\x0000" + zeros(247)
	sum := 8 * int(' ')
	for _, b := range []byte(s + rest) {
		sum += int(b)
	}
	return s + fmt.Sprintf("%06o\x00 ", sum) + rest
}

// modelFilled is the bytes with those behind them.
func modelFilled(s string) string {
	for len(s)%512 != 0 {
		s += "\x00"
	}
	return s
}

// modelEntry says by the chapter's words what the entry of one node is, with the one ahead, if there is one.
func modelEntry(n api.Node) string {
	name, ahead, more := n.Path, "", ""
	if name == "" {
		name = "."
	}
	if len(name) > 100 {
		more += modelRecord("path", name)
		name = name[:100]
	}
	goes := n.Data
	if n.Kind == 4 && len(goes) > 100 {
		more += modelRecord("linkpath", goes)
		goes = goes[:100]
	}
	if more != "" {
		ahead = modelHeader("pax", "0000644", "x", len(more), "") + modelFilled(more)
	}
	switch n.Kind {
	case 1:
		return ahead + modelHeader(name, "0000755", "5", 0, "")
	case 2:
		return ahead + modelHeader(name, "0000644", "0", len(n.Data), "") + modelFilled(n.Data)
	case 3:
		return ahead + modelHeader(name, "0000755", "0", len(n.Data), "") + modelFilled(n.Data)
	}
	return ahead + modelHeader(name, "0000777", "2", 0, goes)
}

// modelLay says it of a whole tree.
func modelLay(t []api.Node) string {
	var out strings.Builder
	for _, n := range t {
		out.WriteString(modelEntry(n))
	}
	return out.String() + zeros(1024)
}

// modelEntries counts those that ask for an entry ahead once more.
func modelEntries(t []api.Node) int {
	count := len(t)
	for _, n := range t {
		if len(n.Path) > 100 || n.Kind == 4 && len(n.Data) > 100 {
			count++
		}
	}
	return count
}

// firstUnlike tells at which byte two texts part, for a message.
func firstUnlike(a, b string) int {
	at := 0
	for at < len(a) && at < len(b) && a[at] == b[at] {
		at++
	}
	return at
}

// check holds Lay and Entries against the model, and tells whether there are bytes.
func check(t *testing.T, nodes []api.Node) bool {
	t.Helper()
	b, e := tar.Lay(nodes)
	count := tar.Entries(nodes)
	if !modelMay(nodes) {
		if e != api.ErrTree || b != nil || count != 0 {
			t.Fatalf("P13.1, R2: of %s, no tree: %d bytes, %d; %d entries", show(nodes), len(b), e, count)
		}
		return false
	}
	if want := modelLay(nodes); e != api.OK || string(b) != want {
		at := firstUnlike(string(b), want)
		t.Fatalf("P13.1: Lay of %s: %d, %d bytes, not %d, another one at %d: %.40q, not %.40q", show(nodes), e, len(b), len(want), at, b[at:], want[at:])
	}
	if count != modelEntries(nodes) {
		t.Fatalf("P13.1: Entries of %s: %d, not %d", show(nodes), count, modelEntries(nodes))
	}
	return true
}

// checkRecord holds Record against a length of which it is known that it is right, and the least.
func checkRecord(t *testing.T, key, value string, length int) {
	t.Helper()
	if s := tar.Record(key, value); s != strconv.Itoa(length)+" "+key+"="+value+"\n" {
		t.Fatalf("P13.1: Record(%.40q, %.40q) of %d bytes: %.40q, %d bytes", key, value, length, s, len(s))
	}
}

// one is an entry as a reader finds it.
type one struct {
	name string
	kind int
	link string
	data string
}

// walk reads header behind header by package head, each with its bytes; it tells where the last of these end.
func walk(t *testing.T, b []byte) ([]one, int) {
	t.Helper()
	var all []one
	at := 0
	for at+512 <= len(b) && b[at] != 0 {
		name, kind, size, link, ok := head.Read(b[at : at+512])
		if !ok || at+512+size > len(b) {
			t.Fatalf("P13.1: no header at %d, but %.100q", at, b[at:])
		}
		at += 512
		data := string(b[at : at+size])
		at += size
		for ; at%512 != 0; at++ {
			if b[at] != 0 {
				t.Fatalf("P13.1: at %d, behind the bytes of %q, a byte that is not 0", at, name)
			}
		}
		all = append(all, one{name, kind, link, data})
	}
	return all, at
}

func TestTheExample(t *testing.T) {
	if s := tar.Record("path", "ab"); s != "11 path=ab\n" {
		t.Errorf("P13.1: Record(\"path\", \"ab\"): %q", s)
	}
}

func TestRecord(t *testing.T) {
	for _, x := range []struct{ key, value, want string }{
		{"", "", "4 =\n"}, {"a", "", "5 a=\n"}, {"", "a", "5 =a\n"}, {"a", "b", "6 a=b\n"}, {"ab", "cde", "9 ab=cde\n"}, {"abcde", "", "9 abcde=\n"}, {"", "abcde", "9 =abcde\n"},
		{"ab", "cdef", "11 ab=cdef\n"}, {"", "abcdef", "11 =abcdef\n"}, {"abcdef", "", "11 abcdef=\n"}, {"path", "", "8 path=\n"}, {"path", "a", "9 path=a\n"}, {"path", "abc", "12 path=abc\n"}, {"linkpath", "", "13 linkpath=\n"}, {"linkpath", "a", "14 linkpath=a\n"},
		{"=", "=", "6 ===\n"}, {"\n", "\n", "6 \n=\n\n"}, {" ", " ", "6  = \n"}, {"\x00", "\xff", "6 \x00=\xff\n"}, {"ä", "", "6 ä=\n"}, {"6 a", "b\n", "9 6 a=b\n\n"}, {"path", "11 path=ab\n", "20 path=11 path=ab\n\n"},
		{"path", text(89), "98 path=" + text(89) + "\n"}, {"path", text(90), "99 path=" + text(90) + "\n"}, {"path", text(91), "101 path=" + text(91) + "\n"}, {"path", text(100), "110 path=" + text(100) + "\n"}, {"path", text(101), "111 path=" + text(101) + "\n"}, {"path", text(200), "210 path=" + text(200) + "\n"},
		{"linkpath", text(86), "99 linkpath=" + text(86) + "\n"}, {"linkpath", text(87), "101 linkpath=" + text(87) + "\n"}, {"linkpath", text(101), "115 linkpath=" + text(101) + "\n"}, {"linkpath", text(400), "414 linkpath=" + text(400) + "\n"},
		{"path", text(988), "998 path=" + text(988) + "\n"}, {"path", text(989), "999 path=" + text(989) + "\n"}, {"path", text(990), "1001 path=" + text(990) + "\n"}, {"path", text(991), "1002 path=" + text(991) + "\n"},
		{text(993), "", "999 " + text(993) + "=\n"}, {text(994), "", "1001 " + text(994) + "=\n"}, {"k", text(9990), "9998 k=" + text(9990) + "\n"}, {"k", text(9991), "9999 k=" + text(9991) + "\n"}, {"k", text(9992), "10001 k=" + text(9992) + "\n"},
	} {
		if s := tar.Record(x.key, x.value); s != x.want {
			t.Errorf("P13.1: Record(%.20q, %.20q): %.40q, %d bytes, not %.40q", x.key, x.value, s, len(s), x.want)
		}
	}
}

func TestRecordOfEachLength(t *testing.T) {
	for n := range 1300 {
		for _, key := range []string{"", "k", "path", "linkpath", text(n)} {
			checkRecord(t, key, counted(n), len(modelRecord(key, counted(n))))
			if again := tar.Record(counted(n), key); again[strings.Index(again, " "):] != " "+counted(n)+"="+key+"\n" || len(again) != len(tar.Record(key, counted(n))) {
				t.Fatalf("P13.1: Record(%.20q, %.20q) of %d bytes: %.40q", counted(n), key, n, again)
			}
		}
	}
}

// No record has 10 bytes, or 100, or 1000: so many more begin where the digits' count turns, and go on one by one.
func TestRecordWhereDigitsTurn(t *testing.T) {
	length := 4
	turn := 10
	for n := range 200000 {
		if length == turn {
			length, turn = turn+1, turn*10
		}
		if n < 2000 || turn-length < 40 || length-turn/10 < 40 {
			checkRecord(t, "", text(n), length)
			checkRecord(t, text(n), "", length)
		}
		length++
	}
	if turn != 1000000 || length != 200000+4+5 {
		t.Errorf("the tests count to %d, not so far as they are meant to", length)
	}
}

func TestRecordOfGreatTexts(t *testing.T) {
	for _, x := range []struct{ rest, length int }{{999990, 999996}, {999993, 999999}, {999994, 1000001}, {1000000, 1000007}, {9999992, 9999999}, {9999993, 10000001}, {20000000, 20000008}} {
		checkRecord(t, "", text(x.rest-3), x.length)
		checkRecord(t, text(x.rest-3), "", x.length)
		checkRecord(t, text((x.rest-3)/2), text(x.rest-3-(x.rest-3)/2), x.length)
	}
}

func TestRecordOfEachByte(t *testing.T) {
	for a := range 256 {
		checkRecord(t, byteText(a), "", 5)
		checkRecord(t, "", byteText(a), 5)
		for b := range 256 {
			checkRecord(t, byteText(a), byteText(b), 6)
			checkRecord(t, "path", byteText(a)+byteText(b), 11)
			checkRecord(t, byteText(a)+byteText(b), text(4), 11)
		}
	}
}

func TestLayWrittenOut(t *testing.T) {
	owners := "0000000\x000000000\x00"
	epoch := "00000000000\x00"
	for _, x := range []struct {
		nodes []api.Node
		want  string
	}{
		{[]api.Node{dir("")}, "." + zeros(99) + "0000755\x00" + owners + "00000000000\x00" + epoch + "006023\x00 5" + zeros(100) + "ustar\x0000" + zeros(247) + zeros(1024)},
		{[]api.Node{dir(""), file("a", ""), exec("b", "x"), link("l", "../a")}, "." + zeros(99) + "0000755\x00" + owners + "00000000000\x00" + epoch + "006023\x00 5" + zeros(100) + "ustar\x0000" + zeros(247) +
			"a" + zeros(99) + "0000644\x00" + owners + "00000000000\x00" + epoch + "006076\x00 0" + zeros(100) + "ustar\x0000" + zeros(247) +
			"b" + zeros(99) + "0000755\x00" + owners + "00000000001\x00" + epoch + "006103\x00 0" + zeros(100) + "ustar\x0000" + zeros(247) + "x" + zeros(511) +
			"l" + zeros(99) + "0000777\x00" + owners + "00000000000\x00" + epoch + "006476\x00 2" + "../a" + zeros(96) + "ustar\x0000" + zeros(247) + zeros(1024)},
		{[]api.Node{link("", strings.Repeat("\xff", 101))}, "pax" + zeros(97) + "0000644\x00" + owners + "00000000163\x00" + epoch + "006570\x00 x" + zeros(100) + "ustar\x0000" + zeros(247) + "115 linkpath=" + strings.Repeat("\xff", 101) + "\n" + zeros(512-115) +
			"." + zeros(99) + "0000777\x00" + owners + "00000000000\x00" + epoch + "067660\x00 2" + strings.Repeat("\xff", 100) + "ustar\x0000" + zeros(247) + zeros(1024)},
	} {
		if b, e := tar.Lay(x.nodes); string(b) != x.want || e != api.OK {
			at := firstUnlike(string(b), x.want)
			t.Errorf("P13.1: Lay of %s: %d, %d bytes, not %d, another one at %d: %.40q", show(x.nodes), e, len(b), len(x.want), at, b[at:])
		}
		if modelLay(x.nodes) != x.want {
			t.Errorf("the tests' model of %s is not what is written out", show(x.nodes))
		}
	}
}

func TestEachEntryOfATree(t *testing.T) {
	long102 := counted(60) + "/" + counted(41)
	for _, x := range []struct {
		nodes []api.Node
		want  []one
	}{
		{small(), []one{{".", api.Dir, "", ""}, {"a", api.File, "", "12"}, {"d", api.Dir, "", ""}, {"d/run", api.Exec, "", "#!"}, {"l", api.Link, "d/run", ""}}},
		{[]api.Node{file("", text(400))}, []one{{".", api.File, "", text(400)}}},
		{[]api.Node{exec("", zeros(101))}, []one{{".", api.Exec, "", zeros(101)}}},
		{[]api.Node{link("", counted(100))}, []one{{".", api.Link, counted(100), ""}}},
		{[]api.Node{link("", counted(101))}, []one{{"pax", 5, "", "115 linkpath=" + counted(101) + "\n"}, {".", api.Link, counted(100), ""}}},
		{housed(file(long102, "x")), []one{{".", api.Dir, "", ""}, {counted(60), api.Dir, "", ""}, {"pax", 5, "", "112 path=" + long102 + "\n"}, {long102[:100], api.File, "", "x"}}},
		{housed(dir(long102)), []one{{".", api.Dir, "", ""}, {counted(60), api.Dir, "", ""}, {"pax", 5, "", "112 path=" + long102 + "\n"}, {long102[:100], api.Dir, "", ""}}},
		{housed(link(long102, "x")), []one{{".", api.Dir, "", ""}, {counted(60), api.Dir, "", ""}, {"pax", 5, "", "112 path=" + long102 + "\n"}, {long102[:100], api.Link, "x", ""}}},
		{housed(link(long102, counted(400))), []one{{".", api.Dir, "", ""}, {counted(60), api.Dir, "", ""}, {"pax", 5, "", "112 path=" + long102 + "\n414 linkpath=" + counted(400) + "\n"}, {long102[:100], api.Link, counted(100), ""}}},
		{housed(exec(long102[:101], text(400))), []one{{".", api.Dir, "", ""}, {counted(60), api.Dir, "", ""}, {"pax", 5, "", "111 path=" + long102[:101] + "\n"}, {long102[:100], api.Exec, "", text(400)}}},
		{housed(exec(long102[:100], text(400))), []one{{".", api.Dir, "", ""}, {counted(60), api.Dir, "", ""}, {long102[:100], api.Exec, "", text(400)}}},
	} {
		check(t, x.nodes)
		b, e := tar.Lay(x.nodes)
		got, at := walk(t, b)
		if e != api.OK || !slices.Equal(got, x.want) {
			t.Errorf("P13.1: the entries of %s: %+v, not %+v", show(x.nodes), got, x.want)
		}
		if string(b[at:]) != zeros(1024) {
			t.Errorf("P13.1: the end of %s: %d bytes", show(x.nodes), len(b)-at)
		}
		if n := tar.Entries(x.nodes); n != len(x.want) {
			t.Errorf("P13.1: Entries of %s: %d, not %d", show(x.nodes), n, len(x.want))
		}
	}
}

func TestTrees(t *testing.T) {
	for _, nodes := range trees() {
		if !check(t, nodes) {
			t.Fatalf("%s is no tree", show(nodes))
		}
		b, _ := tar.Lay(nodes)
		all, at := walk(t, b)
		if len(all) != tar.Entries(nodes) || string(b[at:]) != zeros(1024) || len(b)%512 != 0 {
			t.Errorf("P13.1: the tar of %s has %d headers, not %d, and %d bytes behind", show(nodes), len(all), tar.Entries(nodes), len(b)-at)
		}
	}
}

func TestHowManyBytesAndEntries(t *testing.T) {
	for _, x := range []struct {
		nodes   []api.Node
		entries int
		blocks  int
	}{
		{[]api.Node{dir("")}, 1, 3}, {[]api.Node{file("", "")}, 1, 3}, {[]api.Node{file("", "x")}, 1, 4}, {[]api.Node{exec("", text(400))}, 1, 4}, {[]api.Node{link("", text(100))}, 1, 3}, {[]api.Node{link("", text(101))}, 2, 5},
		{small(), 5, 9}, {flat(api.MaxNodes), 400, 2 + 1 + 2*399}, {greatest(api.File), 798, 1 + 1 + 3 + 3 + 396*4 + 2}, {greatest(api.Exec), 798, 1594}, {greatest(api.Link), 798, 1594},
		{housed(link(long(200), text(400))), 8, 1 + 1 + 3 + 3 + 4 + 2}, {housed(dir(deep(10))), 11, 13},
	} {
		b, e := tar.Lay(x.nodes)
		if e != api.OK || len(b) != 512*x.blocks || tar.Entries(x.nodes) != x.entries {
			t.Errorf("P13.1: of %s: %d, %d times 512 bytes, not %d; %d entries, not %d", show(x.nodes), e, len(b)/512, x.blocks, tar.Entries(x.nodes), x.entries)
		}
	}
}

func TestNamesOfEachLength(t *testing.T) {
	for n := 1; n <= 200; n++ {
		p := long(n)
		lists := [][]api.Node{housed(dir(p))}
		for _, data := range []string{"x", text(100), text(101), text(400)} {
			lists = append(lists, housed(file(p, data)), housed(exec(p, data)), housed(link(p, data)))
		}
		for _, nodes := range lists {
			if len(p) != n || !check(t, nodes) {
				t.Fatalf("%s is no tree with a path of %d bytes", show(nodes), n)
			}
			b, _ := tar.Lay(nodes)
			all, _ := walk(t, b)
			last, ahead := all[len(all)-1], all[len(all)-2]
			if last.name != p[:min(n, 100)] || (ahead.name == "pax") != (n > 100 || last.kind == api.Link && len(nodes[len(nodes)-1].Data) > 100) {
				t.Fatalf("P13.1: a name of %d bytes: %q, behind %q", n, last.name, ahead.name)
			}
		}
	}
}

func TestLinksOfEachLength(t *testing.T) {
	for n := 1; n <= 400; n++ {
		for _, p := range []string{"", "l", long(99), long(100), long(101), long(200)} {
			nodes := housed(link(p, counted(n)))
			if p == "" {
				nodes = nodes[1:]
			}
			if !check(t, nodes) {
				t.Fatalf("%s is no tree", show(nodes))
			}
		}
	}
}

func TestDataOfEachLength(t *testing.T) {
	for n := range 401 {
		for kind := api.File; kind <= api.Exec; kind++ {
			nodes := []api.Node{dir(""), {Path: "a", Kind: kind, Data: counted(n)}, dir("b")}
			if !check(t, nodes) || tar.Entries(nodes) != 3 {
				t.Fatalf("P13.1: Entries of %s: %d", show(nodes), tar.Entries(nodes))
			}
			b, _ := tar.Lay(nodes)
			behind := (n + 511) / 512 * 512
			if len(b) != 512*3+behind+1024 || string(b[1024:1024+n]) != counted(n) || string(b[1024+n:1024+behind]) != zeros(behind-n) {
				t.Fatalf("P13.1: Data of %d bytes: %d bytes in all", n, len(b))
			}
		}
	}
}

func TestEachByte(t *testing.T) {
	for b := range 256 {
		one := byteText(b)
		for _, n := range []api.Node{file("a", one), exec("a", text(99)+one), file("a", strings.Repeat(one, 400)), link("a", one), link("a", text(99)+one), link("a", text(100)+one), link("a", strings.Repeat(one, 400)), dir(one), file("a"+one, ""), link(long(99)+one, "x"), link(long(100)+one, text(100)+one), {Path: "a", Kind: b}, {Path: "a", Kind: b, Data: one}} {
			for _, nodes := range [][]api.Node{{dir(""), n}, housed(n), append(housed(n), dir("~~"))} {
				check(t, nodes)
			}
		}
	}
}

func TestAllShortLists(t *testing.T) {
	pool := []api.Node{dir(""), file("", "x"), link("", text(101)), dir("a"), link("a", "b"), file("a/b", text(101)), dir("a/b"), exec("b", ""), file("b", text(401)), {Path: "a", Kind: 0}, dir("."), link("b", "")}
	trees := 0
	for i := range pool {
		for j := range pool {
			for k := range pool {
				for n := range 4 {
					if check(t, []api.Node{pool[i], pool[j], pool[k]}[:n]) {
						trees++
					}
				}
			}
		}
	}
	if trees < len(pool)*len(pool) {
		t.Errorf("only %d of the short lists are trees", trees)
	}
}

func TestNoTree(t *testing.T) {
	for _, nodes := range noTrees() {
		b, e := tar.Lay(nodes)
		if e != api.ErrTree || b != nil {
			t.Errorf("P13.1, R2: Lay of %s: %d bytes, %d", show(nodes), len(b), e)
		}
		if n := tar.Entries(nodes); n != 0 {
			t.Errorf("P13.1: Entries of %s: %d", show(nodes), n)
		}
		if modelMay(nodes) {
			t.Errorf("the tests' model takes %s for a tree", show(nodes))
		}
	}
}

func TestOneFaultAtEachPlace(t *testing.T) {
	for _, whole := range [][]api.Node{sample(), small(), greatest(api.Link)[:30], flat(api.MaxNodes)} {
		for at, n := range whole {
			// Of the greatest tree not each place, so that the tests end soon.
			if at%57 != 0 && len(whole)-at > 1 && len(whole) == api.MaxNodes {
				continue
			}
			wrong := []api.Node{
				{Path: n.Path, Kind: 0, Data: n.Data}, {Path: n.Path, Kind: 5, Data: n.Data}, {Path: n.Path, Kind: n.Kind + 256, Data: n.Data}, {Path: n.Path + "/", Kind: n.Kind, Data: n.Data}, {Path: n.Path + "\x00", Kind: n.Kind, Data: n.Data}, {Path: n.Path, Kind: n.Kind, Data: text(401)},
				{Path: n.Path, Kind: api.Dir, Data: "x"}, {Path: n.Path, Kind: api.Link}, {Path: n.Path, Kind: api.Link, Data: "\x00"}, {Path: ".", Kind: api.Dir}, {Path: "nowhere/" + n.Path, Kind: n.Kind, Data: n.Data},
			}
			for _, n := range wrong {
				nodes := slices.Clone(whole)
				nodes[at] = n
				if check(t, nodes) {
					t.Errorf("%s is taken for a tree with %v at %d", show(whole), n, at)
				}
			}
			check(t, slices.Delete(slices.Clone(whole), at, at+1))
			check(t, slices.Insert(slices.Clone(whole), at, n))
			check(t, whole[:at])
			check(t, whole[at:])
			for other := range min(at, 12) {
				nodes := slices.Clone(whole)
				nodes[at], nodes[other] = nodes[other], nodes[at]
				check(t, nodes)
			}
		}
	}
}

func TestWhatAnotherReaderReads(t *testing.T) {
	for _, nodes := range trees() {
		b, _ := tar.Lay(nodes)
		r := stdtar.NewReader(bytes.NewReader(b))
		for _, n := range nodes {
			h, e := r.Next()
			if e != nil {
				t.Fatalf("P13.1: the library does not read the entry of %q: %v", n.Path, e)
			}
			data, e := io.ReadAll(r)
			name, goes, sign, mode := n.Path, "", byte('0'), int64(0o644)
			if name == "" {
				name = "."
			}
			switch n.Kind {
			case api.Dir:
				sign, mode = '5', 0o755
			case api.Exec:
				mode = 0o755
			case api.Link:
				sign, mode, goes = '2', 0o777, n.Data
			}
			if e != nil || h.Name != name || h.Linkname != goes || h.Typeflag != sign || h.Mode != mode || string(data)+goes != n.Data || h.ModTime.Unix() != 0 || h.Uid+h.Gid != 0 {
				t.Fatalf("P13.1: the library reads the entry of %q as %+v, %d bytes, %v", n.Path, h, len(data), e)
			}
		}
		if _, e := r.Next(); e != io.EOF {
			t.Errorf("P13.1: the library finds more behind %s: %v", show(nodes), e)
		}
	}
}

// Two trees of one tar would not both come back.
func TestUnlikeTreesHaveUnlikeTars(t *testing.T) {
	seen := map[string]string{}
	all := append(trees(), []api.Node{file("", "\x00")}, []api.Node{file("", "\x00\x00")}, []api.Node{exec("", "x")}, []api.Node{dir(""), dir("a")}, []api.Node{dir(""), file("a", "")}, []api.Node{dir(""), exec("a", "")}, []api.Node{dir(""), link("a", ".")})
	for n := 95; n <= 200; n++ {
		all = append(all, housed(dir(long(n))), housed(file(long(n), "")), housed(link(long(n), text(n))))
	}
	for at := 80; at < 200; at++ {
		p := []byte(text(60) + "/" + text(60) + "/" + text(60) + "/" + text(17))
		if p[at] != '/' {
			p[at] = 'y'
			all = append(all, housed(dir(string(p))), []api.Node{link("", string(p))})
		}
	}
	for _, nodes := range all {
		b, _ := tar.Lay(nodes)
		if other, is := seen[string(b)]; is && other != show(nodes) {
			t.Errorf("P13.1: %s has the tar of %s", show(nodes), other)
		}
		seen[string(b)] = show(nodes)
	}
}

func TestWhatIsHandedInStays(t *testing.T) {
	for _, nodes := range append(trees(), noTrees()[:40]...) {
		whole := append(slices.Clone(nodes), file("what stands", "in the spare room"), dir("behind"))
		kept := slices.Clone(whole)
		given := whole[:len(nodes)]
		want, e := tar.Lay(slices.Clone(nodes))
		for range 2 {
			got, again := tar.Lay(given)
			if !bytes.Equal(got, want) || again != e || tar.Entries(given) != tar.Entries(nodes) {
				t.Fatalf("R5: of %s, with spare room: %d bytes, %d", show(nodes), len(got), again)
			}
			if !slices.Equal(whole, kept) {
				t.Fatalf("R4: %s is changed, or its spare room", show(nodes))
			}
		}
	}
}

func TestAnswersShareNothing(t *testing.T) {
	for _, nodes := range trees() {
		given := slices.Clone(nodes)
		first, _ := tar.Lay(given)
		second, _ := tar.Lay(given)
		want := bytes.Clone(first)
		for i := range first[:cap(first)] {
			first[:cap(first)][i] = '?'
		}
		third, _ := tar.Lay(given)
		if !bytes.Equal(second, want) || !bytes.Equal(third, want) || !slices.Equal(given, nodes) {
			t.Fatalf("R4: tars of %s share memory", show(nodes))
		}
		for i := range given {
			given[i] = file("?", "?")
		}
		if !bytes.Equal(second, want) {
			t.Fatalf("R4: the tar of %s changes with its nodes", show(nodes))
		}
	}
	key, value := []byte("key"), []byte(text(100))
	record := tar.Record(string(key), string(value))
	if other := tar.Record("other", text(200)); record != "109 key="+text(100)+"\n" || other != "211 other="+text(200)+"\n" {
		t.Errorf("R4: records share memory: %q, %q", record, other)
	}
}

func TestAnswersHangOnNothingElse(t *testing.T) {
	lists := append(trees()[:18], noTrees()[:50]...)
	for range 3 {
		for i := range lists {
			check(t, lists[i])
			check(t, lists[len(lists)-1-i])
			checkRecord(t, "", text(i), len(modelRecord("", text(i))))
		}
	}
}

func TestFromSeveralGoroutines(t *testing.T) {
	nodes, wrong := sample(), small()[1:]
	want := modelLay(nodes)
	var group sync.WaitGroup
	for range 8 {
		group.Go(func() {
			for range 50 {
				b, e := tar.Lay(nodes)
				none, told := tar.Lay(wrong)
				if string(b) != want || e != api.OK || none != nil || told != api.ErrTree || tar.Entries(nodes) != modelEntries(nodes) || tar.Entries(wrong) != 0 || tar.Record("path", "ab") != "11 path=ab\n" {
					t.Error("R5: calls at one time")
				}
				b[0] = '?'
			}
		})
	}
	group.Wait()
}

func TestThePackageCallsHeadAndTree(t *testing.T) {
	files, e := os.ReadDir(".")
	if e != nil {
		t.Fatal(e)
	}
	may := []string{`"hogshead/api"`, `"hogshead/head"`, `"hogshead/tree"`}
	for _, file := range files {
		if !strings.HasSuffix(file.Name(), ".go") || strings.HasSuffix(file.Name(), "_test.go") {
			continue
		}
		parsed, e := parser.ParseFile(token.NewFileSet(), file.Name(), nil, parser.ImportsOnly)
		if e != nil {
			t.Fatal(e)
		}
		for _, one := range parsed.Imports {
			if strings.HasPrefix(one.Path.Value, `"hogshead`) && !slices.Contains(may, one.Path.Value) {
				t.Errorf("P13.1: the package calls %s", one.Path.Value)
			}
		}
	}
}

func FuzzRecord(f *testing.F) {
	f.Add("path", "ab")
	f.Add("", "")
	f.Add("=", text(994))
	f.Fuzz(func(t *testing.T, key, value string) {
		checkRecord(t, key, value, len(modelRecord(key, value)))
	})
}

func FuzzLay(f *testing.F) {
	f.Add("a", 1, "", "b", 2, "x")
	f.Add("a", 1, "", "a/b", 4, text(101))
	f.Add(counted(60), 1, "", long(150), 3, text(400))
	f.Add("", 0, "\x00", ".", -1, text(401))
	f.Fuzz(func(t *testing.T, p string, kind int, data, q string, other int, more string) {
		n, m := api.Node{Path: p, Kind: kind, Data: data}, api.Node{Path: q, Kind: other, Data: more}
		for _, nodes := range [][]api.Node{{n}, {n, m}, {dir(""), n}, {dir(""), n, m}, {dir(""), m, n}, housed(n), housed(m)} {
			check(t, nodes)
		}
	})
}
