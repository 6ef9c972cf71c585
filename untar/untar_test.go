package untar_test

import (
	stdtar "archive/tar"
	"bytes"
	"fmt"
	"go/parser"
	"go/token"
	"math/rand"
	"os"
	"slices"
	"strconv"
	"strings"
	"sync"
	"testing"

	"hogshead/api"
	"hogshead/head"
	"hogshead/tar"
	"hogshead/untar"
)

func dir(p string) api.Node { return api.Node{Path: p, Kind: api.Dir} }

func file(p, data string) api.Node { return api.Node{Path: p, Kind: api.File, Data: data} }

func exec(p, data string) api.Node { return api.Node{Path: p, Kind: api.Exec, Data: data} }

func link(p, data string) api.Node { return api.Node{Path: p, Kind: api.Link, Data: data} }

// text makes n bytes that may stand anywhere.
func text(n int) string { return strings.Repeat("x", n) }

// counted makes n bytes of which no two that are near each other are the same.
func counted(n int) string {
	return strings.Repeat("abcdefghijklmnopqrstuvwxyz0123456789_", n/37+1)[:n]
}

// zeros makes n bytes 0.
func zeros(n int) string { return strings.Repeat("\x00", n) }

// byteText is the text of one byte, which may be no letter.
func byteText(b int) string { return string([]byte{byte(b)}) }

// show tells the first few nodes, for a message.
func show(nodes []api.Node) string {
	var out strings.Builder
	for _, n := range nodes[:min(len(nodes), 6)] {
		fmt.Fprintf(&out, " {%.40q %d %.20q}", n.Path, n.Kind, n.Data)
	}
	return strconv.Itoa(len(nodes)) + " nodes" + out.String()
}

// housed makes a tree of the root, the node, and the Dirs above it, each part of whose path is a Dir's.
func housed(n api.Node) []api.Node {
	t := []api.Node{dir("")}
	for at := range n.Path {
		if n.Path[at] == '/' {
			t = append(t, dir(n.Path[:at]))
		}
	}
	return append(t, n)
}

// long makes a path of n bytes in parts of at most 60.
func long(n int) string {
	var parts []string
	for n > 60 {
		size := min(60, n-2)
		parts = append(parts, counted(size))
		n -= size + 1
	}
	return strings.Join(append(parts, counted(n)), "/")
}

// deep makes a path of n parts.
func deep(n int) string { return strings.TrimSuffix(strings.Repeat("d/", n), "/") }

// flat makes a tree of n nodes: the root, and files in it.
func flat(n int) []api.Node {
	t := []api.Node{dir("")}
	for i := 1; i < n; i++ {
		t = append(t, file("f"+strconv.Itoa(10000000+i), strconv.Itoa(i)))
	}
	return t
}

// greatest makes a tree of as many nodes as there may be, nearly all with a path and Data of as many bytes as there may be.
func greatest(kind int) []api.Node {
	up := counted(60) + "/" + counted(60) + "/" + counted(60)
	t := housed(dir(up))
	for i := len(t); i < api.MaxNodes; i++ {
		name := strconv.Itoa(1000 + i)
		t = append(t, api.Node{Path: up + "/" + name + counted(api.MaxPath-len(up)-1-len(name)), Kind: kind, Data: strings.Repeat(name, api.MaxData/len(name))})
	}
	return t
}

// small is a tree with a node of each kind.
func small() []api.Node {
	return []api.Node{dir(""), file("a", "12"), dir("d"), exec("d/run", "#!"), link("l", "d/run")}
}

// sample is a tree with all kinds, and what asks for entries ahead, and what does not.
func sample() []api.Node {
	t := []api.Node{
		dir(""), dir("a"), file("a-", ""), link("a.x", "../a"), exec("a/b", "\x00\xff"), dir("a/c"), link("a/c/l", counted(400)), exec("b", text(101)), file("c", zeros(400)), link("d", counted(100)), link("e", counted(101)),
		dir(counted(60)), dir(counted(60) + "/" + counted(39)), file(counted(60)+"/"+counted(39)+"/x", "of 102 bytes"), file(counted(60)+"/"+counted(40), "of 101 bytes"), link(counted(60)+"/"+counted(50), counted(300)), dir("pax"), file("pax/pax", "30 path=pax\n"), dir("\xff"), file("\xff/\x01", "z\x00"),
	}
	slices.SortFunc(t, func(a, b api.Node) int { return strings.Compare(a.Path, b.Path) })
	return t
}

// trees are trees of many forms, the least and the greatest among them.
func trees() [][]api.Node {
	return [][]api.Node{
		{dir("")}, {file("", "")}, {file("", "x")}, {exec("", "")}, {exec("", text(api.MaxData))}, {file("", text(api.MaxData))}, {link("", "a")}, {link("", ".")}, {link("", text(100))}, {link("", text(101))}, {link("", text(api.MaxData))},
		small(), sample(), housed(dir(deep(api.MaxDepth))), housed(file(deep(api.MaxDepth), "")), housed(dir(long(api.MaxPath))), housed(link(long(api.MaxPath), text(api.MaxData))),
		flat(2), flat(api.MaxNodes - 1), flat(api.MaxNodes), greatest(api.File), greatest(api.Exec), greatest(api.Link),
	}
}

// modelPath says by the words of chapter 1 which paths may be.
func modelPath(p string) bool {
	if p == "" {
		return true
	}
	parts := strings.Split(p, "/")
	for _, s := range parts {
		if s == "" || s == "." || s == ".." || strings.HasPrefix(s, ".wh.") || len(s) > 60 || strings.Contains(s, "\x00") {
			return false
		}
	}
	return len(p) <= 200 && len(parts) <= 10
}

// modelMay says by the words of chapter 2 which nodes are a tree.
func modelMay(t []api.Node) bool {
	if len(t) == 0 || len(t) > 400 || t[0].Path != "" {
		return false
	}
	dirs := map[string]bool{}
	for i, n := range t {
		up := n.Path[:max(0, strings.LastIndex(n.Path, "/"))]
		if !modelPath(n.Path) || i > 0 && (n.Path <= t[i-1].Path || !dirs[up]) {
			return false
		}
		switch size := len(n.Data); n.Kind {
		case 1:
			if size > 0 {
				return false
			}
			dirs[n.Path] = true
		case 2, 3:
			if size > 400 {
				return false
			}
		case 4:
			if size == 0 || size > 400 || strings.Contains(n.Data, "\x00") {
				return false
			}
		default:
			return false
		}
	}
	return true
}

// modelRecord tries all lengths from one on that is too short.
func modelRecord(key, value string) string {
	for n := len(key) + len(value); ; n++ {
		if s := fmt.Sprintf("%d %s=%s\n", n, key, value); len(s) == n {
			return s
		}
	}
}

// modelHeader says by the words of chapter 12 what stands in a header.
func modelHeader(name, mode, sign string, size int, link string) string {
	s := name + zeros(100-len(name)) + mode + "\x000000000\x000000000\x00" + fmt.Sprintf("%011o", size) + "\x0000000000000\x00"
	rest := sign + link + zeros(100-len(link)) + "ustar\x0000" + zeros(247)
	sum := 8 * int(' ')
	for _, b := range []byte(s + rest) {
		sum += int(b)
	}
	return s + fmt.Sprintf("%06o\x00 ", sum) + rest
}

// modelFilled is the bytes with those behind them.
func modelFilled(s string) string {
	return s + zeros((512-len(s)%512)%512)
}

// modelEntry says by the chapter's words what the entry of one node is, with the one ahead, if there is one.
func modelEntry(n api.Node) string {
	name, ahead, more := n.Path, "", ""
	if name == "" {
		name = "."
	}
	if len(name) > 100 {
		more += modelRecord("path", name)
		name = name[:100]
	}
	goes := n.Data
	if n.Kind == 4 && len(goes) > 100 {
		more += modelRecord("linkpath", goes)
		goes = goes[:100]
	}
	if more != "" {
		ahead = modelHeader("pax", "0000644", "x", len(more), "") + modelFilled(more)
	}
	switch n.Kind {
	case 1:
		return ahead + modelHeader(name, "0000755", "5", 0, "")
	case 2:
		return ahead + modelHeader(name, "0000644", "0", len(n.Data), "") + modelFilled(n.Data)
	case 3:
		return ahead + modelHeader(name, "0000755", "0", len(n.Data), "") + modelFilled(n.Data)
	}
	return ahead + modelHeader(name, "0000777", "2", 0, goes)
}

// modelLay says it of a whole tree.
func modelLay(t []api.Node) string {
	var out strings.Builder
	for _, n := range t {
		out.WriteString(modelEntry(n))
	}
	return out.String() + zeros(1024)
}

// modelHead is what a header says, and the bytes behind it.
type modelHead struct{ name, look, link, data string }

// modelZeros says whether s is bytes 0 alone.
func modelZeros(s string) bool { return strings.Trim(s, "\x00") == "" }

// modelSum says what the sum of a header is.
func modelSum(header string) string {
	sum := 8 * ' '
	for _, b := range []byte(header[:148] + header[156:]) {
		sum += rune(b)
	}
	return fmt.Sprintf("%06o\x00 ", sum)
}

// modelReadHead says by the words of chapters 12 and 13 what the first header says; each byte of it and of what is behind is looked at.
func modelReadHead(b string) (modelHead, string, bool) {
	if len(b) < 512 {
		return modelHead{}, "", false
	}
	h := b[:512]
	name, behindName, _ := strings.Cut(h[:100], "\x00")
	link, behindLink, _ := strings.Cut(h[157:257], "\x00")
	if name == "" || !modelZeros(behindName) || !modelZeros(behindLink) || !modelZeros(h[265:]) {
		return modelHead{}, "", false
	}
	if h[108:124] != "0000000\x000000000\x00" || h[136:148] != "00000000000\x00" || h[257:265] != "ustar\x0000" || h[148:156] != modelSum(h) || h[135] != 0 {
		return modelHead{}, "", false
	}
	size := 0
	for _, digit := range []byte(h[124:135]) {
		if digit < '0' || digit > '7' {
			return modelHead{}, "", false
		}
		size = 8*size + int(digit-'0')
	}
	behind := (512 - size%512) % 512
	if len(b)-512 < size+behind || !modelZeros(b[512+size:512+size+behind]) {
		return modelHead{}, "", false
	}
	return modelHead{name, h[100:108] + h[156:157], link, b[512 : 512+size]}, b[512+size+behind:], true
}

// modelValue says what the record of this key is that s begins with, if that is more than a header has room for, and begins with what this one has.
func modelValue(s, key, has string) (string, string) {
	digits, _, _ := strings.Cut(s, " ")
	length, e := strconv.Atoi(digits)
	before := digits + " " + key + "="
	if e != nil || length <= len(before) || length > len(s) || !strings.HasPrefix(s, before) {
		return has, s
	}
	value := s[len(before) : length-1]
	if len(value) <= 100 || value[:100] != has || s[:length] != modelRecord(key, value) {
		return has, s
	}
	return value, s[length:]
}

// modelNode says which node's entry b begins with, and what is behind it.
func modelNode(b string) (api.Node, string, bool) {
	h, b, ok := modelReadHead(b)
	more := ""
	if ok && h.look == "0000644\x00x" {
		if more = h.data; h.name != "pax" || h.link != "" || more == "" {
			return api.Node{}, "", false
		}
		h, b, ok = modelReadHead(b)
	}
	if !ok {
		return api.Node{}, "", false
	}
	name, more := modelValue(more, "path", h.name)
	goes := h.link
	if h.look == "0000777\x002" {
		goes, more = modelValue(more, "linkpath", goes)
	}
	if more != "" {
		return api.Node{}, "", false
	}
	if name == "." {
		name = ""
	}
	switch {
	case h.look == "0000755\x005" && goes == "" && h.data == "":
		return dir(name), b, true
	case h.look == "0000644\x000" && goes == "":
		return file(name, h.data), b, true
	case h.look == "0000755\x000" && goes == "":
		return exec(name, h.data), b, true
	case h.look == "0000777\x002" && h.data == "":
		return link(name, goes), b, true
	}
	return api.Node{}, "", false
}

// modelRead says of which tree b is the tar.
func modelRead(b string) ([]api.Node, bool) {
	var nodes []api.Node
	for len(b) > 0 && b[0] != 0 {
		n, behind, ok := modelNode(b)
		if !ok || len(nodes) == 400 {
			return nil, false
		}
		nodes, b = append(nodes, n), behind
	}
	if len(b) != 1024 || !modelZeros(b) || !modelMay(nodes) {
		return nil, false
	}
	return nodes, true
}

// pathsOf tells the Paths of nodes.
func pathsOf(nodes []api.Node) []string {
	var all []string
	for _, n := range nodes {
		all = append(all, n.Path)
	}
	return all
}

// check holds Read and Names against the model, and tells whether b is a tree's tar.
func check(t *testing.T, b string) bool {
	t.Helper()
	given := []byte(b)
	nodes, e := untar.Read(given)
	names, told := untar.Names(given)
	if string(given) != b {
		t.Fatalf("R4: %d bytes are changed", len(b))
	}
	want, is := modelRead(b)
	if !is {
		if e != api.ErrForm || nodes != nil || told != api.ErrForm || names != nil {
			t.Fatalf("P14.1, R2: of %d bytes, no tar of a tree, %.120q: %s, %d; %.100q, %d", len(b), b, show(nodes), e, names, told)
		}
		return false
	}
	if e != api.OK || !slices.Equal(nodes, want) {
		t.Fatalf("P14.1: Read of %d bytes: %s, %d, not %s", len(b), show(nodes), e, show(want))
	}
	if told != api.OK || !slices.Equal(names, pathsOf(want)) {
		t.Fatalf("P14.1: Names of %d bytes: %.100q, %d, not %.100q", len(b), names, told, pathsOf(want))
	}
	if again, e := tar.Lay(nodes); e != api.OK || string(again) != b {
		t.Fatalf("P14.2: %s, read from %d bytes, is laid as %d others, %d", show(nodes), len(b), len(again), e)
	}
	return true
}

// checkTree asks whether the tree comes back out of its tar.
func checkTree(t *testing.T, nodes []api.Node) string {
	t.Helper()
	laid, e := tar.Lay(nodes)
	b := modelLay(nodes)
	if e != api.OK || string(laid) != b {
		t.Fatalf("%s is no tree, or its tar is another one", show(nodes))
	}
	got, e := untar.Read(laid)
	if e != api.OK || !slices.Equal(got, nodes) {
		t.Fatalf("P14.2: %s comes back as %s, %d", show(nodes), show(got), e)
	}
	if !check(t, b) {
		t.Fatalf("the tests' model does not read the tar of %s", show(nodes))
	}
	return b
}

// checkNone asks whether bytes are told that are no tar of a tree.
func checkNone(t *testing.T, what, b string) {
	t.Helper()
	if check(t, b) {
		t.Errorf("P14.1: %s is taken for a tree's tar: %.100q", what, b)
	}
}

// changed tells b with one byte another one.
func changed(b string, at int, to byte) string { return b[:at] + string([]byte{to}) + b[at+1:] }

// mended tells b with the sum of the header at a place mended.
func mended(b string, at int) string {
	return b[:at+148] + modelSum(b[at:at+512]) + b[at+156:]
}

// ahead makes the entry ahead of another one.
func ahead(name, records string) string {
	return modelHeader(name, "0000644", "x", len(records), "") + modelFilled(records)
}

// entries makes those of nodes, of which nobody asks whether they are a tree.
func entries(nodes ...api.Node) string {
	return strings.TrimSuffix(modelLay(nodes), ending)
}

// ending stands behind all entries.
var ending = zeros(1024)

func TestTheExample(t *testing.T) {
	if nodes, e := untar.Read(make([]byte, 1024)); nodes != nil || e != api.ErrForm {
		t.Errorf("P14.1: Read of 1024 bytes 0: %v, %d", nodes, e)
	}
	if names, e := untar.Names(make([]byte, 1024)); names != nil || e != api.ErrForm {
		t.Errorf("P14.1: Names of 1024 bytes 0: %q, %d", names, e)
	}
}

func TestReadWrittenOut(t *testing.T) {
	owners := "0000000\x000000000\x00"
	epoch := "00000000000\x00"
	behind := "ustar\x0000" + zeros(247)
	root := "." + zeros(99) + "0000755\x00" + owners + "00000000000\x00" + epoch + "006023\x00 5" + zeros(100) + behind
	for _, x := range []struct {
		b     string
		nodes []api.Node
		names []string
	}{
		{root + zeros(1024), []api.Node{dir("")}, []string{""}},
		{root + "a" + zeros(99) + "0000644\x00" + owners + "00000000000\x00" + epoch + "006076\x00 0" + zeros(100) + behind +
			"b" + zeros(99) + "0000755\x00" + owners + "00000000001\x00" + epoch + "006103\x00 0" + zeros(100) + behind + "x" + zeros(511) +
			"l" + zeros(99) + "0000777\x00" + owners + "00000000000\x00" + epoch + "006476\x00 2" + "../a" + zeros(96) + behind + zeros(1024),
			[]api.Node{dir(""), file("a", ""), exec("b", "x"), link("l", "../a")}, []string{"", "a", "b", "l"}},
		{"pax" + zeros(97) + "0000644\x00" + owners + "00000000163\x00" + epoch + "006570\x00 x" + zeros(100) + behind + "115 linkpath=" + strings.Repeat("\xff", 101) + "\n" + zeros(512-115) +
			"." + zeros(99) + "0000777\x00" + owners + "00000000000\x00" + epoch + "067660\x00 2" + strings.Repeat("\xff", 100) + behind + zeros(1024),
			[]api.Node{link("", strings.Repeat("\xff", 101))}, []string{""}},
	} {
		if nodes, e := untar.Read([]byte(x.b)); e != api.OK || !slices.Equal(nodes, x.nodes) {
			t.Errorf("P14.1: Read of the tar of %s: %s, %d", show(x.nodes), show(nodes), e)
		}
		if names, e := untar.Names([]byte(x.b)); e != api.OK || !slices.Equal(names, x.names) {
			t.Errorf("P14.1: Names of the tar of %s: %q, %d", show(x.nodes), names, e)
		}
		if !check(t, x.b) {
			t.Errorf("the tests' model does not read the tar of %s", show(x.nodes))
		}
	}
}

func TestTreesComeBack(t *testing.T) {
	for _, nodes := range trees() {
		checkTree(t, nodes)
	}
}

func TestNamesComeBackOfEachLength(t *testing.T) {
	t.Parallel()
	for n := 1; n <= 200; n++ {
		p := long(n)
		checkTree(t, housed(dir(p)))
		for _, data := range []string{"x", text(100), text(101), text(400)} {
			checkTree(t, housed(file(p, data)))
			checkTree(t, housed(exec(p, data)))
			checkTree(t, housed(link(p, data)))
		}
	}
}

func TestLinksComeBackOfEachLength(t *testing.T) {
	t.Parallel()
	for n := 1; n <= 400; n++ {
		checkTree(t, []api.Node{link("", counted(n))})
		for _, p := range []string{"l", long(99), long(100), long(101), long(200)} {
			checkTree(t, housed(link(p, counted(n))))
		}
	}
}

func TestDataComesBackOfEachLength(t *testing.T) {
	for n := range 401 {
		for kind := api.File; kind <= api.Exec; kind++ {
			checkTree(t, []api.Node{{Kind: kind, Data: counted(n)}})
			checkTree(t, []api.Node{dir(""), {Path: "a", Kind: kind, Data: counted(n)}, dir("b")})
			checkTree(t, []api.Node{dir(""), {Path: "a", Kind: kind, Data: zeros(n)}, dir("b")})
		}
	}
}

func TestEachByteComesBack(t *testing.T) {
	t.Parallel()
	for b := range 256 {
		one := byteText(b)
		checkTree(t, []api.Node{file("", one)})
		checkTree(t, []api.Node{exec("", strings.Repeat(one, 400))})
		if b == 0 {
			continue
		}
		checkTree(t, []api.Node{link("", one)})
		checkTree(t, []api.Node{link("", strings.Repeat(one, 101))})
		checkTree(t, []api.Node{link("", strings.Repeat(one, 400))})
		checkTree(t, []api.Node{link("", text(100)+one)})
		if one == "." || one == "/" {
			continue
		}
		checkTree(t, housed(file(one, one)))
		checkTree(t, housed(file(strings.Repeat(one, 60)+"/"+strings.Repeat(one, 60), one)))
		checkTree(t, housed(link(long(99)+one, one)))
		checkTree(t, housed(link(long(180)+"/"+one+one, text(99)+one)))
	}
}

// Whatever a value holds, a record ends where its length says.
func TestRecordsWithinValuesComeBack(t *testing.T) {
	for _, s := range []string{modelRecord("path", long(101)), modelRecord("linkpath", text(101)), "=", "\n", "==\n\n", " ", "  = ", "11 path=ab\n", "\n9 path=a\n", "path=", " linkpath=", "0 ", "-1 a=b\n"} {
		s = strings.ReplaceAll(s, "/", "-")
		checkTree(t, []api.Node{link("", text(101)+s)})
		checkTree(t, []api.Node{link("", s+text(101))})
		checkTree(t, []api.Node{link("", s+text(101)+s)})
		for _, p := range []string{text(60) + "/" + text(60) + "/" + s, s + "/" + text(60) + "/" + text(60)} {
			if len(s) > 60 {
				p = text(60) + "/" + s[:60] + "/" + s[60:120-60] + text(10)
			}
			checkTree(t, housed(file(p, s)))
			checkTree(t, housed(link(p, s)))
			checkTree(t, housed(link(p, s+text(101)+s)))
		}
	}
}

// The names of these entries are the same ones; only what stands ahead tells one from the other.
func TestNamesAlikeInTheirFirstBytes(t *testing.T) {
	up := counted(60) + "/" + counted(60)
	nodes := append(housed(dir(up)), dir(up+"/a"), file(up+"/a/x", "1"), exec(up+"/b", "2"), link(up+"/c", "3"), link(up+"/d", text(200)), link(up+"/e", text(199)+"y"), link(up+"/f", text(201)))
	b := checkTree(t, nodes)
	names, _ := untar.Names([]byte(b))
	if strings.Count(b, up[:100]+"0000") != len(nodes)-2 || len(names) != len(nodes) || names[len(names)-1] != up+"/f" {
		t.Errorf("P14.1: Names of those alike: %q", names)
	}
	last := len(nodes) - 1
	swapped := slices.Clone(nodes)
	swapped[last], swapped[last-1] = swapped[last-1], swapped[last]
	checkNone(t, "two alike in their first bytes, the greater one ahead", modelLay(swapped))
	checkNone(t, "one of those alike twice", modelLay(append(slices.Clone(nodes), nodes[last])))
}

// Both records at once, so long that they go over a block's end, and to just that.
func TestRecordsOfMoreThanOneBlock(t *testing.T) {
	lengths := map[int]bool{}
	for size := 101; size <= 400; size++ {
		for _, n := range []int{101, 107, 150, 200} {
			b := checkTree(t, append(housed(link(long(n), counted(size))), file("~", counted(size))))
			at := strings.LastIndex(b, "\x00pax\x00") + 1
			length, _ := strconv.ParseInt(b[at+124:at+135], 8, 64)
			lengths[int(length)] = true
		}
	}
	if !lengths[511] || !lengths[512] || !lengths[513] || !lengths[624] {
		t.Errorf("the records of no tree here have just as many bytes as a block, or as many as they may have")
	}
}

func TestMostNodes(t *testing.T) {
	t.Parallel()
	for _, nodes := range [][]api.Node{flat(api.MaxNodes), greatest(api.File), greatest(api.Link)} {
		b := checkTree(t, nodes)
		for _, more := range []string{entries(dir("~")), entries(file("~", text(400))), entries(dir("~"), dir("~~")), entries(link("~", text(101))), ahead("pax", ""), ahead("pax", modelRecord("path", long(101))), entries(nodes[len(nodes)-1]), b} {
			checkNone(t, "one node more than there may be", strings.TrimSuffix(b, ending)+more+ending)
		}
	}
	for _, n := range []int{api.MaxNodes + 1, api.MaxNodes + 2, 2 * api.MaxNodes, 5000} {
		checkNone(t, strconv.Itoa(n)+" nodes", modelLay(flat(n)))
	}
}

func TestDeepestPaths(t *testing.T) {
	for n := 1; n <= api.MaxDepth; n++ {
		checkTree(t, housed(dir(deep(n))))
		checkTree(t, housed(link(deep(n), text(101))))
	}
	checkNone(t, "a path of 11 parts", modelLay(housed(dir(deep(11)))))
	checkNone(t, "a path of 201 bytes", modelLay(housed(file(long(200)+"x", ""))))
	checkNone(t, "a part of 61 bytes", modelLay(housed(file(text(61), ""))))
}

func TestAllShortListsOfNodes(t *testing.T) {
	t.Parallel()
	pool := []api.Node{dir(""), file("", "x"), link("", text(101)), dir("a"), link("a", "b"), file("a/b", text(101)), dir("a/b"), exec("b", ""), file("b", text(401)), dir("."), dir("a/"), file("pax", "")}
	trees := 0
	for i := range pool {
		for j := range pool {
			for k := range pool {
				for n := range 4 {
					nodes := []api.Node{pool[i], pool[j], pool[k]}[:n]
					// The root's name may as well be that of a node which is none.
					nodes = slices.DeleteFunc(slices.Clone(nodes), func(n api.Node) bool { return n.Path == "." && n.Kind != api.Dir })
					if check(t, modelLay(nodes)) {
						trees++
					}
				}
			}
		}
	}
	if trees < len(pool)*len(pool) {
		t.Errorf("only %d of the short lists are trees", trees)
	}
}

func TestNodesThatAreNoTree(t *testing.T) {
	root := dir("")
	for _, nodes := range [][]api.Node{
		{}, {dir("a")}, {file("a", "")}, {dir("a"), root}, {root, root}, {root, file("", "")}, {file("", ""), file("a", "")}, {link("", "x"), dir("a")},
		{root, file("b", ""), file("a", "")}, {root, file("a", ""), file("a", "")}, {root, file("a", ""), exec("a", "")}, {root, file("a/b", "")}, {root, file("a/b", ""), dir("a")}, {root, file("a", ""), file("a/b", "")}, {root, exec("a", ""), file("a/b", "")}, {root, link("a", "b"), dir("a/b")},
		{root, link("a", "")}, {root, link("a", "x\x00y")}, {root, link("a", "\x00")}, {root, link("a", text(401))}, {root, link("a", text(4000))}, {root, file("a", text(401))}, {root, exec("a", text(401))}, {root, file("a", text(512))}, {root, file("a", text(513))}, {root, exec("a", text(100000))},
		{root, dir("a/")}, {root, dir("/a")}, {root, dir("/")}, {root, dir("./a")}, {root, dir("a"), dir("a/.")}, {root, dir("..")}, {root, dir("a"), file("a/..", "")}, {root, dir(".wh.a")}, {root, dir("a"), file("a//b", "")}, {root, dir("a\x00b")}, {root, dir(text(61))}, {root, dir(text(101))}, {root, dir(text(10000))}, housed(dir(deep(11))), housed(dir(long(200) + "x")), housed(file(long(150)+"/"+text(50), "")),
		small()[1:], append(sample(), dir("")), append(sample(), sample()...), append(small(), sample()...), flat(api.MaxNodes + 1),
	} {
		checkNone(t, show(nodes), modelLay(nodes))
		checkNone(t, "no end behind "+show(nodes), entries(nodes...))
	}
}

func TestOneFaultAtEachPlace(t *testing.T) {
	t.Parallel()
	for _, whole := range [][]api.Node{small(), sample(), flat(30), greatest(api.Link)[:12]} {
		for at, n := range whole {
			wrong := []api.Node{{Path: n.Path + "/", Kind: n.Kind, Data: n.Data}, {Path: n.Path, Kind: api.File, Data: text(401)}, {Path: n.Path, Kind: api.Link}, {Path: "nowhere/" + n.Path, Kind: n.Kind, Data: n.Data}}
			for _, n := range wrong {
				nodes := slices.Clone(whole)
				nodes[at] = n
				checkNone(t, show(whole)+" with a fault at "+strconv.Itoa(at), modelLay(nodes))
			}
			checkNone(t, "a node twice", modelLay(slices.Insert(slices.Clone(whole), at, n)))
			check(t, modelLay(slices.Delete(slices.Clone(whole), at, at+1)))
			check(t, modelLay(whole[:at]))
			check(t, modelLay(whole[at:]))
			for other := range at {
				nodes := slices.Clone(whole)
				nodes[at], nodes[other] = nodes[other], nodes[at]
				checkNone(t, "two nodes, the greater one ahead", modelLay(nodes))
			}
		}
	}
}

func TestCutShort(t *testing.T) {
	t.Parallel()
	for _, nodes := range [][]api.Node{{dir("")}, {file("", "x")}, {link("", text(101))}, small(), sample()} {
		b := modelLay(nodes)
		for n := range len(b) {
			// Of long bytes not each place, but all edges of blocks.
			if len(b) > 20*512 && n%512 > 1 && n%512 < 511 && n%37 > 0 {
				continue
			}
			checkNone(t, "a tar cut short", b[:n])
			if n%29 == 1 {
				checkNone(t, "a tar cut short, and an end", b[:n]+ending)
			}
		}
		for n := 0; n < len(b); n += 512 {
			check(t, b[:n]+ending)
			check(t, b[:n]+zeros(512))
			check(t, b[len(b)-n:])
			check(t, b[:n]+b[n+512:])
		}
	}
	for _, nodes := range [][]api.Node{flat(api.MaxNodes), greatest(api.Exec), greatest(api.Link)} {
		b := modelLay(nodes)
		for n := 0; n < len(b); n += 512 * 53 {
			checkNone(t, "a great tar cut short", b[:n])
		}
		for n := len(b) - 2*512 - 3; n < len(b); n += 41 {
			checkNone(t, "a great tar cut short", b[:n])
		}
		for n := len(b) - 1030; n < len(b)-1020; n++ {
			checkNone(t, "a great tar cut short", b[:n])
		}
		checkNone(t, "a great tar cut short", b[:len(b)-1])
		checkNone(t, "a great tar cut short", b[:len(b)-512])
	}
}

func TestBytesBehind(t *testing.T) {
	t.Parallel()
	for _, nodes := range [][]api.Node{{dir("")}, {file("", text(400))}, {link("", text(101))}, small(), sample()} {
		b := modelLay(nodes)
		for _, more := range []string{"\x00", "x", zeros(511), zeros(512), zeros(513), zeros(1024), zeros(20*512 - len(b)%(20*512)), zeros(100000), "\n", b, entries(dir("~")), entries(dir("~")) + ending, entries(nodes[0]), ahead("pax", ""), ahead("pax", "") + ending, text(512)} {
			checkNone(t, "a tar and bytes behind it", b+more)
			checkNone(t, "bytes ahead of a tar", more+b)
		}
		for n := 1; n < 1100; n++ {
			checkNone(t, "a tar and bytes 0 behind it", b+zeros(n))
		}
		for at := 512; at < len(b); at += 512 {
			checkNone(t, "a block of bytes 0 more", b[:at]+zeros(512)+b[at:])
			checkNone(t, "two blocks of bytes 0 more", b[:at]+ending+b[at:])
			checkNone(t, "a block again", b[:at]+b[at-512:])
		}
	}
}

// Each other value at each byte of one tar with an entry ahead; of larger ones some values.
func TestEachByteAnotherOne(t *testing.T) {
	t.Parallel()
	nodes := []api.Node{link("", text(101))}
	b := modelLay(nodes)
	for at := range b {
		for x := range 256 {
			// Where bytes 0 fill something up not each other value, so that the tests end soon.
			if byte(x) != b[at] && (b[at] != 0 || x%16 == 1) {
				checkChanged(t, b, nodes, at, byte(x))
			}
		}
	}
	for _, nodes := range [][]api.Node{{dir("")}, small(), housed(link(long(150), counted(400)))} {
		b := modelLay(nodes)
		for at := range b {
			for _, x := range []byte{b[at] ^ 1, b[at] ^ 128, '0'} {
				if x != b[at] {
					checkChanged(t, b, nodes, at, x)
				}
			}
		}
	}
	b = modelLay(sample())
	for at := 0; at < len(b); at += 3 {
		checkChanged(t, b, sample(), at, b[at]^16)
	}
}

// checkChanged asks whether a byte that is another one is told, or makes another tree.
func checkChanged(t *testing.T, b string, old []api.Node, at int, to byte) {
	t.Helper()
	given := []byte(b)
	given[at] = to
	nodes, e := untar.Read(given)
	want, is := modelRead(string(given))
	if is != (e == api.OK) || !slices.Equal(nodes, want) || !is && (e != api.ErrForm || nodes != nil) {
		t.Fatalf("P14.2: byte %d is %d: %s, %d, not %s", at, to, show(nodes), e, show(want))
	}
	if slices.Equal(nodes, old) {
		t.Fatalf("P14.2: byte %d is %d, and the tree is the same", at, to)
	}
}

// Where the sum goes with the byte, the bytes of names, links and Data make other trees.
func TestEachByteAnotherOneAndItsSum(t *testing.T) {
	t.Parallel()
	trees := 0
	for _, nodes := range [][]api.Node{{dir("")}, {link("", text(101))}, small(), housed(file(long(120), "x"))} {
		b := modelLay(nodes)
		for start := 0; start < len(b)-1024; start += 512 {
			if b[start+257:start+262] != "ustar" {
				continue
			}
			for at := start; at < start+512; at++ {
				for _, x := range []byte{0, '0', '7', 'a', 'x', '/', b[at] ^ 1} {
					if c := mended(changed(b, at, x), start); check(t, c) {
						trees++
					}
				}
			}
		}
	}
	if trees < 300 {
		t.Errorf("only %d of the changed tars are those of trees", trees)
	}
}

// Bytes of Data, and of a link's or a name's end that stands in a record alone, have no sum.
func TestBytesThatMakeAnotherTree(t *testing.T) {
	p := long(180)
	nodes := append(housed(link(p, counted(300))), file("~", counted(400)))
	b := modelLay(nodes)
	for at := range b {
		other := changed(b, at, '~')
		if b[at] == '~' || !check(t, other) {
			continue
		}
		got, _ := untar.Read([]byte(other))
		unlike := 0
		for i := range got {
			if got[i] != nodes[i] {
				unlike++
			}
		}
		if unlike != 1 || len(got) != len(nodes) {
			t.Errorf("P14.2: byte %d another one: %d nodes are others", at, unlike)
		}
	}
	for at := 101; at < 300; at++ {
		want := append(slices.Clone(nodes[:len(nodes)-2]), link(p, counted(300)[:at]+"~"+counted(300)[at+1:]), nodes[len(nodes)-1])
		from := strings.Index(b, " linkpath=") + len(" linkpath=")
		if got, e := untar.Read([]byte(changed(b, from+at, '~'))); e != api.OK || !slices.Equal(got, want) {
			t.Fatalf("P14.2: byte %d of a link another one: %s, %d", at, show(got), e)
		}
	}
}

// wrongRecords are such as do not stand ahead of an entry of this name and link, either of which may be short.
func wrongRecords(name, goes string) map[string]string {
	right, other := "", ""
	if len(name) > 100 {
		right += modelRecord("path", name)
		other = right
	}
	if len(goes) > 100 {
		right += modelRecord("linkpath", goes)
		other = modelRecord("linkpath", goes) + other
	}
	all := map[string]string{
		"none": "", "twice": right + right, "in the other order": other,
		"with a path more": right + modelRecord("path", name), "with a path ahead": modelRecord("path", name) + right, "with a link more": right + modelRecord("linkpath", goes), "with a link ahead": modelRecord("linkpath", goes) + right,
		"with another key": right + modelRecord("mtime", "0"), "with another key ahead": modelRecord("mtime", "0") + right, "with an empty key": right + modelRecord("", ""), "with an empty path": right + modelRecord("path", ""), "with an empty link": right + modelRecord("linkpath", ""),
		"with a path . behind": right + modelRecord("path", "."), "with a path . ahead": modelRecord("path", ".") + right,
		"with a 0 ahead": "0" + right, "with a sign": "+" + right, "with a sign below 0": "-" + right, "with a blank ahead": " " + right, "with a byte 10 ahead": "\n" + right, "with a byte 10 behind": right + "\n", "with a byte 0 behind": right + "\x00", "with a byte behind": right + "x", "with a digit behind": right + "1", "with a length alone behind": right + "1 ", "with a length of 0 behind": right + "0 =\n", "with a great length behind": right + "99999999999999999999 =\n", "with the greatest length behind": right + "9223372036854775807 =\n", "with the least length behind": right + "-9223372036854775808 =\n",
		"with a blank more": strings.Replace(right, " ", "  ", 1), "without a blank": strings.Replace(right, " ", "", 1), "with a tab": strings.Replace(right, " ", "\t", 1), "with a blank before the =": strings.Replace(right, "=", " =", 1), "with a blank behind the =": strings.Replace(right, "=", "= ", 1), "without an =": strings.Replace(right, "=", "", 1), "with two =": strings.Replace(right, "=", "==", 1), "with a colon": strings.Replace(right, "=", ":", 1),
		"of the key Path": strings.Replace(right, "path=", "Path=", 1), "of the key path_": strings.Replace(right, "path=", "path_=", 1), "of the key pat": strings.Replace(right, "path=", "pat=", 1), "of an empty key": strings.Replace(right, "path=", "=", 1), "of the key GNU.path": strings.Replace(right, "path=", "GNU.path=", 1),
		"of byte 13 for 10": strings.Replace(right, "\n", "\r", 1), "of bytes 13 and 10": strings.Replace(right, "\n", "\r\n", 1), "of a byte 0 for 10": strings.Replace(right, "\n", "\x00", 1),
	}
	if right != "" {
		all["without its end"] = right[:len(right)-1]
		all["without its last bytes"] = right[:len(right)-2] + "\n"
		all["cut in two"] = right[:len(right)/2]
		all["its length one more"] = "1" + right
		for _, n := range []int{-1, 1, 10, -10, 100, 1000} {
			digits, rest, _ := strings.Cut(right, " ")
			length, _ := strconv.Atoi(digits)
			all["with a length of "+strconv.Itoa(n)+" more"] = strconv.Itoa(length+n) + " " + rest
		}
	}
	for what, records := range all {
		if records == right {
			delete(all, what)
		}
	}
	return all
}

// headOf is the header of an entry for which one stands ahead.
func headOf(n api.Node) string {
	whole := modelEntry(n)
	if len(n.Data) == 0 || n.Kind == api.Link {
		return whole[len(whole)-512:]
	}
	return whole[len(whole)-1024:]
}

func TestEntriesAhead(t *testing.T) {
	for _, n := range []api.Node{file("f", "x"), dir("d"), link("l", "x"), link("l", text(100)), link("l", text(101)), link("l", counted(400)), file(long(100), "x"), file(long(101), "x"), exec(long(200), ""), dir(long(120)), link(long(101), "x"), link(long(101), text(101)), link(long(200), counted(400))} {
		before := entries(housed(n)[:len(housed(n))-1]...)
		goes := ""
		if n.Kind == api.Link {
			goes = n.Data
		}
		whole := before + modelEntry(n) + ending
		if !check(t, whole) {
			t.Fatalf("%s is no tree", show(housed(n)))
		}
		right := strings.TrimSuffix(modelEntry(n), headOf(n))
		for what, records := range wrongRecords(n.Path, goes) {
			what = "an entry ahead of " + show([]api.Node{n}) + " " + what
			checkNone(t, what, before+ahead("pax", records)+headOf(n)+ending)
			if right != "" {
				checkNone(t, what+", and the right one", before+ahead("pax", records)+right+headOf(n)+ending)
				checkNone(t, what+", behind the right one", before+right+ahead("pax", records)+headOf(n)+ending)
			}
		}
		if right == "" {
			continue
		}
		// That may be the tar of another tree, whose name or link goes no further.
		check(t, before+headOf(n)+ending)
		checkNone(t, "two entries ahead", before+right+right+headOf(n)+ending)
		checkNone(t, "an entry ahead alone", before+right+ending)
		checkNone(t, "an entry ahead at the end", whole[:len(whole)-1024]+right+ending)
		checkNone(t, "an entry ahead of its own one's Dir", right+before+headOf(n)+ending)
		checkNone(t, "an entry ahead behind its own one", before+headOf(n)+right+ending)
		checkNone(t, "an entry ahead of another one", before+right+entries(file("~", ""))+ending)
		checkNone(t, "an entry ahead and the end of it all", before+right)
		for _, name := range []string{"PAX", "pa", "paxx", "pax/", "./pax", ".", n.Path[:min(100, len(n.Path))], "PaxHeaders.0/pax", text(100)} {
			records := right[512:]
			checkNone(t, "an entry ahead named "+name, before+modelHeader(name, "0000644", "x", len(strings.TrimRight(records, "\x00")), "")+records+headOf(n)+ending)
		}
	}
}

// The entry ahead says another name or link than that whose beginning the header has.
func TestHeadersThatSayOtherwise(t *testing.T) {
	p, goes := long(150), counted(200)
	before := entries(housed(dir(p))[:len(housed(dir(p)))-1]...)
	records := ahead("pax", modelRecord("path", p)+modelRecord("linkpath", goes))
	right := modelHeader(p[:100], "0000777", "2", 0, goes[:100])
	if !check(t, before+records+right+ending) {
		t.Fatal("the sample is no tar")
	}
	for n := range 100 {
		checkNone(t, "less of the name", before+records+modelHeader(p[:max(n, 1)], "0000777", "2", 0, goes[:100])+ending)
		checkNone(t, "less of the link", before+records+modelHeader(p[:100], "0000777", "2", 0, goes[:n])+ending)
		checkNone(t, "another name", before+records+modelHeader(changed(p[:100], n, '~'), "0000777", "2", 0, goes[:100])+ending)
		checkNone(t, "another link", before+records+modelHeader(p[:100], "0000777", "2", 0, changed(goes[:100], n, '~'))+ending)
		other := ahead("pax", modelRecord("path", changed(p, n, '~'))+modelRecord("linkpath", goes))
		checkNone(t, "another name ahead", before+other+right+ending)
		other = ahead("pax", modelRecord("path", p)+modelRecord("linkpath", changed(goes, n, '~')))
		checkNone(t, "another link ahead", before+other+right+ending)
		check(t, before+ahead("pax", modelRecord("path", p[:n+50])+modelRecord("linkpath", goes))+right+ending)
		check(t, before+ahead("pax", modelRecord("path", p)+modelRecord("linkpath", goes[:n+50]))+right+ending)
		check(t, before+ahead("pax", modelRecord("path", p)+modelRecord("linkpath", goes+goes[:n+101]))+right+ending)
	}
	for _, kind := range []string{modelHeader(p[:100], "0000644", "0", 0, ""), modelHeader(p[:100], "0000755", "0", 0, ""), modelHeader(p[:100], "0000755", "5", 0, ""), modelHeader(p[:100], "0000644", "0", 0, goes[:100]), modelHeader(p[:100], "0000755", "5", 0, goes[:100])} {
		checkNone(t, "a link's record of what is no Link", before+records+kind+ending)
	}
}

func TestHeadersThatAreNone(t *testing.T) {
	t.Parallel()
	root := entries(dir(""))
	for _, header := range []string{
		modelHeader("a", "0000755", "0", 0, "b"), modelHeader("a", "0000755", "5", 0, "b"), modelHeader("a", "0000755", "5", 1, ""), modelHeader("a", "0000755", "5", 512, ""), modelHeader("a", "0000777", "2", 0, ""), modelHeader("a", "0000777", "2", 1, "b"), modelHeader("a", "0000777", "2", 512, "b"), modelHeader("", "0000644", "0", 0, ""), modelHeader("", "0000755", "5", 0, ""),
		modelHeader("a\x00b", "0000644", "0", 0, ""), modelHeader("a", "0000777", "2", 0, "b\x00c"), modelHeader("a", "0000644", "x", 0, "b"), modelHeader("a", "0000644", "x", 0, ""), modelHeader("pax", "0000644", "x", 0, ""),
		modelHeader("a", "0000644", "0", 512, ""), modelHeader("a", "0000644", "0", 513, ""), modelHeader("a", "0000644", "0", 1024, ""), modelHeader("a", "0000644", "0", 1025, ""), modelHeader("a", "0000644", "0", 1536, ""), modelHeader("a", "0000644", "0", 1537, ""), modelHeader("a", "0000755", "0", 1<<31-1, ""), modelHeader("a", "0000755", "0", 1<<31, ""), modelHeader("a", "0000755", "0", 1<<32, ""), modelHeader("a", "0000755", "0", 1<<33-1, ""), modelHeader("pax", "0000644", "x", 1<<33-1, ""),
	} {
		for _, behind := range []string{"", zeros(512), text(512), header} {
			checkNone(t, "a wrong header", root+header+behind+ending)
			checkNone(t, "a wrong header first", header+behind+ending)
			checkNone(t, "a wrong header last", root+behind+header)
		}
	}
	modes := []string{"0000755", "0000644", "0000777", "0000000", "0000600", "0000754", "0100755", "0100644", "755    ", "0000755"[1:] + "\x00", " 000755", "0000855"}
	for sign := range 256 {
		for _, mode := range modes {
			for _, goes := range []string{"", "b"} {
				header := modelHeader("a", mode, byteText(sign), 0, goes)
				check(t, root+header+ending)
				check(t, modelHeader(".", mode, byteText(sign), 0, goes)+ending)
				check(t, root+ahead("pax", modelRecord("path", "a"))+header+ending)
			}
		}
	}
	header := modelHeader("a", "0000644", "0", 0, "")
	for sum := range 1 << 13 {
		if c := header[:148] + fmt.Sprintf("%06o\x00 ", sum) + header[156:]; check(t, root+c+ending) != (c == header) {
			t.Fatalf("P14.1: a sum of %o is taken", sum)
		}
	}
	for _, sum := range []string{"006076\x00\x00", "006076  ", "006076 \x00", " 06076\x00 ", "  6076\x00 ", "6076\x00   ", "0006076\x00", "00006076", "        ", zeros(8)} {
		checkNone(t, "a sum written otherwise", root+header[:148]+sum+header[156:]+ending)
	}
}

// What stands behind sizes greater than what there is, is not read.
func TestSizesGreaterThanWhatThereIs(t *testing.T) {
	root := entries(dir(""))
	for _, sign := range []string{"0", "x"} {
		for _, size := range []int{1, 400, 511, 512, 513, 624, 1023, 1024, 1025, 100000, 1<<31 - 1, 1 << 32, 1<<33 - 1} {
			for _, behind := range []int{0, 1, 400, 511, 512, 513, 1023, 1024, 1025, 1536, 2048, 10000} {
				check(t, root+modelHeader("a", "0000644", sign, size, "")+zeros(behind))
				check(t, root+modelHeader("a", "0000644", sign, size, "")+text(behind))
				check(t, root+modelHeader("a", "0000644", sign, size, "")+text(behind)+ending)
				check(t, modelHeader(".", "0000644", sign, size, "")+zeros(behind))
			}
		}
	}
	if !check(t, modelHeader(".", "0000644", "0", 400, "")+zeros(512+1024)) || check(t, modelHeader(".", "0000644", "0", 400, "")+zeros(512+1023)) {
		t.Error("P14.1: a file of bytes 0 alone")
	}
}

// Blocks of a few tars, in all orders.
func TestAllShortListsOfBlocks(t *testing.T) {
	t.Parallel()
	blocks := []string{
		zeros(512), modelHeader(".", "0000755", "5", 0, ""), modelHeader("a", "0000644", "0", 1, ""), modelFilled("x"), modelHeader("pax", "0000644", "x", 115, ""), modelFilled(modelRecord("linkpath", text(101))), modelHeader(".", "0000777", "2", 0, text(100)), modelHeader("b", "0000777", "2", 0, text(100)),
	}
	trees := 0
	for n := range 6 {
		for order := range 1 << (3 * n) {
			var b strings.Builder
			for at := range n {
				b.WriteString(blocks[order>>(3*at)&7])
			}
			// All have to have an end, or nearly none would be a tar.
			if check(t, b.String()+ending) {
				trees++
			}
		}
	}
	// One block: the root, or a link. Two: a link in the root, or the root's link with what is ahead, which are three blocks.
	if trees < 8 {
		t.Errorf("only %d lists of blocks are tars", trees)
	}
}

func TestRandomBytes(t *testing.T) {
	t.Parallel()
	random := rand.New(rand.NewSource(14))
	for range 20000 {
		b := make([]byte, random.Intn(4000))
		random.Read(b)
		checkNone(t, "random bytes", string(b))
	}
	whole := modelLay(sample())
	for range 1000 {
		b := []byte(whole)
		for range 1 + random.Intn(3) {
			at := random.Intn(len(b) - 8)
			random.Read(b[at : at+1+random.Intn(7)])
		}
		check(t, string(b))
		from, to := random.Intn(len(whole)/512), random.Intn(len(whole)/512)
		check(t, whole[:512*from]+whole[512*to:])
		check(t, whole[:512*from]+zeros(512)+whole[512*to:])
	}
}

// Names alone, or what another writer adds, would be read by one that is not strict.
func TestTarsOfAnotherWriter(t *testing.T) {
	for _, format := range []stdtar.Format{stdtar.FormatUSTAR, stdtar.FormatPAX, stdtar.FormatGNU} {
		var out bytes.Buffer
		w := stdtar.NewWriter(&out)
		for _, h := range []*stdtar.Header{{Name: ".", Typeflag: '5', Mode: 0o755}, {Name: "a", Typeflag: '0', Mode: 0o644, Size: 2}, {Name: "l", Typeflag: '2', Mode: 0o777, Linkname: "a"}} {
			h.Format = format
			if e := w.WriteHeader(h); e != nil {
				t.Fatal(e)
			}
			if h.Size > 0 {
				w.Write([]byte("12"))
			}
		}
		if e := w.Close(); e != nil {
			t.Fatal(e)
		}
		checkNone(t, "another writer's tar", out.String())
	}
}

func TestBytesThatAreNoTar(t *testing.T) {
	for _, b := range [][]byte{nil, {}, make([]byte, 0, 2048), {0}, {'.'}, make([]byte, 511), make([]byte, 512), make([]byte, 513), make([]byte, 1023), make([]byte, 1024), make([]byte, 1025), make([]byte, 1536), make([]byte, 2048), make([]byte, 10240), bytes.Repeat([]byte("."), 2048), bytes.Repeat([]byte{255}, 4096), []byte("11 path=ab\n")} {
		nodes, e := untar.Read(b)
		names, told := untar.Names(b)
		if nodes != nil || e != api.ErrForm || names != nil || told != api.ErrForm {
			t.Errorf("P14.1, R2: of %d bytes %.20q: %v, %d; %q, %d", len(b), b, nodes, e, names, told)
		}
		checkNone(t, "no tar", string(b))
	}
	for n := range 3000 {
		checkNone(t, "bytes 0", zeros(n))
	}
}

// All of these end in a time that their length explains.
func TestVeryManyBytes(t *testing.T) {
	t.Parallel()
	const many = 1 << 23
	root := entries(dir(""))
	records := modelRecord("path", text(101))
	for _, b := range []string{
		zeros(many), text(many), strings.Repeat(root, many/512), root + zeros(many), root + strings.Repeat(entries(file("a", "x")), many/1024), modelLay(flat(many / 1024)), strings.Repeat(ahead("pax", records), many/1024) + root + ending,
		modelHeader("a", "0000644", "0", many, "") + zeros(many) + ending, root + modelHeader("a", "0000755", "0", many, "") + text(many) + ending, root + ahead("pax", strings.Repeat(records, many/len(records))) + entries(file("a", "")) + ending,
		root + ahead("pax", text(many)) + ending, root + ahead("pax", strings.Repeat("1", many)) + ending, root + ahead("pax", strings.Repeat(" ", many)) + root + ending, root + ahead("pax", strings.Repeat("9 path=a\n", many/9)) + entries(file("a", "")) + ending, root + ahead("pax", strings.Repeat("3 =", many/3)) + entries(file("a", "")) + ending,
		root + ahead("pax", modelRecord("path", text(many))) + modelHeader(text(100), "0000644", "0", 0, "") + ending, root + ahead("pax", modelRecord("linkpath", text(many))) + modelHeader("l", "0000777", "2", 0, text(100)) + ending,
	} {
		given := []byte(b)
		nodes, e := untar.Read(given)
		names, told := untar.Names(given)
		if nodes != nil || e != api.ErrForm || names != nil || told != api.ErrForm {
			t.Errorf("P14.1, R2: of %d bytes %.20q: %s, %d; %d names, %d", len(b), b, show(nodes), e, len(names), told)
		}
	}
}

func TestWhatIsHandedInStays(t *testing.T) {
	for _, nodes := range trees() {
		b := modelLay(nodes)
		for _, n := range []int{len(b), len(b) - 1, len(b) - 512, len(b) - 1024, 512, 0} {
			// What stands in the spare room would make it whole, or another one.
			whole := []byte(b + entries(dir("~")) + ending)
			kept := bytes.Clone(whole)
			for range 2 {
				got, e := untar.Read(whole[:n])
				names, told := untar.Names(whole[:n])
				is := n == len(b)
				if (e == api.OK) != is || told != e || is && (!slices.Equal(got, nodes) || !slices.Equal(names, pathsOf(nodes))) || !is && (got != nil || names != nil) {
					t.Fatalf("R5: of %d bytes of %s, with spare room: %s, %d; %d names, %d", n, show(nodes), show(got), e, len(names), told)
				}
				if !bytes.Equal(whole, kept) {
					t.Fatalf("R4: the tar of %s is changed, or its spare room", show(nodes))
				}
			}
		}
	}
}

func TestAnswersShareNothing(t *testing.T) {
	for _, nodes := range trees() {
		given := []byte(modelLay(nodes))
		first, _ := untar.Read(given)
		second, _ := untar.Read(given)
		names, _ := untar.Names(given)
		others, _ := untar.Names(given)
		for i := range first[:cap(first)] {
			first[:cap(first)][i] = file("?", "?")
		}
		for i := range names[:cap(names)] {
			names[:cap(names)][i] = "?"
		}
		third, e := untar.Read(given)
		if e != api.OK || !slices.Equal(third, nodes) || string(given) != modelLay(nodes) {
			t.Fatalf("R4: what is read of %s shares memory", show(nodes))
		}
		for i := range given {
			given[i] = '?'
		}
		if !slices.Equal(second, nodes) || !slices.Equal(third, nodes) || !slices.Equal(others, pathsOf(nodes)) {
			t.Fatalf("R4: what was read of %s changes with its bytes, or with another answer", show(nodes))
		}
	}
}

func TestAnswersHangOnNothingElse(t *testing.T) {
	all := []string{"", zeros(1024), text(512), modelLay(small()), modelLay(sample()), modelLay(small())[:1000], modelLay(small()[1:]), entries(link("", text(101))), entries(link("", text(101))) + ending, modelLay(housed(file(long(150), "x"))), modelLay(flat(api.MaxNodes + 1))}
	for range 3 {
		for i := range all {
			for j := range all {
				check(t, all[i])
				check(t, all[j])
			}
		}
	}
}

func TestFromSeveralGoroutines(t *testing.T) {
	nodes := sample()
	b, wrong := []byte(modelLay(nodes)), []byte(modelLay(small()[1:]))
	var group sync.WaitGroup
	for range 8 {
		group.Go(func() {
			for range 50 {
				got, e := untar.Read(b)
				names, told := untar.Names(b)
				none, no := untar.Read(wrong)
				if !slices.Equal(got, nodes) || e != api.OK || !slices.Equal(names, pathsOf(nodes)) || told != api.OK || none != nil || no != api.ErrForm {
					t.Error("R5: calls at one time")
				}
				got[0], names[0] = file("?", "?"), "?"
			}
		})
	}
	group.Wait()
}

// The sign of an entry ahead is a kind of package head's, which no node has.
func TestExtraIsNoKindOfNodes(t *testing.T) {
	root := entries(dir(""))
	for _, header := range []string{modelHeader("pax", "0000644", "x", 0, ""), modelHeader("f", "0000644", "x", 0, ""), ahead("pax", modelRecord("path", long(101)))} {
		if _, kind, _, _, ok := head.Read([]byte(header[:512])); !ok || kind != head.Extra {
			t.Fatalf("%.40q is no header of an entry ahead", header)
		}
		for _, b := range []string{header, header + header, root + header, root + header + header, root + header + header + header, root + entries(file("a", "x")) + header, header + root, header + root + header} {
			checkNone(t, "an entry ahead as a node", b+ending)
		}
	}
}

func TestThePackageCallsTarAndHead(t *testing.T) {
	files, e := os.ReadDir(".")
	if e != nil {
		t.Fatal(e)
	}
	may := []string{`"hogshead/api"`, `"hogshead/head"`, `"hogshead/tar"`}
	for _, file := range files {
		if !strings.HasSuffix(file.Name(), ".go") || strings.HasSuffix(file.Name(), "_test.go") {
			continue
		}
		parsed, e := parser.ParseFile(token.NewFileSet(), file.Name(), nil, parser.ImportsOnly)
		if e != nil {
			t.Fatal(e)
		}
		for _, one := range parsed.Imports {
			if strings.HasPrefix(one.Path.Value, `"hogshead`) && !slices.Contains(may, one.Path.Value) {
				t.Errorf("P14.1: the package calls %s", one.Path.Value)
			}
		}
	}
}

func FuzzRead(f *testing.F) {
	f.Add([]byte(nil))
	f.Add(make([]byte, 1024))
	f.Add([]byte(modelLay(small())))
	f.Add([]byte(modelLay(sample())))
	f.Add([]byte(entries(link("", text(101)))))
	f.Fuzz(func(t *testing.T, b []byte) {
		check(t, string(b))
		check(t, string(b)+ending)
		check(t, entries(dir(""))+string(b)+ending)
	})
}

func FuzzAhead(f *testing.F) {
	f.Add(modelRecord("path", long(150)), long(100), "")
	f.Add(modelRecord("linkpath", text(101)), "l", text(100))
	f.Add("9 path=a\n", "a", "x")
	f.Fuzz(func(t *testing.T, records, name, goes string) {
		name, goes = name[:min(100, len(name))], goes[:min(100, len(goes))]
		for _, header := range []string{modelHeader(name, "0000644", "0", 0, goes), modelHeader(name, "0000755", "5", 0, ""), modelHeader(name, "0000777", "2", 0, goes)} {
			check(t, entries(dir(""))+ahead("pax", records)+header+ending)
			check(t, ahead("pax", records)+header+ending)
		}
	})
}

func FuzzThereAndBack(f *testing.F) {
	f.Add("a", 2, "x")
	f.Add(long(150), 4, text(101))
	f.Add("d", 1, "")
	f.Fuzz(func(t *testing.T, p string, kind int, data string) {
		nodes := housed(api.Node{Path: p, Kind: kind, Data: data})
		if p == "" {
			nodes = nodes[1:]
		}
		if modelMay(nodes) {
			checkTree(t, nodes)
		}
	})
}
