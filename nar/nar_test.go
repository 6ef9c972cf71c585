package nar_test

import (
	"bytes"
	"encoding/binary"
	"math"
	"slices"
	"strconv"
	"strings"
	"sync"
	"testing"

	"hogshead/api"
	"hogshead/nar"
	"hogshead/tree"
)

func dir(p string) api.Node { return api.Node{Path: p, Kind: api.Dir} }

func file(p, data string) api.Node { return api.Node{Path: p, Kind: api.File, Data: data} }

func exec(p, data string) api.Node { return api.Node{Path: p, Kind: api.Exec, Data: data} }

func link(p, data string) api.Node { return api.Node{Path: p, Kind: api.Link, Data: data} }

// text makes n bytes that may stand anywhere.
func text(n int) string { return strings.Repeat("x", n) }

// show tells the first few nodes, for a message.
func show(nodes []api.Node) string {
	var out strings.Builder
	for _, n := range nodes[:min(len(nodes), 12)] {
		out.WriteString(" {" + strconv.Quote(n.Path) + " " + strconv.Itoa(n.Kind) + " " + strconv.Quote(n.Data[:min(len(n.Data), 20)]) + "}")
	}
	return strconv.Itoa(len(nodes)) + " nodes" + out.String()
}

// sample is a tree with all kinds, paths and Data of 0 to 9 bytes and more, and bytes 0 in its Data.
func sample() []api.Node {
	return []api.Node{
		dir(""), dir("a"), file("a-", ""), link("a.x", "../a"), file("a/1234567", "12345678"), exec("a/b", "\x00\xff"), dir("a/c"), file("a/c/1234567890", "123456789"),
		exec("a/d", "1234567"), link("b", text(400)), file("c", strings.Repeat("\x00", 8)), file("d", "\x00"), dir("\xff"), file("\xff/\x01", "z\x00"),
	}
}

// small is a tree whose bytes are few.
func small() []api.Node {
	return []api.Node{dir(""), file("a", "1\x00"), link("b", "12345678")}
}

// flat makes a tree of n nodes: the root, and files in it.
func flat(n int) []api.Node {
	t := []api.Node{dir("")}
	for i := 1; i < n; i++ {
		t = append(t, file("f"+strconv.Itoa(10000000+i), strconv.Itoa(i)))
	}
	return t
}

// greatest makes a tree of as many nodes as there may be, nearly all with a path and Data of as many bytes as there may be.
func greatest() []api.Node {
	long := text(api.MaxSeg)
	up := long + "/" + long + "/" + long
	t := []api.Node{dir(""), dir(long), dir(long + "/" + long), dir(up)}
	for i := len(t); i < api.MaxNodes; i++ {
		name := strconv.Itoa(1000 + i)
		t = append(t, exec(up+"/"+text(api.MaxPath-len(up)-1-len(name))+name, strings.Repeat(name, api.MaxData/len(name))))
	}
	return t
}

// trees are trees of many forms, the least and the greatest among them.
func trees() [][]api.Node {
	deep := []api.Node{dir("")}
	for n := 1; n <= api.MaxDepth; n++ {
		deep = append(deep, dir(strings.TrimSuffix(strings.Repeat("d/", n), "/")))
	}
	lists := [][]api.Node{
		{dir("")}, {file("", "")}, {file("", "x")}, {exec("", "nar-1")}, {link("", "a")}, {file("", text(api.MaxData))},
		small(), sample(), deep, flat(2), flat(api.MaxNodes - 1), flat(api.MaxNodes), greatest(),
	}
	for n := range 40 {
		lists = append(lists, []api.Node{dir(""), file("a", strings.Repeat("\x00", n)), exec("b", strings.Repeat("\xff", n)), link(text(n+1), text(n+1))})
	}
	return lists
}

// noTrees are lists that are none.
func noTrees() [][]api.Node {
	root := dir("")
	return [][]api.Node{
		{{}}, {{Kind: 5}}, {{Kind: -1}}, {{Kind: api.Dir, Data: "x"}}, {link("", "")}, {dir("a")}, {file("a", "")}, {dir("a"), root}, {root, root}, {file("", ""), file("a", "")},
		{root, file("b", ""), file("a", "")}, {root, file("a", ""), file("a", "")}, {root, file("a/b", "")}, {root, file("a/b", ""), dir("a")}, {root, file("a", ""), file("a/b", "")},
		{root, link("a", "")}, {root, link("a", "x\x00")}, {root, file("a", text(401))}, {root, {Path: "a", Kind: api.Dir, Data: "x"}}, {root, {Path: "a"}},
		{root, {Path: "a", Kind: 1<<32 + 1}}, {root, {Path: "a", Kind: 1<<8 + 1}}, {root, {Path: "a", Kind: math.MinInt + 1}}, {root, {Path: "a", Kind: math.MaxInt}}, {root, {Path: "a", Kind: math.MinInt}},
		{root, dir("a/")}, {root, dir("/a")}, {root, dir("..")}, {root, dir(".wh.a")}, {root, dir("a\x00")}, {root, dir(text(61))}, flat(api.MaxNodes + 1), flat(2 * api.MaxNodes), small()[1:], append(sample(), dir("")),
	}
}

// modelNum says by the chapter's words what a number's bytes are.
func modelNum(b []byte, n int) []byte { return binary.BigEndian.AppendUint64(b, uint64(n)) }

// modelText says it of a text's bytes.
func modelText(b []byte, s string) []byte {
	b = append(modelNum(b, len(s)), s...)
	if odd := len(s) % 8; odd != 0 {
		b = append(b, make([]byte, 8-odd)...)
	}
	return b
}

// modelLay says it of the bytes of any nodes, a tree or none.
func modelLay(t []api.Node) []byte {
	b := modelNum(modelText(nil, "nar-1"), len(t))
	for _, n := range t {
		b = modelText(modelNum(modelText(b, n.Path), n.Kind), n.Data)
	}
	return b
}

// modelRead takes b for a tree's bytes without looking at much, and tells the tree if its bytes are just these.
func modelRead(b []byte) ([]api.Node, bool) {
	rest := b
	num := func() int {
		if len(rest) < 8 {
			rest = nil
			return 0
		}
		n := binary.BigEndian.Uint64(rest)
		rest = rest[8:]
		return int(n)
	}
	str := func() string {
		n := min(max(num(), 0), len(rest))
		s := string(rest[:n])
		rest = rest[min((n+7)/8*8, len(rest)):]
		return s
	}
	str()
	var t []api.Node
	for range min(max(num(), 0), 400) {
		p := str()
		k := num()
		t = append(t, api.Node{Path: p, Kind: k, Data: str()})
	}
	if !tree.May(t) || !bytes.Equal(modelLay(t), b) {
		return nil, false
	}
	return t, true
}

// checkLay holds Lay against the model, and tells the bytes.
func checkLay(t *testing.T, nodes []api.Node) []byte {
	t.Helper()
	b, e := nar.Lay(nodes)
	if tree.May(nodes) {
		if e != api.OK || !bytes.Equal(b, modelLay(nodes)) {
			t.Fatalf("P5.1: Lay of %s: %d bytes, %d", show(nodes), len(b), e)
		}
	} else if e != api.ErrTree || b != nil {
		t.Fatalf("P5.1, R2: Lay of %s, no tree: %d bytes, %d", show(nodes), len(b), e)
	}
	return b
}

// checkForm holds Read against ErrForm.
func checkForm(t *testing.T, name string, b []byte) {
	t.Helper()
	if l, e := nar.Read(b); e != api.ErrForm || l != nil {
		t.Errorf("P5.1, R2: Read of %s: %s, %d", name, show(l), e)
	}
}

// checkRead holds Read against the model, and tells whether b is a tree's bytes.
func checkRead(t *testing.T, name string, b []byte) bool {
	t.Helper()
	want, ok := modelRead(b)
	if !ok {
		checkForm(t, name, b)
		return false
	}
	got, e := nar.Read(b)
	if e != api.OK || !slices.Equal(got, want) {
		t.Errorf("P5.1: Read of %s: %s, %d; not %s", name, show(got), e, show(want))
	}
	if again, e := nar.Lay(got); e != api.OK || !bytes.Equal(again, b) {
		t.Errorf("P5.1: %s, read and laid again, is something else: %d", name, e)
	}
	return true
}

// numbers are some at the edges of each byte, below 0 too, and the greatest and the least.
func numbers() []int {
	all := []int{0, 1, 2, 7, 8, 9, 1000000, math.MaxInt, math.MinInt, 0x0102030405060708, -0x0102030405060708}
	for shift := range 64 {
		one := 1 << shift
		all = append(all, one, one-1, one+1, -one, -one-1, -one+1)
	}
	return all
}

func TestNum(t *testing.T) {
	for _, x := range []struct {
		n    int
		want string
	}{
		{0, "\x00\x00\x00\x00\x00\x00\x00\x00"}, {1, "\x00\x00\x00\x00\x00\x00\x00\x01"}, {255, "\x00\x00\x00\x00\x00\x00\x00\xff"}, {256, "\x00\x00\x00\x00\x00\x00\x01\x00"},
		{-1, "\xff\xff\xff\xff\xff\xff\xff\xff"}, {-2, "\xff\xff\xff\xff\xff\xff\xff\xfe"}, {-256, "\xff\xff\xff\xff\xff\xff\xff\x00"},
		{math.MaxInt, "\x7f\xff\xff\xff\xff\xff\xff\xff"}, {math.MinInt, "\x80\x00\x00\x00\x00\x00\x00\x00"}, {0x0102030405060708, "\x01\x02\x03\x04\x05\x06\x07\x08"},
	} {
		for _, ahead := range []string{"", "a", "\x00\xff", "12345678", text(1000)} {
			if got := nar.Num([]byte(ahead), x.n); string(got) != ahead+x.want {
				t.Errorf("P5.1: Num(%.20q, %d): %.40q", ahead, x.n, got)
			}
		}
		if got := nar.Num(nil, x.n); string(got) != x.want {
			t.Errorf("P5.1: Num(none, %d): %q", x.n, got)
		}
	}
	for _, n := range numbers() {
		if got := nar.Num([]byte("ab"), n); !bytes.Equal(got, modelNum([]byte("ab"), n)) {
			t.Errorf("P5.1: Num(ab, %d): %q", n, got)
		}
	}
}

func TestText(t *testing.T) {
	none := "\x00\x00\x00\x00\x00\x00\x00"
	for _, x := range []struct{ s, want string }{
		{"", none + "\x00"}, {"a", none + "\x01a" + none}, {"ab", none + "\x02ab\x00\x00\x00\x00\x00\x00"}, {"1234567", none + "\x071234567\x00"},
		{"12345678", none + "\x0812345678"}, {"123456789", none + "\x09123456789" + none}, {"\x00", none + "\x01\x00" + none}, {"\x00\x00\x00\x00\x00\x00\x00\x00", none + "\x08" + none + "\x00"},
		{text(256), "\x00\x00\x00\x00\x00\x00\x01\x00" + text(256)}, {"\xff\n", none + "\x02\xff\n\x00\x00\x00\x00\x00\x00"}, {"ä", none + "\x02\xc3\xa4\x00\x00\x00\x00\x00\x00"},
	} {
		for _, ahead := range []string{"", "a", "\x00\xff", "1234567", "12345678", text(1000)} {
			if got := nar.Text([]byte(ahead), x.s); string(got) != ahead+x.want {
				t.Errorf("P5.1: Text(%.20q, %.20q): %.60q", ahead, x.s, got)
			}
		}
		if got := nar.Text(nil, x.s); string(got) != x.want {
			t.Errorf("P5.1: Text(none, %.20q): %.60q", x.s, got)
		}
	}
	for n := range 600 {
		if got := nar.Text([]byte("abc"), text(n)); !bytes.Equal(got, modelText([]byte("abc"), text(n))) {
			t.Errorf("P5.1: Text of %d bytes", n)
		}
	}
}

// layers are the calls that tell bytes with others behind.
func layers() map[string]func(b []byte) []byte {
	return map[string]func(b []byte) []byte{
		"Num":           func(b []byte) []byte { return nar.Num(b, -1) },
		"Text":          func(b []byte) []byte { return nar.Text(b, "zzzzz") },
		"Text of none":  func(b []byte) []byte { return nar.Text(b, "") },
		"Text of eight": func(b []byte) []byte { return nar.Text(b, "zzzzzzzz") },
	}
}

func TestBytesAheadStay(t *testing.T) {
	for name, lay := range layers() {
		for n := range 20 {
			for room := range 40 {
				whole := bytes.Repeat([]byte{7}, n+room)
				kept := bytes.Clone(whole)
				first, second := lay(whole[:n]), lay(whole[:n])
				want := bytes.Clone(second)
				if !bytes.Equal(whole, kept) || !bytes.Equal(first, second) {
					t.Fatalf("R4: %s changes the %d bytes ahead, or their room of %d", name, n, room)
				}
				first = first[:cap(first)]
				for i := range first {
					first[i] = 9
				}
				if !bytes.Equal(whole, kept) || !bytes.Equal(second, want) {
					t.Fatalf("R4: what %s tells shares memory with the %d bytes ahead, their room of %d, or another answer", name, n, room)
				}
				for i := range whole {
					whole[i] = 8
				}
				if !bytes.Equal(second, want) {
					t.Fatalf("R4: what %s told changes with the %d bytes ahead, or their room of %d", name, n, room)
				}
			}
		}
	}
}

func TestBehindOneAnother(t *testing.T) {
	var b, want []byte
	for i, n := range numbers() {
		b, want = nar.Text(nar.Num(b, n), text(i%20)), modelText(modelNum(want, n), text(i%20))
	}
	if !bytes.Equal(b, want) {
		t.Error("P5.1: numbers and texts behind one another")
	}
}

func TestLay(t *testing.T) {
	num := func(n byte) string { return "\x00\x00\x00\x00\x00\x00\x00" + string([]byte{n}) }
	head := num(5) + "nar-1\x00\x00\x00"
	for _, x := range []struct {
		nodes []api.Node
		want  string
	}{
		{[]api.Node{dir("")}, head + num(1) + num(0) + num(1) + num(0)},
		{[]api.Node{file("", "x")}, head + num(1) + num(0) + num(2) + num(1) + "x\x00\x00\x00\x00\x00\x00\x00"},
		{[]api.Node{dir(""), exec("a", "12345678"), link("b", "a")}, head + num(3) + num(0) + num(1) + num(0) +
			num(1) + "a\x00\x00\x00\x00\x00\x00\x00" + num(3) + num(8) + "12345678" + num(1) + "b\x00\x00\x00\x00\x00\x00\x00" + num(4) + num(1) + "a\x00\x00\x00\x00\x00\x00\x00"},
	} {
		if b := checkLay(t, x.nodes); string(b) != x.want {
			t.Errorf("P5.1: Lay of %s: %q", show(x.nodes), b)
		}
	}
	for _, nodes := range trees() {
		if checkLay(t, nodes) == nil {
			t.Errorf("%s is no tree", show(nodes))
		}
	}
}

func TestLayOfNoTree(t *testing.T) {
	for _, nodes := range append(noTrees(), nil, []api.Node{}, make([]api.Node, 0, 3), flat(1<<20)) {
		if checkLay(t, nodes) != nil {
			t.Errorf("%s is a tree", show(nodes))
		}
	}
}

func TestReadOfLay(t *testing.T) {
	for _, nodes := range trees() {
		b, _ := nar.Lay(nodes)
		if l, e := nar.Read(b); e != api.OK || !slices.Equal(l, nodes) {
			t.Errorf("P5.1: Read of Lay of %s: %s, %d", show(nodes), show(l), e)
		}
		if !checkRead(t, "a tree's bytes", modelLay(nodes)) {
			t.Errorf("P5.1: %s is not read", show(nodes))
		}
	}
}

func TestReadOfNoTree(t *testing.T) {
	for i, nodes := range noTrees() {
		checkForm(t, "no tree's bytes, number "+strconv.Itoa(i), modelLay(nodes))
	}
	checkForm(t, "no nodes", modelLay(nil))
	checkForm(t, "none", nil)
	checkForm(t, "none, with room", make([]byte, 0, 64))
	checkForm(t, "a great many nodes", modelLay(flat(1<<16)))
}

func TestReadCutShort(t *testing.T) {
	for _, nodes := range [][]api.Node{{dir("")}, {file("", "x")}, small(), sample(), flat(20)} {
		b := modelLay(nodes)
		for n := range b {
			checkForm(t, strconv.Itoa(n)+" of "+strconv.Itoa(len(b))+" bytes", b[:n])
			checkForm(t, strconv.Itoa(n)+" of "+strconv.Itoa(len(b))+" bytes, the last ones", b[len(b)-n:])
		}
	}
	b := modelLay(greatest())
	for n := 0; n < len(b); n += 997 {
		checkForm(t, strconv.Itoa(n)+" of "+strconv.Itoa(len(b))+" bytes", b[:n])
	}
	for n := range 800 {
		checkForm(t, "all but "+strconv.Itoa(n+1)+" of "+strconv.Itoa(len(b))+" bytes", b[:len(b)-n-1])
	}
}

func TestReadWithBytesBehind(t *testing.T) {
	for _, nodes := range [][]api.Node{{dir("")}, {file("", "x")}, small(), sample(), greatest()} {
		b := modelLay(nodes)
		for n := 1; n < 70; n++ {
			for _, more := range []string{"\x00", "\x01", "\xff"} {
				checkForm(t, strconv.Itoa(n)+" bytes more", append(bytes.Clone(b), strings.Repeat(more, n)...))
				checkForm(t, strconv.Itoa(n)+" bytes ahead", append([]byte(strings.Repeat(more, n)), b...))
			}
		}
		checkForm(t, "a tree's bytes twice", slices.Concat(b, b))
		checkForm(t, "one more node", modelText(modelNum(modelText(bytes.Clone(b), "z"), api.File), ""))
	}
}

func TestReadOfSpareRoom(t *testing.T) {
	// What lies in the room behind is not read, whether it would go on well or not.
	b := modelLay(small())
	for n := range b {
		checkForm(t, strconv.Itoa(n)+" bytes with the others in the room behind", b[:n])
	}
	if l, e := nar.Read(append(bytes.Clone(b), b...)[:len(b)]); e != api.OK || !slices.Equal(l, small()) {
		t.Errorf("P5.1: Read with room behind: %s, %d", show(l), e)
	}
}

func TestReadOfEachByteChanged(t *testing.T) {
	read, refused := 0, 0
	for _, nodes := range [][]api.Node{{dir("")}, {exec("", "1234567")}, small(), sample()[:6]} {
		b := modelLay(nodes)
		for at, old := range b {
			for change := 1; change < 256; change++ {
				b[at] = old ^ byte(change)
				if checkRead(t, "bytes with another one at "+strconv.Itoa(at), b) {
					read++
				} else {
					refused++
				}
			}
			b[at] = old
		}
	}
	if read < 1000 || refused < 10000 {
		t.Errorf("only %d were trees, only %d none", read, refused)
	}
}

func TestReadOfEachTwoBytesChanged(t *testing.T) {
	good := modelLay([]api.Node{dir(""), file("a", "b\x00")})
	for i := range good {
		for j := range good {
			for _, change := range []byte{1, 2, 3, 8, 128, 255} {
				b := bytes.Clone(good)
				b[i] ^= change
				b[j] ^= change + 1
				checkRead(t, "bytes with others at "+strconv.Itoa(i)+" and "+strconv.Itoa(j), b)
			}
		}
	}
}

func TestReadOfAnotherWord(t *testing.T) {
	rest := modelLay(small())[16:]
	for _, word := range []string{"", "n", "nar-", "nar-2", "nar-1 ", "nar-1\x00", "nar-1\x00\x00\x00", "nar-10", "NAR-1", "nar_1", "mar-1", "1-ran", "nar-1nar-1", " nar-1", text(1000)} {
		checkForm(t, "another word "+strconv.Quote(word[:min(len(word), 20)]), append(modelText(nil, word), rest...))
	}
	checkForm(t, "no word", rest)
	checkForm(t, "two words", append(modelText(modelText(nil, "nar-1"), "nar-1"), rest...))
	checkForm(t, "the word without its length", append([]byte("nar-1\x00\x00\x00"), rest...))
	checkForm(t, "the word without its filling", append(append(modelNum(nil, 5), "nar-1"...), rest...))
	if !checkRead(t, "the word", append(modelText(nil, "nar-1"), rest...)) {
		t.Error("P5.1: the word is not read")
	}
}

func TestReadOfAnotherNumberOfNodes(t *testing.T) {
	for _, nodes := range [][]api.Node{{dir("")}, small(), flat(api.MaxNodes)} {
		b := modelLay(nodes)
		for _, n := range append(numbers(), len(nodes)-1, len(nodes)+1, -len(nodes), api.MaxNodes, api.MaxNodes+1, len(nodes)|1<<32, len(nodes)|math.MinInt, len(nodes)|1<<62) {
			if n != len(nodes) {
				checkForm(t, strconv.Itoa(n)+" nodes, where there are "+strconv.Itoa(len(nodes)), slices.Concat(b[:16], modelNum(nil, n), b[24:]))
			}
		}
	}
	for n := range 10 {
		nodes := flat(10)
		checkForm(t, strconv.Itoa(n)+" nodes, where there are ten", slices.Concat(modelText(nil, "nar-1"), modelNum(nil, n), modelLay(nodes)[24:]))
		checkForm(t, "ten nodes, where there are "+strconv.Itoa(n), slices.Concat(modelText(nil, "nar-1"), modelNum(nil, 10), modelLay(nodes[:n])[24:]))
	}
}

func TestReadOfAnotherKind(t *testing.T) {
	for _, n := range append(numbers(), 3, 4, 5, 1<<32|2, math.MinInt|2, 1<<62|1) {
		for _, nodes := range [][]api.Node{{{Kind: n, Data: "x"}}, {{Kind: n}}, {dir(""), {Path: "a", Kind: n, Data: "x"}}, {dir(""), {Path: "a", Kind: n}, file("a/b", "")}} {
			if checkRead(t, "the kind "+strconv.Itoa(n), modelLay(nodes)) != tree.May(nodes) {
				t.Errorf("P5.1: the kind %d: %s", n, show(nodes))
			}
		}
	}
}

// spliced makes bytes whose parts are told one by one, the length of one text being another number.
func spliced(lengths [5]int) []byte {
	b := append(modelNum(nil, lengths[0]), "nar-1\x00\x00\x00"...)
	b = modelNum(b, 2)
	b = modelNum(modelNum(modelNum(b, lengths[1]), api.Dir), lengths[2])
	b = append(modelNum(b, lengths[3]), "abc\x00\x00\x00\x00\x00"...)
	b = modelNum(b, api.File)
	return append(modelNum(b, lengths[4]), "12345678abc\x00\x00\x00\x00\x00"...)
}

func TestReadOfAnotherLength(t *testing.T) {
	good := [5]int{5, 0, 0, 3, 11}
	want := []api.Node{dir(""), file("abc", "12345678abc")}
	if l, e := nar.Read(spliced(good)); e != api.OK || !slices.Equal(l, want) {
		t.Fatalf("P5.1: Read of bytes told one by one: %s, %d", show(l), e)
	}
	for at := range good {
		lengths := numbers()
		for n := range 64 {
			lengths = append(lengths, n, -n, math.MaxInt-n, math.MinInt+n, n|1<<32, n|1<<61, n|1<<62, n|math.MinInt)
		}
		for _, n := range lengths {
			other := good
			other[at] = n
			read := checkRead(t, "the length "+strconv.Itoa(n)+" of text "+strconv.Itoa(at), spliced(other))
			// Bytes 0 behind Data may be its own as well: that is another tree's bytes.
			if read != (n == good[at] || at == 4 && n >= 11 && n <= 16) {
				t.Errorf("P5.1: the length %d of text %d: %t", n, at, read)
			}
		}
	}
}

func TestReadOfEachFilling(t *testing.T) {
	for n := range 24 {
		b := modelLay([]api.Node{file("", text(n))})
		end := len(b) - (8-n%8)%8
		for at := end; at < len(b); at++ {
			for set := 1; set < 256; set++ {
				b[at] = byte(set)
				checkForm(t, "filling of "+strconv.Itoa(set)+" behind "+strconv.Itoa(n)+" bytes", b)
			}
			b[at] = 0
		}
		checkForm(t, "more filling behind "+strconv.Itoa(n)+" bytes", append(bytes.Clone(b), make([]byte, 8)...))
		if end < len(b) {
			checkForm(t, "no filling behind "+strconv.Itoa(n)+" bytes", b[:end])
		}
	}
	for _, at := range []int{13, 14, 15} {
		b := modelLay(small())
		b[at] = 1
		checkForm(t, "filling behind the word", b)
	}
	b := modelLay([]api.Node{dir(""), file("a", "x")})
	for at := 16 + 8 + 24 + 9; at < 16+8+24+16; at++ {
		b[at] = 1
		checkForm(t, "filling behind a path", b)
		b[at] = 0
	}
	if !checkRead(t, "filling of 0", b) {
		t.Error("P5.1: filling of 0 is not read")
	}
}

func TestReadOfNumbersAlone(t *testing.T) {
	for _, n := range numbers() {
		head := modelText(nil, "nar-1")
		checkForm(t, "one number", modelNum(nil, n))
		checkForm(t, "a number and bytes", append(modelNum(nil, n), text(400)...))
		checkForm(t, "a number of nodes alone", modelNum(bytes.Clone(head), n))
		checkForm(t, "a path's length alone", modelNum(modelNum(bytes.Clone(head), 1), n))
		checkForm(t, "one number again and again", bytes.Repeat(modelNum(nil, n), 1000))
		checkForm(t, "the word, and one number again and again", append(head, bytes.Repeat(modelNum(nil, n), 1000)...))
	}
}

func TestReadOfVeryMuch(t *testing.T) {
	head := modelText(nil, "nar-1")
	much := make([]byte, 1<<22)
	for _, n := range []int{0, 1, 400, 401, 1 << 17, 1 << 40, math.MaxInt, -1, math.MinInt} {
		b := append(modelNum(bytes.Clone(head), n), much...)
		for range 20 {
			checkForm(t, strconv.Itoa(n)+" nodes of bytes 0", b)
		}
	}
	long := string(much)
	for _, nodes := range [][]api.Node{{file("", long)}, {dir(""), file(long, "")}, {dir(""), file("a", long), file("b", long)}, {link("", text(1<<22))}} {
		b := modelLay(nodes)
		for range 5 {
			checkForm(t, "a text that no node has", b)
		}
	}
	checkForm(t, "a long word", append(modelText(nil, long), head...))
	b := modelLay(greatest())
	for range 200 {
		if l, e := nar.Read(b); e != api.OK || len(l) != api.MaxNodes {
			t.Fatalf("P5.1: Read of the greatest tree: %s, %d", show(l), e)
		}
		checkLay(t, greatest())
	}
}

// noise tells numbers by a rule that the seed begins.
type noise uint32

func (n *noise) below(most int) int {
	*n = *n*1664525 + 1013904223
	return int(*n>>8) % most
}

func TestReadOfPiecesPutTogether(t *testing.T) {
	pieces := [][]byte{modelText(nil, "nar-1"), modelText(nil, ""), modelText(nil, "a"), modelText(nil, "b"), modelText(nil, "a/b"), modelNum(nil, -1)}
	for n := range 6 {
		pieces = append(pieces, modelNum(nil, n))
	}
	for seed := range 20000 {
		rule := noise(seed)
		b := bytes.Clone(pieces[0])
		for range rule.below(16) {
			b = append(b, pieces[rule.below(len(pieces))]...)
		}
		checkRead(t, "pieces put together", b)
	}
}

func TestReadOfPiecesChanged(t *testing.T) {
	read := 0
	for seed := range 20000 {
		rule := noise(seed)
		b := modelLay(sample()[:1+rule.below(13)])
		for range 1 + rule.below(3) {
			from, to := 8*rule.below(len(b)/8+1), 8*rule.below(len(b)/8+1)
			if from > to {
				from, to = to, from
			}
			switch rule.below(3) {
			case 0:
				b = slices.Delete(b, from, to)
			case 1:
				b = slices.Insert(b, to, bytes.Clone(b[from:min(to, from+40)])...)
			case 2:
				if from < len(b) {
					b[from+rule.below(8)] = byte(rule.below(12))
				}
			}
			if len(b) < 8 {
				break
			}
		}
		if checkRead(t, "bytes with pieces changed", b) {
			read++
		}
	}
	if read < 100 {
		t.Errorf("only %d were trees", read)
	}
}

func TestWhatIsHandedInStays(t *testing.T) {
	for _, nodes := range append(trees(), noTrees()...) {
		whole := append(slices.Clone(nodes), slices.Repeat([]api.Node{file("room", "r")}, 8)...)
		kept := slices.Clone(whole)
		nar.Lay(whole[:len(nodes)])
		if !slices.Equal(whole, kept) {
			t.Errorf("R4: Lay changes %s, or its room", show(nodes))
		}
		b := modelLay(nodes)
		room := append(bytes.Clone(b), bytes.Repeat([]byte{7}, 64)...)
		copied := bytes.Clone(room)
		nar.Read(room[:len(b)])
		nar.Read(room[:len(b)/2])
		nar.Read(room)
		if !bytes.Equal(room, copied) {
			t.Errorf("R4: Read changes the bytes of %s, or their room", show(nodes))
		}
	}
}

func TestAnswersShareNothing(t *testing.T) {
	for _, nodes := range trees() {
		first, _ := nar.Lay(nodes)
		second, _ := nar.Lay(nodes)
		first = first[:cap(first)]
		for i := range first {
			first[i] = 9
		}
		if !bytes.Equal(second, modelLay(nodes)) {
			t.Fatalf("R4: two answers of Lay share memory: %s", show(nodes))
		}
		given := bytes.Clone(second)
		one, _ := nar.Read(given)
		other, _ := nar.Read(given)
		one = one[:cap(one)]
		for i := range one {
			one[i] = file("z", "z")
		}
		if !bytes.Equal(given, second) || !slices.Equal(other, nodes) {
			t.Fatalf("R4: two answers of Read share memory: %s", show(nodes))
		}
		for i := range given {
			given[i] = 9
		}
		if !slices.Equal(other, nodes) {
			t.Fatalf("R4: what Read told changes with the bytes: %s", show(nodes))
		}
	}
}

func TestLaidStaysWhenNodesChange(t *testing.T) {
	nodes := sample()
	b, _ := nar.Lay(nodes)
	for i := range nodes {
		nodes[i] = file("z", "z")
	}
	if !bytes.Equal(b, modelLay(sample())) {
		t.Error("R4: what Lay told changes with the nodes")
	}
}

func TestErrorsLeaveNothingBehind(t *testing.T) {
	good := modelLay(sample())
	for _, nodes := range noTrees() {
		nar.Lay(nodes)
		nar.Read(modelLay(nodes))
		nar.Read(good[:len(good)/2])
		if l, e := nar.Read(good); e != api.OK || !slices.Equal(l, sample()) {
			t.Fatalf("R5: Read behind an error: %s, %d", show(l), e)
		}
		checkLay(t, sample())
	}
}

func TestFromSeveralGoroutines(t *testing.T) {
	nodes := append(sample(), file("room", "r"))[:len(sample())]
	room := append(modelLay(nodes), 7, 7, 7)
	b := room[:len(room)-3]
	kept := bytes.Clone(room)
	var all sync.WaitGroup
	for range 8 {
		all.Go(func() {
			for range 100 {
				if got, e := nar.Lay(nodes); e != api.OK || !bytes.Equal(got, b) {
					t.Error("R5: Lay at one time")
				}
				if got, e := nar.Read(b); e != api.OK || !slices.Equal(got, nodes) {
					t.Error("R5: Read at one time")
				}
				if !bytes.Equal(nar.Text(b, "ab"), modelText(bytes.Clone(b), "ab")) || !bytes.Equal(nar.Num(b, -1), modelNum(bytes.Clone(b), -1)) {
					t.Error("R5: Text, Num at one time")
				}
			}
		})
	}
	all.Wait()
	if !bytes.Equal(room, kept) {
		t.Error("R4: calls at one time change what was handed in")
	}
}

func FuzzRead(f *testing.F) {
	for _, nodes := range [][]api.Node{{dir("")}, {file("", "x")}, small(), sample(), {}, {dir("a")}} {
		f.Add(modelLay(nodes))
	}
	f.Fuzz(func(t *testing.T, b []byte) { checkRead(t, "any bytes", b) })
}
