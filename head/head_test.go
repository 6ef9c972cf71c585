package head_test

import (
	"archive/tar"
	"bytes"
	"fmt"
	"go/parser"
	"go/token"
	"math"
	"os"
	"slices"
	"strconv"
	"strings"
	"sync"
	"testing"

	"hogshead/api"
	"hogshead/head"
)

// entry is what a header says.
type entry struct {
	name string
	kind int
	size int
	link string
}

// text makes a text of n bytes.
func text(n int) string { return strings.Repeat("x", n) }

// zeros makes n bytes 0.
func zeros(n int) string { return strings.Repeat("\x00", n) }

// byteText is the text of one byte, which may be no letter.
func byteText(b int) string { return string([]byte{byte(b)}) }

// with is s with the byte at a place another one.
func with(s string, at, b int) string { return s[:at] + byteText(b) + s[at+1:] }

// put is s with the text at a place another one, of the same length.
func put(s string, at int, piece string) string { return s[:at] + piece + s[at+len(piece):] }

// The greatest numbers for which there is room, by the count of digits: written out, not reckoned.
var greatest = []int{0, 7, 63, 511, 4095, 32767, 262143, 2097151, 16777215, 134217727, 1073741823, 8589934591}

// greatestSize is the greatest one that a header has room for.
const greatestSize = 8589934591

// modelDigits says by the library what Octal tells.
func modelDigits(n, digits int) (string, bool) {
	if n < 0 || digits < 1 || digits > 11 || n > greatest[digits] {
		return "", false
	}
	return fmt.Sprintf("%0*o", digits, n), true
}

// modelNumber says by the library what OfOctal tells; it knows no other digits than 0 to 7, and no sign.
func modelNumber(s string) (int, bool) {
	if len(s) < 1 || len(s) > 11 || strings.Trim(s, "01234567") != "" {
		return 0, false
	}
	n, e := strconv.ParseUint(s, 8, 64)
	return int(n), e == nil
}

// modelMay says by the chapter's words which entry has a header.
func modelMay(x entry) bool {
	if x.name == "" || len(x.name) > 100 || len(x.link) > 100 || strings.Contains(x.name+x.link, "\x00") || x.size < 0 || x.size > greatestSize {
		return false
	}
	if x.kind < 1 || x.kind > 5 || (x.kind == api.Link) != (x.link != "") {
		return false
	}
	return x.kind != api.Dir && x.kind != api.Link || x.size == 0
}

// modelSum is the sum's field by the chapter's words, of a header whose own one may be anything.
func modelSum(s string) string {
	sum := 8 * int(' ')
	for _, b := range []byte(s[:148] + s[156:]) {
		sum += int(b)
	}
	return fmt.Sprintf("%06o\x00 ", sum)
}

// mended is s with its right sum, so that it is not for that one's sake that it is none.
func mended(s string) string { return put(s, 148, modelSum(s)) }

// The modes and the signs, by kinds.
var (
	modes = []string{"", "0000755", "0000644", "0000755", "0000777", "0000644"}
	signs = []string{"", "5", "0", "0", "2", "x"}
)

// modelLay writes the fields one behind the other; a kind that is none has no mode.
func modelLay(x entry) string {
	s := x.name + zeros(100-len(x.name)) + modes[x.kind] + "\x00" + "0000000\x00" + "0000000\x00" + fmt.Sprintf("%011o", x.size) + "\x00" + "00000000000\x00" + "--------" + signs[x.kind]
	return mended(s + x.link + zeros(100-len(x.link)) + "ustar\x00" + "00" + zeros(247))
}

// modelRead asks of each field of its own, not of what would be written.
func modelRead(s string) (entry, bool) {
	if len(s) != 512 || s[107:124] != "\x000000000\x000000000\x00" || s[135:148] != "\x0000000000000\x00" || s[257:] != "ustar\x0000"+zeros(247) || s[148:156] != modelSum(s) {
		return entry{}, false
	}
	size, ok := modelNumber(s[124:135])
	x := entry{name: strings.TrimRight(s[:100], "\x00"), size: size, link: strings.TrimRight(s[157:257], "\x00")}
	switch s[100:107] + s[156:157] {
	case "00007555":
		x.kind = api.Dir
	case "00006440":
		x.kind = api.File
	case "00007550":
		x.kind = api.Exec
	case "00007772":
		x.kind = api.Link
	case "0000644x":
		x.kind = head.Extra
	}
	if !ok || !modelMay(x) {
		return entry{}, false
	}
	return x, true
}

// read puts what Read tells into an entry.
func read(s string) (entry, bool) {
	name, kind, size, link, ok := head.Read([]byte(s))
	return entry{name, kind, size, link}, ok
}

// checkRead holds Read of s against the model, and what was read, laid again, against s. The first fault ends the test: there would be very many alike.
func checkRead(t *testing.T, what, s string) bool {
	t.Helper()
	want, may := modelRead(s)
	got, ok := read(s)
	if ok != may {
		t.Fatalf("P12.1: Read(%q): %t, %+v (%s)", s, ok, got, what)
	}
	if got != want {
		t.Fatalf("P12.1, R2: Read(%q): %+v, not %+v (%s)", s, got, want, what)
	}
	if !ok {
		return false
	}
	if again, ok := head.Lay(got.name, got.kind, got.size, got.link); !ok || string(again) != s {
		t.Fatalf("P12.1: what was read of %q is laid as %q, %t (%s)", s, again, ok, what)
	}
	return true
}

// checkLay holds Lay of x against the model, and what was laid, read again, against x.
func checkLay(t *testing.T, what string, x entry) bool {
	t.Helper()
	may := modelMay(x)
	b, ok := head.Lay(x.name, x.kind, x.size, x.link)
	if ok != may {
		t.Fatalf("P12.1: Lay(%.200q, %d, %d, %.200q): %t (%s)", x.name, x.kind, x.size, x.link, ok, what)
	}
	if !may {
		if b != nil {
			t.Fatalf("R2: Lay(%.200q, %d, %d, %.200q) tells %d bytes beside false (%s)", x.name, x.kind, x.size, x.link, len(b), what)
		}
		return false
	}
	if want := modelLay(x); string(b) != want {
		t.Fatalf("P12.1: Lay(%q, %d, %d, %q): %q, not %q (%s)", x.name, x.kind, x.size, x.link, b, want, what)
	}
	if got, ok := read(string(b)); !ok || got != x {
		t.Fatalf("P12.1: what was laid of %+v is read as %+v, %t (%s)", x, got, ok, what)
	}
	return true
}

// checkOctal holds Octal against the model, and what it tells, told back, against n.
func checkOctal(t *testing.T, n, digits int) {
	t.Helper()
	want, may := modelDigits(n, digits)
	got, ok := head.Octal(n, digits)
	if got != want || ok != may {
		t.Fatalf("P12.1: Octal(%d, %d): %q, %t, not %q, %t", n, digits, got, ok, want, may)
	}
	if back, is := head.OfOctal(got); ok && (back != n || !is) {
		t.Fatalf("P12.1: OfOctal(Octal(%d, %d)): %d, %t", n, digits, back, is)
	}
}

// checkOfOctal holds OfOctal against the model, and the number's digits against s.
func checkOfOctal(t *testing.T, s string) {
	t.Helper()
	want, may := modelNumber(s)
	got, ok := head.OfOctal(s)
	if got != want || ok != may {
		t.Fatalf("P12.1: OfOctal(%.100q): %d, %t, not %d, %t", s, got, ok, want, may)
	}
	if back, is := head.Octal(got, len(s)); ok && (back != s || !is) {
		t.Fatalf("P12.1: Octal(OfOctal(%q)): %q, %t", s, back, is)
	}
}

// samples are entries that have headers, some of each kind.
func samples() []entry {
	return []entry{
		{".", api.Dir, 0, ""}, {"a/b", api.File, 12, ""}, {"bin/run", api.Exec, greatestSize, ""}, {"l", api.Link, 0, "../a"}, {"pax", head.Extra, 30, ""},
		{strings.Repeat("\xff", 100), api.Link, 0, strings.Repeat("\xff", 100)}, {"\x01", api.Dir, 0, ""}, {"a", api.File, 0, ""}, {"a", api.Exec, 1, ""}, {text(100), head.Extra, greatestSize, ""}, {"x", head.Extra, 0, ""},
	}
}

// kinds are those that are, and others around them.
var kinds = []int{math.MinInt, math.MinInt32, -256, -5, -4, -3, -2, -1, 0, 1, 2, 3, 4, 5, 6, 7, 8, 48, 53, 120, 255, 256, 257, 258, 259, 260, 261, 1<<32 + 1, 1<<32 + 5, math.MaxInt32, math.MaxInt}

// sizes are some at the limits and around them.
var sizes = []int{math.MinInt, math.MinInt + 1, math.MinInt32, -greatestSize, -8, -1, 0, 1, 2, 7, 8, 9, 400, 511, 512, 513, 1000000, math.MaxInt32, 1 << 32, greatestSize - 1, greatestSize, greatestSize + 1, greatestSize + 2, 1 << 36, 1 << 62, math.MaxInt - 1, math.MaxInt}

func TestTheExamples(t *testing.T) {
	if s, ok := head.Octal(8, 3); s != "010" || !ok {
		t.Errorf("P12.1: Octal(8, 3): %q, %t", s, ok)
	}
	if n, ok := head.OfOctal("018"); n != 0 || ok {
		t.Errorf("P12.1: OfOctal(\"018\"): %d, %t", n, ok)
	}
	if head.Extra != 5 {
		t.Errorf("P12.1: Extra is %d", head.Extra)
	}
}

func TestOctalOfEachCount(t *testing.T) {
	for digits := 1; digits <= 11; digits++ {
		for n, want := range map[int]string{0: strings.Repeat("0", digits), 1: strings.Repeat("0", digits-1) + "1", 7: strings.Repeat("0", digits-1) + "7", greatest[digits]: strings.Repeat("7", digits), greatest[digits] + 1: "", -1: "", -greatest[digits]: ""} {
			s, ok := head.Octal(n, digits)
			if s != want || ok != (want != "") {
				t.Errorf("P12.1: Octal(%d, %d): %q, %t, not %q", n, digits, s, ok, want)
			}
		}
		if s, ok := head.Octal(greatest[digits-1]+1, digits); s != "1"+strings.Repeat("0", digits-1) || !ok {
			t.Errorf("P12.1: Octal of the least number of %d digits: %q, %t", digits, s, ok)
		}
	}
}

func TestOctal(t *testing.T) {
	for digits := -3; digits <= 70; digits++ {
		for n := -9; n <= 5000; n++ {
			checkOctal(t, n, digits)
		}
		for shift := range 64 {
			for _, n := range []int{1 << shift, 1<<shift - 1, 1<<shift + 1, -1 << shift, -1<<shift - 1, 5 << shift, math.MaxInt >> shift, math.MinInt >> shift} {
				checkOctal(t, n, digits)
			}
		}
		for _, n := range slices.Concat(sizes, greatest) {
			checkOctal(t, n, digits)
		}
	}
	for _, digits := range []int{math.MinInt, math.MinInt + 1, math.MinInt32, -11, -1, 0, 12, 16, 64, 256 + 3, 1<<32 + 3, math.MaxInt32, math.MaxInt - 1, math.MaxInt} {
		for _, n := range append(slices.Concat(sizes, greatest), 0, 1, 5) {
			checkOctal(t, n, digits)
		}
	}
}

func TestEachDigitAtEachPlace(t *testing.T) {
	for digits := 1; digits <= 11; digits++ {
		for place := range digits {
			for digit := range 8 {
				n := digit << (3 * (digits - 1 - place))
				s := strings.Repeat("0", place) + byteText('0'+digit) + strings.Repeat("0", digits-1-place)
				if got, ok := head.Octal(n, digits); got != s || !ok {
					t.Errorf("P12.1: Octal(%d, %d): %q, %t, not %q", n, digits, got, ok, s)
				}
				if got, ok := head.OfOctal(s); got != n || !ok {
					t.Errorf("P12.1: OfOctal(%q): %d, %t, not %d", s, got, ok, n)
				}
			}
		}
	}
}

func TestOfOctal(t *testing.T) {
	for s, want := range map[string]int{
		"0": 0, "7": 7, "00": 0, "010": 8, "01": 1, "10": 8, "777": 511, "00000000000": 0, "00000000001": 1, "10000000000": 1 << 30, "77777777777": greatestSize, "12345670123": 1402433619, "7777777777": 1073741823, "17777777777": 1<<31 - 1, "20000000000": 1 << 31, "37777777777": 1<<32 - 1, "40000000000": 1 << 32,
	} {
		if got, ok := head.OfOctal(s); got != want || !ok {
			t.Errorf("P12.1: OfOctal(%q): %d, %t, not %d", s, got, ok, want)
		}
	}
	for _, s := range []string{
		"", " ", "8", "9", "018", "a", "-", "+", "-0", "-7", "+7", " 7", "7 ", " ", "           ", "\x00", "7\x00", "\x007", "0000000\x00", "7\n", "0o17", "0x7", "0b1", "1_0", "1.0", "1e1", "00000000008", "80000000000", "7777777777\x00", "7777777777 ", " 7777777777",
		"000000000000", "000000000001", "777777777777", "00000000000\x00", "100000000000", "0000000000000000000007", text(12), text(11), "\xff", "\xb0", "\xb1\xb7", "٧", "７", "⁷", "/", ":", "0/", "0:",
	} {
		if got, ok := head.OfOctal(s); got != 0 || ok {
			t.Errorf("P12.1, R2: OfOctal(%q): %d, %t", s, got, ok)
		}
	}
}

func TestOfOctalOfAllTexts(t *testing.T) {
	checkOfOctal(t, "")
	for a := range 256 {
		checkOfOctal(t, byteText(a))
		for b := range 256 {
			checkOfOctal(t, byteText(a)+byteText(b))
		}
	}
	few := "0178/: -+\x00\xff"
	for n := range len(few) * len(few) * len(few) * len(few) {
		s := ""
		for range 4 {
			s += few[n%len(few) : n%len(few)+1]
			n /= len(few)
		}
		checkOfOctal(t, s)
	}
}

func TestOfOctalOfEachLength(t *testing.T) {
	for n := 1; n <= 40; n++ {
		for _, s := range []string{strings.Repeat("0", n), strings.Repeat("7", n), strings.Repeat("12345670", 5)[:n]} {
			checkOfOctal(t, s)
			for at := range s {
				for b := range 256 {
					checkOfOctal(t, with(s, at, b))
				}
			}
		}
	}
	for _, digit := range []string{"0", "7", "8", " "} {
		checkOfOctal(t, strings.Repeat(digit, 10000000))
	}
}

func TestKnownHeaders(t *testing.T) {
	for _, x := range []struct {
		entry
		sum  string
		rest string
	}{
		{entry{".", api.Dir, 0, ""}, "006023", "0000755\x000000000\x000000000\x0000000000000\x0000000000000\x00006023\x00 5"},
		{entry{"\x01", api.Dir, 0, ""}, "005746", "0000755\x000000000\x000000000\x0000000000000\x0000000000000\x00005746\x00 5"},
		{entry{"a/b", api.File, 12, ""}, "006324", "0000644\x000000000\x000000000\x0000000000014\x0000000000000\x00006324\x00 0"},
		{entry{"a", api.File, 0, ""}, "006076", "0000644\x000000000\x000000000\x0000000000000\x0000000000000\x00006076\x00 0"},
		{entry{"a", api.Exec, 1, ""}, "006102", "0000755\x000000000\x000000000\x0000000000001\x0000000000000\x00006102\x00 0"},
		{entry{"bin/run", api.Exec, greatestSize, ""}, "007352", "0000755\x000000000\x000000000\x0077777777777\x0000000000000\x00007352\x00 0"},
		{entry{"l", api.Link, 0, "../a"}, "006476", "0000777\x000000000\x000000000\x0000000000000\x0000000000000\x00006476\x00 2"},
		{entry{strings.Repeat("\xff", 100), api.Link, 0, strings.Repeat("\xff", 100)}, "151436", "0000777\x000000000\x000000000\x0000000000000\x0000000000000\x00151436\x00 2"},
		{entry{"pax", 5, 30, ""}, "006567", "0000644\x000000000\x000000000\x0000000000036\x0000000000000\x00006567\x00 x"},
	} {
		want := x.name + zeros(100-len(x.name)) + x.rest + x.link + zeros(100-len(x.link)) + "ustar\x0000" + zeros(247)
		b, ok := head.Lay(x.name, x.kind, x.size, x.link)
		if string(b) != want || !ok {
			t.Errorf("P12.1: Lay(%q, %d, %d, %q): %q, %t, not %q", x.name, x.kind, x.size, x.link, b, ok, want)
		}
		if got, ok := read(want); got != x.entry || !ok {
			t.Errorf("P12.1: Read(%q): %+v, %t, not %+v", want, got, ok, x.entry)
		}
		if modelLay(x.entry) != want || modelSum(want) != x.sum+"\x00 " {
			t.Errorf("the tests' model: %q, not %q", modelLay(x.entry), want)
		}
	}
}

func TestEachByteAtItsPlace(t *testing.T) {
	for _, x := range samples() {
		b, _ := head.Lay(x.name, x.kind, x.size, x.link)
		if len(b) != 512 {
			t.Fatalf("P12.1: the header of %+v has %d bytes", x, len(b))
		}
		for at, want := range map[int]string{
			0: x.name + zeros(100-len(x.name)), 100: modes[x.kind] + "\x00", 108: "0000000\x00", 116: "0000000\x00", 124: fmt.Sprintf("%011o\x00", x.size), 136: "00000000000\x00", 148: modelSum(string(b)),
			156: signs[x.kind], 157: x.link + zeros(100-len(x.link)), 257: "ustar\x0000", 265: zeros(247),
		} {
			for i, one := range []byte(want) {
				if b[at+i] != one {
					t.Errorf("P12.1: the header of %+v, at %d: %d, not %d", x, at+i, b[at+i], one)
				}
			}
		}
	}
}

func TestWhatAnotherReaderReads(t *testing.T) {
	for _, x := range samples() {
		if x.kind == head.Extra {
			continue
		}
		b, _ := head.Lay(x.name, x.kind, x.size, x.link)
		got, e := tar.NewReader(bytes.NewReader(b)).Next()
		if e != nil {
			t.Errorf("P12.1: the library does not read the header of %+v: %v", x, e)
			continue
		}
		mode, _ := strconv.ParseInt(modes[x.kind], 8, 64)
		if got.Name != x.name || got.Linkname != x.link || got.Size != int64(x.size) || got.Mode != mode || string(got.Typeflag) != signs[x.kind] || got.Uid != 0 || got.Gid != 0 || got.ModTime.Unix() != 0 || got.Uname+got.Gname != "" {
			t.Errorf("P12.1: the library reads the header of %+v as %+v", x, got)
		}
	}
}

func TestLayOfAllKinds(t *testing.T) {
	texts := []string{"", "a", "a/b", ".", "/", "..", "a\x00", "\x00", "\x00a", text(99), text(100), text(101), text(99) + "\x00", text(100) + "\x00", text(155), text(1000)}
	laid := 0
	for _, kind := range kinds {
		for _, size := range sizes {
			for _, name := range texts {
				for _, link := range texts {
					if checkLay(t, "all kinds", entry{name, kind, size, link}) {
						laid++
					}
				}
			}
		}
	}
	// Names 7; of a Dir one, of a Link one with 7 links, of the others one for each of 15 sizes from 0 on up to the greatest.
	if want := 7 * (1 + 7 + 3*15); laid != want {
		t.Errorf("P12.1: of all kinds %d are laid, not %d", laid, want)
	}
}

func TestLayRefuses(t *testing.T) {
	for what, x := range map[string]entry{
		"no name": {"", api.File, 0, ""}, "no name of a Dir": {"", api.Dir, 0, ""}, "too long a name": {text(101), api.File, 0, ""}, "a byte 0 alone": {"\x00", api.File, 0, ""}, "a byte 0 behind": {"a\x00", api.Exec, 0, ""}, "a byte 0 ahead": {"\x00a", api.Dir, 0, ""},
		"a Link that goes nowhere": {"a", api.Link, 0, ""}, "too long a link": {"a", api.Link, 0, text(101)}, "a link with a byte 0": {"a", api.Link, 0, "x\x00y"}, "a link that is a byte 0": {"a", api.Link, 0, "\x00"},
		"a Dir that goes somewhere": {"a", api.Dir, 0, "x"}, "a File that does": {"a", api.File, 0, "x"}, "an Exec that does": {"a", api.Exec, 0, "x"}, "an Extra that does": {"a", head.Extra, 0, "x"},
		"kind 0": {"a", 0, 0, ""}, "kind 6": {"a", 6, 0, ""}, "kind -1": {"a", -1, 0, ""}, "kind 0 that goes somewhere": {"a", 0, 0, "x"}, "the least kind": {"a", math.MinInt, 0, ""}, "the greatest kind": {"a", math.MaxInt, 0, ""},
		"a size below 0": {"a", api.File, -1, ""}, "too great a size": {"a", api.File, 1 << 33, ""}, "the least size": {"a", api.Exec, math.MinInt, ""}, "the greatest int": {"a", head.Extra, math.MaxInt, ""},
		"a Dir of 1": {"a", api.Dir, 1, ""}, "a Link of 1": {"a", api.Link, 1, "x"}, "a Link as long as where it goes": {"a", api.Link, 3, "abc"}, "a Dir below 0": {"a", api.Dir, -1, ""}, "a Link below 0": {"a", api.Link, -1, "x"}, "too great a Dir": {"a", api.Dir, 1 << 33, ""},
	} {
		if b, ok := head.Lay(x.name, x.kind, x.size, x.link); ok || b != nil {
			t.Errorf("P12.1, R2: Lay of %s: %d bytes, %t", what, len(b), ok)
		}
	}
}

func TestNamesAndLinksOfEachLength(t *testing.T) {
	for n := range 300 {
		for kind := range 7 {
			checkLay(t, "each length of a name", entry{text(n), kind, 0, ""})
			checkLay(t, "each length of a link", entry{"a", kind, 0, text(n)})
			checkLay(t, "each length of both", entry{text(n), kind, 0, text(n)})
		}
	}
	for _, s := range []string{text(10000000), zeros(10000000), text(10000000) + "\x00"} {
		checkLay(t, "a great name", entry{s, api.File, 0, ""})
		checkLay(t, "a great link", entry{"a", api.Link, 0, s})
	}
}

func TestNamesAndLinksOfEachByte(t *testing.T) {
	for _, n := range []int{1, 2, 50, 100, 101} {
		for at := range n {
			for b := range 256 {
				s := with(text(n), at, b)
				checkLay(t, "each byte of a name", entry{s, api.File, 7, ""})
				checkLay(t, "each byte of a link", entry{"a", api.Link, 0, s})
			}
		}
	}
	// Headers say bytes, whether they are letters or not, and whether they may be a path or not.
	for _, s := range []string{"ä", "\xc3", "\xff\xfe", "日本", "a b", " ", "  a  ", "\n", "a\r\n", "//", "/a", "a/", "../..", "-", "0000755", "ustar", strings.Repeat("ä", 50), strings.Repeat("日", 33)} {
		if !checkLay(t, "a name that is no letters", entry{s, api.Exec, 0, ""}) || !checkLay(t, "a link that is no letters", entry{s, api.Link, 0, s}) {
			t.Errorf("P12.1: %q is neither a name nor a link", s)
		}
	}
}

func TestSizes(t *testing.T) {
	for kind := range 7 {
		for _, size := range slices.Concat(sizes, greatest) {
			checkLay(t, "a size", entry{"a", kind, size, ""})
			checkLay(t, "a size of what goes somewhere", entry{"a", kind, size, "x"})
		}
		for shift := range 64 {
			checkLay(t, "a bit of a size", entry{"a", kind, 1 << shift, ""})
			checkLay(t, "all bits of a size", entry{"a", kind, 1<<shift - 1, ""})
		}
	}
}

func TestSumsOfEachSize(t *testing.T) {
	// From the least bytes there may be to the greatest: a sum has always room.
	for n := 1; n <= 100; n++ {
		for _, b := range []int{1, 0x7f, 0x80, 0xff} {
			s := strings.Repeat(byteText(b), n)
			if !checkLay(t, "a sum", entry{s, api.Link, 0, s}) || !checkLay(t, "a sum", entry{s, api.File, greatestSize, ""}) {
				t.Errorf("P12.1: no header of %q", s)
			}
		}
	}
}

func TestEachByteAnotherOne(t *testing.T) {
	for i, x := range samples() {
		s := modelLay(x)
		for at := range s {
			for b := range 256 {
				turned := with(s, at, b)
				if byte(b) == s[at] {
					continue
				}
				if got, ok := read(turned); ok || got != (entry{}) {
					t.Fatalf("P12.1, R2: the %d-th, with %d at %d: %+v, %t", i, b, at, got, ok)
				}
			}
		}
	}
}

func TestEachByteAnotherOneWithItsSum(t *testing.T) {
	for _, x := range samples()[:6] {
		s := modelLay(x)
		read := 0
		for at := range s {
			for b := range 256 {
				if checkRead(t, "another byte, with its sum", mended(with(s, at, b))) {
					read++
				}
			}
		}
		// At the least the header itself, once for each place, and for each byte of the sum, which is mended away.
		if read < 504+8*256 {
			t.Errorf("P12.1: of %+v only %d are read", x, read)
		}
	}
}

func TestWhatBelongsToAnotherKind(t *testing.T) {
	read := map[entry]int{}
	fields := []string{"0000755", "0000644", "0000777", "0000000", "0000555", "0000600", "0000700", "0001755", "0100644", "0040755", "0120777", "000755 ", " 000755", "    755", "755\x00\x00\x00\x00", "0000755"}
	for _, mode := range fields {
		for sign := range 256 {
			for _, link := range []string{"", "x", text(100)} {
				for _, size := range []int{0, 1, greatestSize} {
					s := modelLay(entry{"a", api.File, size, ""})
					s = mended(put(put(put(s, 100, mode), 156, byteText(sign)), 157, link))
					if checkRead(t, "another kind", s) {
						x, _ := modelRead(s)
						read[x]++
					}
				}
			}
		}
	}
	// A Dir, a Link with either link, and three of each other kind.
	if len(read) != 1+2+3*3 {
		t.Errorf("P12.1: what belongs together: %v", read)
	}
}

func TestModesWrittenOtherwise(t *testing.T) {
	for _, x := range samples()[:5] {
		s := modelLay(x)
		for _, mode := range []string{"0000755\x00", "0000644\x00", "0000777\x00", "000755 \x00", "0000755 ", "0000644 ", "0000777 ", "00000755", "00000644", " 000755\x00", "755\x00\x00\x00\x00\x00", "644\x00\x00\x00\x00\x00", zeros(8), "0000754\x00", "0000744\x00", "0000664\x00", "0100644\x00"} {
			got := checkRead(t, "a mode", mended(put(s, 100, mode)))
			if got != (mode == modes[x.kind]+"\x00" || mode == "0000755\x00" && x.kind == api.File || mode == "0000644\x00" && x.kind == api.Exec) {
				t.Errorf("P12.1: with the mode %q, of %+v: %t", mode, x, got)
			}
		}
	}
}

func TestSumsWrittenOtherwise(t *testing.T) {
	for _, x := range samples() {
		s := modelLay(x)
		sum, _ := strconv.ParseInt(s[148:154], 8, 64)
		signed := int64(8 * ' ')
		for _, b := range []byte(s[:148] + s[156:]) {
			signed += int64(int8(b))
		}
		others := []string{
			fmt.Sprintf("%07o\x00", sum), fmt.Sprintf("%06o \x00", sum), fmt.Sprintf("%6o\x00 ", sum), fmt.Sprintf("%08o", sum), fmt.Sprintf("%07o ", sum), fmt.Sprintf("%06o\x00\x00", sum), fmt.Sprintf("%06o  ", sum), fmt.Sprintf("%06x\x00 ", sum), fmt.Sprintf("%06d\x00 ", sum),
			fmt.Sprintf("%o\x00 ", sum) + zeros(8), "\x00\x00\x00\x00\x00\x00\x00\x00", "        ", "000000\x00 ", "777777\x00 ", fmt.Sprintf("%06o\x00 ", sum-8*' '), fmt.Sprintf("%06o\x00 ", sum-8*' '+8*'0'), fmt.Sprintf("%06o\x00 ", sum-8*'0'),
		}
		for by := int64(1); by < 600; by++ {
			others = append(others, fmt.Sprintf("%06o\x00 ", sum+by), fmt.Sprintf("%06o\x00 ", max(sum-by, 0)))
		}
		if signed != sum {
			others = append(others, fmt.Sprintf("%06o\x00 ", max(signed, 0)))
		}
		for _, other := range samples() {
			others = append(others, modelLay(other)[148:156])
		}
		for _, field := range others {
			field = field[:8]
			if ok := checkRead(t, "a sum", put(s, 148, field)); ok != (field == s[148:156]) {
				t.Errorf("P12.1: with the sum %q, of %+v: %t", field, x, ok)
			}
		}
	}
}

func TestSizesWrittenOtherwise(t *testing.T) {
	for kind := api.Dir; kind <= head.Extra; kind++ {
		x := entry{"a", kind, 0, strings.Repeat("x", map[bool]int{true: 1}[kind == api.Link])}
		s := modelLay(x)
		for field, size := range map[string]int{
			"00000000000\x00": 0, "00000000001\x00": 1, "77777777777\x00": greatestSize, "00000001750\x00": 1000,
			"000000000000": -1, "00000000000 ": -1, "00000000001 ": -1, "0000000000 \x00": -1, "          0\x00": -1, "0\x00\x00\x00\x00\x00\x00\x00\x00\x00\x00\x00": -1, "1\x00\x00\x00\x00\x00\x00\x00\x00\x00\x00\x00": -1, "00000000008\x00": -1, "80000000000\x00": -1, "-0000000001\x00": -1, "-0000000000\x00": -1, "+0000000001\x00": -1,
			"\x80\x00\x00\x00\x00\x00\x00\x00\x00\x00\x00\x01": -1, "\xff\xff\xff\xff\xff\xff\xff\xff\xff\xff\xff\xff": -1, "\x00\x00\x00\x00\x00\x00\x00\x00\x00\x00\x00\x00": -1, "            ": -1, "0x000000001\x00": -1, "0000000000a\x00": -1, "777777777777": -1, "\x0000000000000": -1,
		} {
			ok := checkRead(t, "a size", mended(put(s, 124, field)))
			if want := size == 0 || size > 0 && kind != api.Dir && kind != api.Link; ok != want {
				t.Errorf("P12.1: with the size %q, of kind %d: %t", field, kind, ok)
			}
		}
	}
}

func TestFieldsThatAreAlwaysTheSame(t *testing.T) {
	for _, x := range samples() {
		s := modelLay(x)
		for _, y := range []struct {
			at    int
			field string
		}{
			{108, "0001750\x00"}, {116, "0001750\x00"}, {108, "0000001\x00"}, {116, "0000001\x00"}, {108, "000000 \x00"}, {116, "000000 \x00"}, {108, "0000000 "}, {116, "00000000"}, {108, zeros(8)}, {116, zeros(8)}, {108, zeros(16)}, {136, "00000000001\x00"}, {136, "14371573000\x00"}, {136, zeros(12)}, {136, "00000000000 "}, {136, "000000000000"}, {136, "          0\x00"},
			{257, "ustar  \x00"}, {257, zeros(8)}, {257, "ustar\x00\x00\x00"}, {257, "ustar\x0001"}, {257, "ustar 00"}, {257, "USTAR\x0000"}, {257, "star\x00\x0000"}, {265, "root"}, {265, "\x00root"}, {297, "root"}, {297, "0"}, {329, "0000000\x00"}, {337, "0000000\x00"}, {329, "0000000\x000000000\x00"}, {345, "a"}, {345, "prefix"}, {345, text(155)}, {500, "a"}, {508, "tar\x00"}, {511, "\x01"}, {511, " "},
		} {
			other := mended(put(s, y.at, y.field))
			if other == s {
				t.Fatalf("the tests put nothing else at %d", y.at)
			}
			if checkRead(t, "another field", other) {
				t.Errorf("P12.1: with %q at %d, of %+v: read", y.field, y.at, x)
			}
		}
	}
}

func TestWhatStandsBehindAName(t *testing.T) {
	for n := range 100 {
		for _, behind := range []string{"\x00", "x", "\x00x", "\x00\x00x", "\x00\xff", " ", "\x00 "} {
			s := (text(n) + behind + zeros(100))[:100]
			checkRead(t, "behind a name", mended(put(modelLay(entry{"a", api.File, 3, ""}), 0, s)))
			checkRead(t, "behind a name of a Link", mended(put(modelLay(entry{"a", api.Link, 0, "l"}), 0, s)))
			for kind := api.Dir; kind <= head.Extra; kind++ {
				checkRead(t, "behind a link", mended(put(modelLay(entry{"a", kind, 0, ""}), 157, s)))
			}
		}
		for at := n + 1; at < 100; at++ {
			name := mended(put(with(modelLay(entry{"a", api.File, 3, ""}), at, 1), 0, text(n)+"\x00"))
			link := mended(put(with(modelLay(entry{"a", api.Link, 0, "l"}), 157+at, 1), 157, text(n)+"\x00"))
			if checkRead(t, "a byte behind the 0 of a name", name) || checkRead(t, "a byte behind the 0 of a link", link) {
				t.Errorf("P12.1: a byte at %d behind the 0 at %d is read", at, n)
			}
		}
	}
	// Where all the room is filled, no 0 stands behind.
	for _, x := range []entry{{text(100), api.Dir, 0, ""}, {text(100), api.Link, 0, text(100)}, {text(99), api.Link, 0, text(99)}} {
		if !checkRead(t, "a filled room", modelLay(x)) {
			t.Errorf("P12.1: %+v is not read", x)
		}
	}
}

func TestWithoutAName(t *testing.T) {
	for _, x := range samples() {
		if checkRead(t, "no name", mended(put(modelLay(x), 0, zeros(100)))) {
			t.Errorf("P12.1: %+v is read without its name", x)
		}
	}
	for kind := api.Dir; kind <= head.Extra; kind++ {
		link := strings.Repeat("l", map[bool]int{true: 1}[kind != api.Link])
		if checkRead(t, "a link of a kind that has none, or none of a Link", mended(put(modelLay(entry{"a", kind, 0, ""}), 157, link))) {
			t.Errorf("P12.1: kind %d is read with the link %q", kind, link)
		}
	}
}

func TestBytesThatAreNoHeader(t *testing.T) {
	for _, x := range samples() {
		s := modelLay(x)
		for n := range 512 {
			if checkRead(t, "a piece from the front", s[:n]) || checkRead(t, "a piece from behind", s[n+1:]) {
				t.Errorf("P12.1: %d bytes of %+v are read", n, x)
			}
		}
		for _, more := range []string{"\x00", " ", "x", zeros(512), s} {
			if checkRead(t, "bytes behind", s+more) || checkRead(t, "bytes ahead", more+s) || checkRead(t, "bytes ahead, cut", (more + s)[:512]) != (more == s) {
				t.Errorf("P12.1: with %d bytes more %+v is read", len(more), x)
			}
		}
		for at := range 512 {
			// A byte 0 more, or less, among bytes 0 makes none other: the model tells.
			checkRead(t, "a byte left out", s[:at]+s[at+1:]+"\x00")
			checkRead(t, "a byte more", (s[:at] + "\x00" + s[at:])[:512])
			checkRead(t, "a byte left out, with its sum", mended(s[:at]+s[at+1:]+"\x00"))
			checkRead(t, "a byte more, with its sum", mended((s[:at] + "\x00" + s[at:])[:512]))
		}
	}
	for b := range 256 {
		if checkRead(t, "one byte alone", strings.Repeat(byteText(b), 512)) || checkRead(t, "one byte alone, with its sum", mended(strings.Repeat(byteText(b), 512))) || checkRead(t, "one byte", byteText(b)) {
			t.Errorf("P12.1: bytes %d are read", b)
		}
	}
	for _, n := range []int{0, 1, 511, 513, 1024, 10000000} {
		checkRead(t, "zeros", zeros(n))
	}
	if name, kind, size, link, ok := head.Read(nil); name != "" || kind != 0 || size != 0 || link != "" || ok {
		t.Errorf("P12.1: Read of nil: %q, %d, %d, %q, %t", name, kind, size, link, ok)
	}
}

func TestPiecesOfTwoHeaders(t *testing.T) {
	places := []int{0, 100, 108, 116, 124, 136, 148, 156, 157, 257, 265, 512}
	for _, x := range samples() {
		for _, y := range samples() {
			for i, from := range places {
				for _, to := range places[i:] {
					s := put(modelLay(x), from, modelLay(y)[from:to])
					checkRead(t, "pieces of two", s)
					checkRead(t, "pieces of two, with their sum", mended(s))
				}
			}
		}
	}
}

func TestWhatIsHandedInStays(t *testing.T) {
	for _, x := range samples() {
		for _, s := range []string{modelLay(x), modelLay(x)[1:], modelLay(x)[:511], mended(with(modelLay(x), 400, 1)), ""} {
			want, may := modelRead(s)
			whole := []byte(s + "what stands in the spare room behind")
			given := whole[:len(s)]
			for range 3 {
				name, kind, size, link, ok := head.Read(given)
				if (entry{name, kind, size, link}) != want || ok != may {
					t.Errorf("R5: Read of %q with spare room: %q, %d, %d, %q, %t", s, name, kind, size, link, ok)
				}
				if string(whole) != s+"what stands in the spare room behind" {
					t.Fatalf("R4: Read changes what is handed in, or its room: %q", whole)
				}
			}
		}
	}
}

func TestAnswersShareNothing(t *testing.T) {
	for _, x := range samples() {
		s := modelLay(x)
		given := []byte(s)
		name, kind, size, link, ok := head.Read(given)
		for i := range given {
			given[i] = '?'
		}
		if (entry{name, kind, size, link}) != x || !ok {
			t.Errorf("R4: what Read tells of %+v changes with its bytes: %q, %q", x, name, link)
		}
		first, _ := head.Lay(x.name, x.kind, x.size, x.link)
		second, _ := head.Lay(x.name, x.kind, x.size, x.link)
		for i := range first[:cap(first)] {
			first[:cap(first)][i] = '?'
		}
		third, _ := head.Lay(x.name, x.kind, x.size, x.link)
		if string(second) != s || string(third) != s {
			t.Errorf("R4, R5: headers of %+v share memory", x)
		}
	}
	digits, _ := head.Octal(8, 3)
	other, _ := head.Octal(511, 3)
	if digits != "010" || other != "777" {
		t.Errorf("R4: texts of digits share memory: %q, %q", digits, other)
	}
}

func TestAnswersHangOnNothingElse(t *testing.T) {
	for range 20 {
		for i, x := range samples() {
			checkLay(t, "again", x)
			checkLay(t, "again, wrong", entry{x.name, x.kind, -1, x.link})
			checkRead(t, "again", modelLay(x))
			checkRead(t, "again, wrong", modelLay(x)[i:])
			checkOctal(t, i, 1)
			checkOctal(t, x.size, 11)
			checkOfOctal(t, strconv.Itoa(i*7))
		}
	}
}

func TestFromSeveralGoroutines(t *testing.T) {
	x := samples()[3]
	given := []byte(modelLay(x))
	wrong := []byte(mended(with(modelLay(x), 300, 1)))
	var group sync.WaitGroup
	for range 8 {
		group.Go(func() {
			for range 200 {
				b, laid := head.Lay(x.name, x.kind, x.size, x.link)
				name, kind, size, link, ok := head.Read(given)
				_, _, _, _, none := head.Read(wrong)
				s, is := head.Octal(greatestSize, 11)
				n, back := head.OfOctal(s)
				if !laid || !bytes.Equal(b, given) || !ok || (entry{name, kind, size, link}) != x || none || !is || !back || n != greatestSize {
					t.Error("R5: calls at one time")
				}
				b[0] = '?'
			}
		})
	}
	group.Wait()
}

func TestThePackageCallsNothingButAPI(t *testing.T) {
	files, e := os.ReadDir(".")
	if e != nil {
		t.Fatal(e)
	}
	for _, file := range files {
		if !strings.HasSuffix(file.Name(), ".go") || strings.HasSuffix(file.Name(), "_test.go") {
			continue
		}
		parsed, e := parser.ParseFile(token.NewFileSet(), file.Name(), nil, parser.ImportsOnly)
		if e != nil {
			t.Fatal(e)
		}
		for _, one := range parsed.Imports {
			if strings.HasPrefix(one.Path.Value, `"hogshead`) && one.Path.Value != `"hogshead/api"` {
				t.Errorf("P12.1: the package calls %s", one.Path.Value)
			}
		}
	}
}

func FuzzRead(f *testing.F) {
	for _, x := range samples() {
		f.Add([]byte(modelLay(x)))
		f.Add([]byte(modelLay(x)[1:]))
	}
	f.Add([]byte(nil))
	f.Fuzz(func(t *testing.T, b []byte) {
		checkRead(t, "fuzzed", string(b))
		if len(b) == 512 {
			checkRead(t, "fuzzed, with its sum", mended(string(b)))
		}
	})
}

func FuzzLay(f *testing.F) {
	for _, x := range samples() {
		f.Add(x.name, x.kind, x.size, x.link)
	}
	f.Add("", 0, -1, "\x00")
	f.Fuzz(func(t *testing.T, name string, kind, size int, link string) {
		checkLay(t, "fuzzed", entry{name, kind, size, link})
		checkOctal(t, size, kind)
		checkOfOctal(t, name)
		checkOfOctal(t, link)
	})
}
