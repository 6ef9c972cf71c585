package sum_test

import (
	"bytes"
	"fmt"
	"hash/fnv"
	"math"
	"math/big"
	"slices"
	"strings"
	"sync"
	"testing"

	"hogshead/sum"
)

const start = 14695981039346656037

// fnvOf is the library's sum of b.
func fnvOf(b []byte) uint64 {
	h := fnv.New64a()
	h.Write(b)
	return h.Sum64()
}

// modelNext says by the chapter's words, in numbers that do not go round by themselves, what a byte more makes of a sum.
func modelNext(h uint64, b byte) uint64 {
	product := new(big.Int).Mul(new(big.Int).SetUint64(h^uint64(b)), big.NewInt(1099511628211))
	return product.Mod(product, new(big.Int).Lsh(big.NewInt(1), 64)).Uint64()
}

// checkSum holds Of and Digest against the library, for b at one go.
func checkSum(t *testing.T, b []byte) {
	t.Helper()
	want := fnvOf(b)
	if got := sum.Of(b); got != want {
		t.Errorf("P6.1: Of(%.40q) of %d bytes: %d, not %d", b, len(b), got, want)
	}
	if got := sum.Digest(string(b)); got != fmt.Sprintf("%016x", want) {
		t.Errorf("P6.1: Digest(%.40q) of %d bytes: %s, not %016x", b, len(b), got, want)
	}
}

// each are all bytes there are, one behind the other.
func each() []byte {
	all := make([]byte, 256)
	for i := range all {
		all[i] = byte(i)
	}
	return all
}

// texts are texts of many forms, no bytes and a great many among them.
func texts() []string {
	all := []string{
		"", "a", "b", "foobar", "\x00", "\x00\x00", "\xff", "\xff\xff", "\x80", "ä", "\xc3", "\xed\xa0\x80", "\ufffd", "a\nb\r\n\t", " ", "0123456789abcdef",
		string(each()), strings.Repeat("\x00", 1000), strings.Repeat("\xff", 1000), strings.Repeat("ab", 500000), strings.Repeat(string(each()), 4000),
	}
	for n := range 70 {
		all = append(all, strings.Repeat("x", n), string(each()[n:2*n]), string(each()[256-n:]))
	}
	return all
}

// numbers are some at the edges of each bit, the least and the greatest, and sums.
func numbers() []uint64 {
	all := []uint64{0, 1, 9, 10, 15, 16, 255, 256, 1099511628211, start, math.MaxUint64, math.MaxUint64 - 1, math.MaxInt64, 0x0123456789abcdef, 0xfedcba9876543210}
	for shift := range 64 {
		one := uint64(1) << shift
		all = append(all, one, one-1, one+1, ^one, -one)
	}
	h := uint64(start)
	for i := range 500 {
		h = modelNext(h, byte(i*7))
		all = append(all, h)
	}
	return all
}

func TestKnownSums(t *testing.T) {
	for _, x := range []struct{ s, want string }{
		{"", "cbf29ce484222325"}, {"a", "af63dc4c8601ec8c"}, {"b", "af63df4c8601f1a5"}, {"foobar", "85944171f73967e8"}, {"\x00", "af63bd4c8601b7df"},
		// A text whose sum is 0: none of the digits is left away.
		{"\xd5\x6b\xb9\x53\x42\x87\x08\x36", "0000000000000000"},
	} {
		if got := sum.Digest(x.s); got != x.want {
			t.Errorf("P6.1: Digest(%q): %s, not %s", x.s, got, x.want)
		}
		if got := sum.Hex(sum.Of([]byte(x.s))); got != x.want {
			t.Errorf("P6.1: Hex(Of(%q)): %s, not %s", x.s, got, x.want)
		}
	}
}

func TestOfNothing(t *testing.T) {
	var none [][]byte
	for name, got := range map[string]uint64{
		"no parts": sum.Of(), "nil for the parts": sum.Of(none...), "an empty list of parts": sum.Of([][]byte{}...), "room without parts": sum.Of(make([][]byte, 0, 3)...),
		"a nil part": sum.Of(nil), "an empty part": sum.Of([]byte{}), "an empty part with room": sum.Of([]byte("abc")[:0]), "many of both": sum.Of(nil, []byte{}, nil, nil, []byte{}),
		"very many": sum.Of(make([][]byte, 100000)...),
	} {
		if got != start {
			t.Errorf("P6.1: Of of %s: %d", name, got)
		}
	}
}

func TestOfTexts(t *testing.T) {
	for _, s := range texts() {
		checkSum(t, []byte(s))
	}
	for a := range 256 {
		checkSum(t, []byte{byte(a)})
		for b := range 256 {
			checkSum(t, []byte{byte(a), byte(b)})
		}
	}
}

func TestOfParts(t *testing.T) {
	for _, s := range texts() {
		b := []byte(s)
		want := fnvOf(b)
		for at := 0; at <= len(b); at += max(1, len(b)/40) {
			for name, got := range map[string]uint64{
				"two parts": sum.Of(b[:at], b[at:]), "three parts": sum.Of(b[:at/2], b[at/2:at], b[at:]),
				"parts and nil ones":   sum.Of(nil, b[:at], nil, nil, b[at:], nil),
				"parts and empty ones": sum.Of([]byte{}, b[:at], b[at:at], b[at:], b[len(b):]),
			} {
				if got != want {
					t.Errorf("P6.1: Of(%.40q) of %d bytes in %s, from %d on: %d, not %d", s, len(b), name, at, got, want)
				}
			}
		}
		if got := sum.Of(slices.Collect(slices.Chunk(b, 1))...); got != want {
			t.Errorf("P6.1: Of(%.40q) of %d bytes, a part a byte: %d, not %d", s, len(b), got, want)
		}
		if got := sum.Of(slices.Collect(slices.Chunk(b, 7))...); got != want {
			t.Errorf("P6.1: Of(%.40q) of %d bytes, seven a part: %d, not %d", s, len(b), got, want)
		}
	}
}

func TestOfTheSamePartAgain(t *testing.T) {
	part := []byte("ab\x00\xff")
	for n := range 20 {
		if got := sum.Of(slices.Repeat([][]byte{part}, n)...); got != fnvOf(bytes.Repeat(part, n)) {
			t.Errorf("P6.1: Of of one part %d times: %d", n, got)
		}
	}
}

func TestOrderOfParts(t *testing.T) {
	a, b := []byte("foo"), []byte("bar")
	if sum.Of(a, b) != fnvOf([]byte("foobar")) || sum.Of(b, a) != fnvOf([]byte("barfoo")) || sum.Of(a, b) == sum.Of(b, a) {
		t.Errorf("P6.1: Of in either order: %d, %d", sum.Of(a, b), sum.Of(b, a))
	}
}

func TestNext(t *testing.T) {
	for _, h := range numbers() {
		for b := range 256 {
			if got := sum.Next(h, byte(b)); got != modelNext(h, byte(b)) {
				t.Fatalf("P6.1: Next(%d, %d): %d, not %d", h, b, got, modelNext(h, byte(b)))
			}
		}
	}
	for _, x := range []struct {
		h    uint64
		b    byte
		want uint64
	}{
		{0, 0, 0}, {0, 1, 1099511628211}, {1, 1, 0}, {255, 255, 0}, {0, 255, 280375465193805}, {math.MaxUint64, 0, math.MaxUint64 - 1099511628210},
		{math.MaxUint64, 255, math.MaxUint64 - 1099511628211*256 + 1}, {1 << 63, 0, 1 << 63}, {start, 'a', 0xaf63dc4c8601ec8c},
	} {
		if got := sum.Next(x.h, x.b); got != x.want {
			t.Errorf("P6.1: Next(%d, %d): %d, not %d", x.h, x.b, got, x.want)
		}
	}
}

func TestByteByByte(t *testing.T) {
	for _, s := range texts() {
		h := sum.Of()
		for _, b := range []byte(s) {
			h = sum.Next(h, b)
		}
		if h != sum.Of([]byte(s)) || sum.Hex(h) != sum.Digest(s) {
			t.Errorf("P6.1: Next, byte by byte, of %.40q: %d, not %d", s, h, sum.Of([]byte(s)))
		}
	}
	h := sum.Of()
	for i, b := range each() {
		h = sum.Next(h, b)
		if got := sum.Of(each()[:i+1]); got != h {
			t.Errorf("P6.1: the sum of the first %d bytes: %d, not %d", i+1, got, h)
		}
	}
}

func TestHex(t *testing.T) {
	for _, x := range []struct {
		h    uint64
		want string
	}{
		{0, "0000000000000000"}, {1, "0000000000000001"}, {9, "0000000000000009"}, {10, "000000000000000a"}, {15, "000000000000000f"}, {16, "0000000000000010"},
		{255, "00000000000000ff"}, {math.MaxUint64, "ffffffffffffffff"}, {math.MaxUint64 - 1, "fffffffffffffffe"}, {1 << 63, "8000000000000000"}, {1 << 60, "1000000000000000"},
		{1<<60 - 1, "0fffffffffffffff"}, {1 << 32, "0000000100000000"}, {0x0123456789abcdef, "0123456789abcdef"}, {0xfedcba9876543210, "fedcba9876543210"}, {start, "cbf29ce484222325"},
	} {
		if got := sum.Hex(x.h); got != x.want {
			t.Errorf("P6.1: Hex(%d): %s, not %s", x.h, got, x.want)
		}
	}
	for _, h := range numbers() {
		if got := sum.Hex(h); got != fmt.Sprintf("%016x", h) {
			t.Errorf("P6.1: Hex(%d): %s", h, got)
		}
	}
}

func TestEachDigitAtEachPlace(t *testing.T) {
	for place := range 16 {
		for digit := range 16 {
			want := strings.Repeat("0", place) + "0123456789abcdef"[digit:digit+1] + strings.Repeat("0", 15-place)
			if got := sum.Hex(uint64(digit) << (4 * (15 - place))); got != want {
				t.Errorf("P6.1: Hex with the digit %d at %d: %s, not %s", digit, place, got, want)
			}
		}
	}
}

func TestDigestOfWhatIsNoLetters(t *testing.T) {
	// A text is bytes: one that is no letter in UTF-8 counts as it stands, and is not taken for another.
	seen := map[string]string{}
	for _, s := range []string{"", "\x00", "\x00\x00", "\xff", "\xfe", "\x80", "\xc3", "\xc3\xa4", "\xa4\xc3", "\xed\xa0\x80", "\ufffd", "\xc0\x80", "\xf4\x90\x80\x80", "\n", "\r\n", " ", "é", "e\u0301"} {
		got := sum.Digest(s)
		if got != fmt.Sprintf("%016x", fnvOf([]byte(s))) {
			t.Errorf("P6.1: Digest(%q): %s", s, got)
		}
		if other, ok := seen[got]; ok {
			t.Errorf("P6.1: %q and %q have one digest", s, other)
		}
		seen[got] = s
	}
}

func TestUnlikeTextsOfOneDigest(t *testing.T) {
	// The sum is as short as the chapter says, and nothing more is told by it: these two cannot be told apart.
	a, b := "8yn0iYCKYHlIj4-BwPqk", "GReLUrM4wMqfg9yzV3KQ"
	if sum.Digest(a) != "4eac0c95540867e4" || sum.Digest(b) != "4eac0c95540867e4" {
		t.Errorf("P6.2: Digest(%s), Digest(%s): %s, %s", a, b, sum.Digest(a), sum.Digest(b))
	}
	if sum.Of([]byte(a)) != sum.Of([]byte(b)) || sum.Of([]byte(a+"more")) != sum.Of([]byte(b), []byte("more")) {
		t.Error("P6.2: Of of two texts of one digest")
	}
}

func TestWhatIsHandedInStays(t *testing.T) {
	for n := range 20 {
		for room := range 20 {
			whole := bytes.Repeat([]byte{7}, n+room)
			spare := []byte("spare")
			list := [][]byte{whole[:n/2], nil, whole[n/2 : n], spare, spare}
			if got := sum.Of(list[:3]...); got != fnvOf(bytes.Repeat([]byte{7}, n)) {
				t.Errorf("P6.1: Of reads the room of %d behind %d bytes: %d", room, n, got)
			}
			if !bytes.Equal(whole, bytes.Repeat([]byte{7}, n+room)) || string(spare) != "spare" {
				t.Errorf("R4: Of changes %d bytes, or their room of %d", n, room)
			}
			if len(list[0]) != n/2 || cap(list[0]) != n+room || list[1] != nil || len(list[2]) != n-n/2 || len(list[3]) != 5 || len(list[4]) != 5 ||
				&list[3][0] != &spare[0] || &list[4][0] != &spare[0] || n+room > 0 && &list[0][:1][0] != &whole[0] {
				t.Errorf("R4: Of changes its list of parts, or the list's room")
			}
			if n > 1 && &list[2][0] != &whole[n/2] {
				t.Errorf("R4: Of puts another part into its list")
			}
		}
	}
}

func TestNothingIsKept(t *testing.T) {
	// One call's bytes, changed behind it, change no answer, its own nor that of a later call.
	b := []byte("foobar")
	h, s := sum.Of(b), sum.Digest(string(b))
	hex := sum.Hex(h)
	for i := range b {
		b[i] = 'x'
	}
	sum.Hex(math.MaxUint64)
	sum.Digest("other")
	sum.Next(h, 'y')
	if s != "85944171f73967e8" || hex != s || sum.Of() != start || sum.Of([]byte("foobar")) != h || sum.Of(b) != fnvOf([]byte("xxxxxx")) {
		t.Error("R4, R5: an answer hangs on a call ahead, or on what became of its bytes")
	}
}

func TestFromSeveralGoroutines(t *testing.T) {
	b := append(each(), 7, 7, 7)[:256]
	want := fnvOf(b)
	digest := fmt.Sprintf("%016x", want)
	parts := [][]byte{b[:100], nil, b[100:]}
	var all sync.WaitGroup
	for range 8 {
		all.Go(func() {
			for range 200 {
				if sum.Of(parts...) != want || sum.Digest(string(b)) != digest || sum.Hex(want) != digest || sum.Next(fnvOf(b[:255]), 255) != want {
					t.Error("R5: calls at one time")
				}
			}
		})
	}
	all.Wait()
}

func FuzzSum(f *testing.F) {
	for _, s := range texts()[:17] {
		f.Add([]byte(s), 3)
	}
	f.Fuzz(func(t *testing.T, b []byte, at int) {
		checkSum(t, b)
		at = min(max(at, 0), len(b))
		if sum.Of(b[:at], b[at:]) != fnvOf(b) {
			t.Errorf("P6.1: Of(%.40q) in two parts, from %d on", b, at)
		}
	})
}
