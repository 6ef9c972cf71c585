package value_test

import (
	"encoding/json"
	"fmt"
	"go/parser"
	"go/token"
	"io"
	"math"
	"math/rand"
	"os"
	"reflect"
	"slices"
	"strconv"
	"strings"
	"sync"
	"testing"
	"unsafe"

	"hogshead/api"
	"hogshead/value"
)

// Of takes its values one by one, or as a list.
var _ func([]string, ...api.Value) api.Value = value.Of

// most is the greatest number that there may be.
const most = 9007199254740992

func null() api.Value { return api.Value{} }

func flag(f bool) api.Value { return api.Value{Kind: api.Bool, Flag: f} }

func num(n int) api.Value { return api.Value{Kind: api.Number, Num: n} }

func text(s string) api.Value { return api.Value{Kind: api.Text, Str: s} }

func list(l ...api.Value) api.Value { return api.Value{Kind: api.List, List: l} }

func object(keys []string, l ...api.Value) api.Value {
	return api.Value{Kind: api.Object, Keys: keys, List: l}
}

// keyed makes an object of one key.
func keyed(key string, v api.Value) api.Value { return object([]string{key}, v) }

// byteText is the text of one byte, which may be no letter.
func byteText(b int) string { return string([]byte{byte(b)}) }

// allBytes is a text of each byte.
func allBytes() string {
	var all []byte
	for b := range 256 {
		all = append(all, byte(b))
	}
	return string(all)
}

// inLists tells v in so many lists in one another.
func inLists(n int, v api.Value) api.Value {
	for range n {
		v = list(v)
	}
	return v
}

// inObjects tells v in so many objects in one another.
func inObjects(n int, v api.Value) api.Value {
	for range n {
		v = keyed("k", v)
	}
	return v
}

// inBoth tells v in so many lists and objects by turns, each with other values ahead of it and behind.
func inBoth(n int, v api.Value) api.Value {
	for i := range n {
		if i%2 == 0 {
			v = list(null(), v, text("x"))
		} else {
			v = object([]string{"", "a", "b"}, num(1), v, list())
		}
	}
	return v
}

// countedKeys makes n keys that rise.
func countedKeys(n int) []string {
	var keys []string
	for i := range n {
		keys = append(keys, strconv.Itoa(10000000+i))
	}
	return keys
}

// nulls makes a list of n.
func nulls(n int) api.Value { return list(make([]api.Value, n)...) }

// flat makes an object of n.
func flat(n int) api.Value { return object(countedKeys(n), make([]api.Value, n)...) }

// branched makes a value with so many values in it, at most so many in each.
func branched(count, wide int, kind int) api.Value {
	if count == 1 {
		return null()
	}
	count--
	var l []api.Value
	for i := range min(count, wide) {
		share := count / min(count, wide)
		if i < count%min(count, wide) {
			share++
		}
		l = append(l, branched(share, wide, kind))
	}
	if kind == api.List {
		return list(l...)
	}
	return object(countedKeys(len(l)), l...)
}

// sample is an object with all kinds in one another.
func sample() api.Value {
	return object([]string{"", "a", "b", "c", "d", "\xff"},
		text(""), list(null(), flag(false), flag(true), num(0), num(-1), num(most), text("x\"\\\x00")), object([]string{"a", "b"}, list(), object(nil)), null(), list(list(list(text("deep"))), keyed("k", num(-most))), flag(true))
}

// mays are values of many forms that may be.
func mays() []api.Value {
	return []api.Value{
		null(), flag(false), flag(true), num(0), num(1), num(-1), num(9), num(10), num(-10), num(most), num(-most), text(""), text("a"), text(allBytes()), list(), list(null()), list(list()), list(list(), list()), list(object(nil)), object(nil), keyed("", null()), keyed("a", null()), keyed("a", num(0)), keyed("a", num(1)), keyed("b", num(1)), keyed("a", text("")), keyed("a", text("a")), keyed("a", list()), keyed("a", object(nil)), object([]string{"a", "b"}, num(1), num(2)), object([]string{"a", "b"}, num(2), num(1)), object([]string{"a", "ab"}, num(1), num(2)), object([]string{"", "a", "b"}, null(), null(), null()), list(num(1), num(2)), list(num(2), num(1)), list(num(1)), list(text("1")), list(null(), null()), text("null"), text("[]"), list(text("a"), text("b")), list(text("a,b")), list(text(`a","b`)),
		sample(), inLists(15, null()), inObjects(15, text("x")), inBoth(15, num(1)), nulls(100), flat(100),
	}
}

// mayNots are values of many forms that may not be.
func mayNots() []api.Value {
	return []api.Value{
		{Kind: -1}, {Kind: 6}, {Kind: 7}, {Kind: 255}, {Kind: 256}, {Kind: math.MinInt}, {Kind: math.MaxInt}, {Kind: 1 << 32}, {Kind: 1<<32 + 4}, {Kind: -5},
		{Flag: true}, {Num: 1}, {Num: -1}, {Str: "x"}, {Str: "\x00"}, {List: []api.Value{{}}}, {Keys: []string{""}}, {Keys: []string{""}, List: []api.Value{{}}},
		{Kind: api.Bool, Num: 1}, {Kind: api.Bool, Flag: true, Str: "x"}, {Kind: api.Bool, List: []api.Value{{}}}, {Kind: api.Bool, Keys: []string{""}},
		{Kind: api.Number, Flag: true}, {Kind: api.Number, Str: "1"}, {Kind: api.Number, Num: 1, List: []api.Value{{}}}, {Kind: api.Number, Keys: []string{""}}, num(most + 1), num(-most - 1), num(math.MinInt), num(math.MaxInt), num(1 << 62), num(math.MinInt + 1),
		{Kind: api.Text, Flag: true}, {Kind: api.Text, Num: 1}, {Kind: api.Text, Str: "x", Num: -1}, {Kind: api.Text, List: []api.Value{{}}}, {Kind: api.Text, Keys: []string{""}},
		{Kind: api.List, Flag: true}, {Kind: api.List, Num: 1}, {Kind: api.List, Str: "x"}, {Kind: api.List, Keys: []string{""}}, {Kind: api.List, Keys: []string{""}, List: []api.Value{{}}}, {Kind: api.List, Keys: []string{"a", "b"}, List: []api.Value{{}, {}}},
		{Kind: api.Object, Flag: true}, {Kind: api.Object, Num: 1}, {Kind: api.Object, Str: "x"}, {Kind: api.Object, Keys: []string{"a"}, List: []api.Value{{}}, Str: "x"},
		object([]string{""}), object([]string{"a"}), object(nil, null()), object([]string{"a"}, null(), null()), object([]string{"a", "b"}, null()), object([]string{"b", "a"}, null(), null()), object([]string{"a", "a"}, null(), null()), object([]string{"", ""}, null(), null()), object([]string{"ab", "a"}, null(), null()), object([]string{"a", ""}, null(), null()), object([]string{"a", "b", "b"}, null(), null(), null()), object([]string{"a", "c", "b"}, null(), null(), null()), object([]string{"b", "c", "a"}, null(), null(), null()), object([]string{"a", "b", "a"}, null(), null(), null()), object([]string{"\xff", "\x00"}, null(), null()), object([]string{"a", "B"}, null(), null()), object([]string{"9", "10"}, null(), null()),
		inLists(16, null()), inObjects(16, null()), inBoth(16, null()), nulls(4000), flat(4000),
	}
}

// modelHas says which fields of v are not zero.
func modelHas(v api.Value) string {
	has := ""
	for _, x := range []struct {
		sign string
		is   bool
	}{{"f", v.Flag}, {"n", v.Num != 0}, {"s", v.Str != ""}, {"l", len(v.List) > 0}, {"k", len(v.Keys) > 0}} {
		if x.is {
			has += x.sign
		}
	}
	return has
}

// modelFits says by the chapter's words whether v has the fields of its Kind.
func modelFits(v api.Value) bool {
	fields, known := map[int]string{0: "", 1: "f", 2: "n", 3: "s", 4: "l", 5: "lk"}[v.Kind]
	if !known || strings.Trim(modelHas(v), fields) != "" {
		return false
	}
	if v.Kind == 2 && (float64(v.Num) > math.Pow(2, 53) || float64(v.Num) < -math.Pow(2, 53) || v.Num == most+1 || v.Num == -most-1) {
		return false
	}
	sorted := slices.Clone(v.Keys)
	slices.Sort(sorted)
	sorted = slices.Compact(sorted)
	return v.Kind != 5 || len(v.Keys) == len(v.List) && slices.Equal(sorted, v.Keys)
}

// modelSize says how many values v has in one another, how many in all, and whether each has the fields of its Kind.
func modelSize(v api.Value) (deep, all int, fit bool) {
	fit = modelFits(v)
	for _, one := range v.List {
		d, a, f := modelSize(one)
		deep, all, fit = max(deep, d), all+a, fit && f
	}
	return deep + 1, all + 1, fit
}

// modelMay says by the chapter's words whether v may be.
func modelMay(v api.Value) bool {
	deep, all, fit := modelSize(v)
	return deep <= 16 && all <= 4000 && fit
}

// modelQuote says by the chapter's words what the text of s is.
func modelQuote(s string) string {
	var out strings.Builder
	for _, b := range []byte(s) {
		switch {
		case b == 34 || b == 92:
			out.Write([]byte{92, b})
		case b < 32 || b > 126:
			fmt.Fprintf(&out, "\\u%04x", b)
		default:
			out.Write([]byte{b})
		}
	}
	return `"` + out.String() + `"`
}

// modelLay says by the chapter's words what the text of v is, which may be.
func modelLay(v api.Value) string {
	var parts []string
	for at, one := range v.List {
		s := modelLay(one)
		if v.Kind == 5 {
			s = modelQuote(v.Keys[at]) + ":" + s
		}
		parts = append(parts, s)
	}
	inside := strings.Join(parts, ",")
	return []string{"null", fmt.Sprint(v.Flag), fmt.Sprint(v.Num), modelQuote(v.Str), "[" + inside + "]", "{" + inside + "}"}[v.Kind]
}

// plain tells v with nil in place of each empty list, and lists of its own.
func plain(v api.Value) api.Value {
	v.Keys = append([]string(nil), v.Keys...)
	v.List = append([]api.Value(nil), v.List...)
	for at, one := range v.List {
		v.List[at] = plain(one)
	}
	return v
}

// alike tells whether all fields of a and b are the same, those of values that may not be, too.
func alike(a, b api.Value) bool { return reflect.DeepEqual(plain(a), plain(b)) }

// modelGet says by the chapter's words what the value of a key is.
func modelGet(v api.Value, key string) (api.Value, bool) {
	for at, k := range v.Keys {
		if k == key && v.Kind == 5 && modelMay(v) {
			return v.List[at], true
		}
	}
	return api.Value{}, false
}

// modelOf says by the chapter's words what the object of keys and values is.
func modelOf(keys []string, values []api.Value) api.Value {
	found := map[string]api.Value{}
	for at, key := range keys {
		if _, again := found[key]; !again && at < len(values) {
			found[key] = values[at]
		}
	}
	o := object(nil)
	for key := range found {
		o.Keys = append(o.Keys, key)
	}
	slices.Sort(o.Keys)
	for _, key := range o.Keys {
		o.List = append(o.List, found[key])
	}
	if !modelMay(o) {
		return api.Value{}
	}
	return o
}

// show tells v for a message.
func show(v api.Value) string { return fmt.Sprintf("%.300s", fmt.Sprintf("%+v", v)) }

// check holds all that is asked of one value against the model, and tells whether it may be.
func check(t *testing.T, v api.Value) bool {
	t.Helper()
	was := plain(v)
	want := modelMay(v)
	if value.May(v) != want {
		t.Fatalf("P15.1: May(%s) is not %t", show(v), want)
	}
	s, e := value.Lay(v)
	if want && (e != api.OK || s != modelLay(v)) {
		t.Fatalf("P15.1: Lay(%s): %.200q, %d, not %.200q", show(v), s, e, modelLay(v))
	}
	if !want && (e != api.ErrArg || s != "") {
		t.Fatalf("P15.1, R2: Lay(%s), which may not be: %.200q, %d", show(v), s, e)
	}
	if value.Same(v, v) != want || value.Same(v, was) != want || value.Same(was, v) != want {
		t.Fatalf("P15.1: Same of %s and itself is not %t", show(v), want)
	}
	for _, key := range append([]string{"", "a", "b", "k", "no key"}, v.Keys[:min(len(v.Keys), 20)]...) {
		checkGet(t, v, key)
	}
	if !reflect.DeepEqual(plain(v), was) {
		t.Fatalf("R4: %s is changed", show(was))
	}
	return want
}

// checkNot asks whether v is told not to be, whatever else is asked of it.
func checkNot(t *testing.T, v api.Value) {
	t.Helper()
	if check(t, v) {
		t.Fatalf("P15.1: %s may be", show(v))
	}
	for _, other := range []api.Value{null(), list(), object(nil), keyed("a", null())} {
		if value.Same(v, other) || value.Same(other, v) {
			t.Fatalf("P15.1: Same of %s, which may not be, and %s", show(v), show(other))
		}
	}
	if got := value.Of([]string{"a"}, v); !reflect.DeepEqual(got, api.Value{}) {
		t.Fatalf("P15.1: Of of %s, which may not be: %s", show(v), show(got))
	}
}

// checkGet holds Get against the model.
func checkGet(t *testing.T, v api.Value, key string) {
	t.Helper()
	got, ok := value.Get(v, key)
	want, there := modelGet(v, key)
	if ok != there || !alike(got, want) {
		t.Fatalf("P15.1: Get(%s, %q): %s, %t", show(v), key, show(got), ok)
	}
	if !there && !reflect.DeepEqual(got, api.Value{}) {
		t.Fatalf("R2: Get(%s, %q): %s beside false", show(v), key, show(got))
	}
}

// checkOf holds Of against the model, and what it tells against all that is asked of a value.
func checkOf(t *testing.T, keys []string, values ...api.Value) api.Value {
	t.Helper()
	wereKeys, were := slices.Clone(keys), plain(list(values...))
	got := value.Of(keys, values...)
	if want := modelOf(keys, values); !alike(got, want) {
		t.Fatalf("P15.1: Of(%.200q, %s): %s, not %s", keys, show(list(values...)), show(got), show(want))
	}
	if !slices.Equal(keys, wereKeys) || !alike(were, list(values...)) {
		t.Fatalf("R4: what Of is handed is changed: %.200q, %s", keys, show(list(values...)))
	}
	if !check(t, got) {
		t.Fatalf("P15.1: Of(%.200q, %s) may not be: %s", keys, show(list(values...)), show(got))
	}
	return got
}

// checkPair asks whether Same tells of two values what it must, whichever is ahead.
func checkPair(t *testing.T, a, b api.Value) {
	t.Helper()
	want := alike(a, b) && modelMay(a)
	if value.Same(a, b) != want || value.Same(b, a) != want {
		t.Fatalf("P15.1: Same(%s, %s) is not %t", show(a), show(b), want)
	}
}

func TestTheExample(t *testing.T) {
	if s, e := value.Lay(value.Of([]string{"b", "a"}, num(1), flag(true))); s != `{"a":true,"b":1}` || e != api.OK {
		t.Errorf("P15.1: %q, %d", s, e)
	}
}

func TestLayWrittenOut(t *testing.T) {
	for _, x := range []struct {
		v    api.Value
		want string
	}{
		{null(), "null"}, {flag(true), "true"}, {flag(false), "false"},
		{num(0), "0"}, {num(1), "1"}, {num(-1), "-1"}, {num(10), "10"}, {num(-120), "-120"}, {num(1234567890), "1234567890"}, {num(most), "9007199254740992"}, {num(-most), "-9007199254740992"}, {num(most - 1), "9007199254740991"}, {num(1 - most), "-9007199254740991"},
		{text(""), `""`}, {text("a b"), `"a b"`}, {text(`"`), `"\""`}, {text(`\`), `"\\"`}, {text(`\"`), `"\\\""`}, {text("/"), `"/"`}, {text("\n"), `"\u000a"`}, {text("\t"), `"\u0009"`}, {text("\x00"), `"\u0000"`}, {text("\x1f "), `"\u001f "`}, {text("~\x7f"), `"~\u007f"`}, {text("\x80\xff"), `"\u0080\u00ff"`}, {text("é"), `"\u00c3\u00a9"`}, {text("\u2028"), `"\u00e2\u0080\u00a8"`}, {text("<&>'"), `"<&>'"`}, {text(`\u0000`), `"\\u0000"`},
		{list(), "[]"}, {list(null()), "[null]"}, {list(num(1), num(-2)), "[1,-2]"}, {list(list(), object(nil), text("")), `[[],{},""]`}, {list(list(list())), "[[[]]]"},
		{object(nil), "{}"}, {keyed("", null()), `{"":null}`}, {object([]string{"a", "b"}, flag(true), num(1)), `{"a":true,"b":1}`}, {object([]string{"\x00", "\"", "\\", "a", "\xff"}, num(1), num(2), num(3), num(4), num(5)), `{"\u0000":1,"\"":2,"\\":3,"a":4,"\u00ff":5}`}, {keyed("a", keyed("b", list(keyed("c", text("d"))))), `{"a":{"b":[{"c":"d"}]}}`},
		{sample(), `{"":"","a":[null,false,true,0,-1,9007199254740992,"x\"\\\u0000"],"b":{"a":[],"b":{}},"c":null,"d":[[["deep"]],{"k":-9007199254740992}],"\u00ff":true}`},
	} {
		if s, e := value.Lay(x.v); s != x.want || e != api.OK {
			t.Errorf("P15.1: Lay(%s): %q, %d, not %q", show(x.v), s, e, x.want)
		}
		if !value.May(x.v) || !check(t, x.v) {
			t.Errorf("P15.1: %s may not be", show(x.v))
		}
	}
}

func TestWhatMayBe(t *testing.T) {
	for _, v := range mays() {
		if !check(t, v) {
			t.Errorf("P15.1: %s may not be", show(v))
		}
	}
}

func TestWhatMayNotBe(t *testing.T) {
	for _, v := range mayNots() {
		checkNot(t, v)
	}
}

func TestWhatMayNotBeAtEveryDepth(t *testing.T) {
	t.Parallel()
	for _, v := range append(mayNots(), mays()...) {
		may := value.May(v)
		deep, all, _ := modelSize(v)
		for n := range 17 {
			for _, in := range []api.Value{inLists(n, v), inObjects(n, v), inBoth(n, v)} {
				if check(t, in) && !may {
					t.Fatalf("P15.1: %s may be, in %d others", show(v), n)
				}
			}
			if may && value.May(inLists(n, v)) != (deep+n <= 16 && all+n <= 4000) {
				t.Fatalf("P15.1: whether %s may be in %d others", show(v), n)
			}
		}
	}
}

// Each of the fields has each of a few values, whatever the others have.
func TestAllFieldsOfEachKind(t *testing.T) {
	lists := [][]api.Value{nil, {}, {null()}, {text("x"), num(1)}, {{Flag: true}}}
	keys := [][]string{nil, {}, {""}, {"a"}, {"a", "b"}, {"b", "a"}, {"a", "a"}}
	may := map[int]int{}
	for kind := -2; kind <= 8; kind++ {
		for _, f := range []bool{false, true} {
			for _, n := range []int{0, 1, -1, most + 1} {
				for _, s := range []string{"", "x"} {
					for _, l := range lists {
						for _, k := range keys {
							if check(t, api.Value{Kind: kind, Flag: f, Num: n, Str: s, List: l, Keys: k}) {
								may[kind]++
							}
						}
					}
				}
			}
		}
	}
	// Each nil or empty list stands for two.
	if want := map[int]int{0: 4, 1: 8, 2: 12, 3: 8, 4: 8, 5: 4 + 2 + 1}; !reflect.DeepEqual(may, want) {
		t.Errorf("P15.1: of each Kind so many may be: %v, not %v", may, want)
	}
}

func TestNumbers(t *testing.T) {
	for bit := range 63 {
		for _, n := range []int{1 << bit, 1<<bit - 1, 1<<bit + 1} {
			for _, n := range []int{n, -n} {
				if v := num(n); check(t, v) != (n <= most && n >= -most) {
					t.Errorf("P15.1: whether %d may be", n)
				}
			}
		}
	}
	for _, n := range []int{math.MinInt, math.MaxInt, math.MinInt + 1, most + 2, -most - 2} {
		checkNot(t, num(n))
	}
	for n := -1100; n <= 1100; n++ {
		if s, e := value.Lay(num(n)); s != fmt.Sprint(n) || e != api.OK {
			t.Errorf("P15.1: Lay of %d: %q, %d", n, s, e)
		}
	}
}

func TestQuoteOfEachByte(t *testing.T) {
	for b := range 256 {
		one := byteText(b)
		want := `"\u00` + fmt.Sprintf("%02x", b) + `"`
		if b >= 32 && b <= 126 {
			want = `"` + one + `"`
		}
		if one == `"` || one == `\` {
			want = `"\` + one + `"`
		}
		if s := value.Quote(one); s != want {
			t.Errorf("P15.1: Quote of byte %d: %q, not %q", b, s, want)
		}
		if s, e := value.Lay(text(one)); s != want || e != api.OK {
			t.Errorf("P15.1: Lay of the text of byte %d: %q, %d", b, s, e)
		}
		if s, e := value.Lay(keyed(one, null())); s != "{"+want+":null}" || e != api.OK {
			t.Errorf("P15.1: Lay of the key of byte %d: %q, %d", b, s, e)
		}
		for other := range 256 {
			two := one + byteText(other)
			if s := value.Quote(two); s != modelQuote(two) {
				t.Errorf("P15.1: Quote of bytes %d, %d: %q", b, other, s)
			}
		}
	}
}

func TestQuoteOfTexts(t *testing.T) {
	for _, s := range []string{"", allBytes(), allBytes() + allBytes(), "é", "\xc3", "\xa9\xc3", "\xf0\x9f\x90\x97", "\xed\xa0\x80", "\ufeff", "\u2028\u2029", "</script>", strings.Repeat(`"`, 1000), strings.Repeat(`\`, 1001), strings.Repeat("\x00", 1000), `\u0022`, "null", `""`, " ", "  ", "\r\n"} {
		if got := value.Quote(s); got != modelQuote(s) {
			t.Errorf("P15.1: Quote(%.100q): %.200q", s, got)
		}
		check(t, text(s))
		check(t, keyed(s, text(s)))
		check(t, list(text(s), keyed(s, list(text(s)))))
	}
	if got, e := value.Lay(keyed(allBytes(), text(allBytes()))); e != api.OK || got != "{"+value.Quote(allBytes())+":"+value.Quote(allBytes())+"}" {
		t.Errorf("P15.1: a key and a text of each byte: %q, %d", got, e)
	}
}

// decoded tells the value that the library's reader finds in a text; each of its letters is a byte.
func decoded(t *testing.T, d *json.Decoder) api.Value {
	t.Helper()
	token, e := d.Token()
	if e != nil {
		t.Fatalf("P15.1: the library's reader: %v", e)
	}
	switch x := token.(type) {
	case bool:
		return flag(x)
	case json.Number:
		n, e := strconv.Atoi(string(x))
		if e != nil {
			t.Fatalf("P15.1: the library's reader: %v", e)
		}
		return num(n)
	case string:
		return text(letters(x))
	case json.Delim:
		v := list()
		if x == '{' {
			v = object(nil)
		}
		for d.More() {
			if x == '{' {
				v.Keys = append(v.Keys, decoded(t, d).Str)
			}
			v.List = append(v.List, decoded(t, d))
		}
		d.Token()
		return v
	}
	return null()
}

// letters tells the bytes whose numbers are those of s's letters.
func letters(s string) string {
	var all []byte
	for _, r := range s {
		all = append(all, byte(r))
	}
	return string(all)
}

func TestTheLibraryReadsTheSame(t *testing.T) {
	for _, v := range append(mays(), nulls(3999), flat(3999), branched(4000, 3, api.Object)) {
		s, _ := value.Lay(v)
		d := json.NewDecoder(strings.NewReader(s))
		d.UseNumber()
		if got := decoded(t, d); !alike(got, v) {
			t.Errorf("P15.1: the library's reader finds %s in the text of %s", show(got), show(v))
		}
		if _, e := d.Token(); e != io.EOF {
			t.Errorf("P15.1: behind the text of %s there is more", show(v))
		}
	}
}

// The values of a pool, each in a list and in an object, and two of them, there too.
func pool() []api.Value {
	small := []api.Value{null(), flag(true), num(-1), text("a"), text(`"`), list(), object(nil), {Kind: 6}, {Kind: api.Text, Num: 1}, object([]string{"a"})}
	all := slices.Clone(small)
	for _, v := range small {
		all = append(all, list(v), keyed("a", v), keyed("b", v), list(list(v)))
		for _, w := range small {
			all = append(all, list(v, w), object([]string{"a", "b"}, v, w), list(list(v), keyed("k", w)))
		}
	}
	return all
}

func TestAllSmallValues(t *testing.T) {
	for _, v := range pool() {
		check(t, v)
	}
}

func TestSameOfEachTwo(t *testing.T) {
	t.Parallel()
	all := append(append(mays(), mayNots()[:60]...), pool()[:150]...)
	for _, a := range all {
		for _, b := range all {
			checkPair(t, a, b)
		}
	}
}

func TestSameOfTwoMadeApart(t *testing.T) {
	for at, v := range mays() {
		if !value.Same(v, mays()[at]) || !value.Same(mays()[at], v) {
			t.Errorf("P15.1: Same of %s, and one made apart", show(v))
		}
		for other, w := range mays() {
			if value.Same(v, w) != (at == other) {
				t.Errorf("P15.1: Same of %s and %s", show(v), show(w))
			}
		}
	}
}

// each hands on all values in v, v too, by where they stand.
func each(v *api.Value, take func(*api.Value)) {
	take(v)
	for at := range v.List {
		each(&v.List[at], take)
	}
}

// changes tells how one value may be another one, in one field alone or in two that go together.
func changes() []func(*api.Value) {
	return []func(*api.Value){
		func(v *api.Value) { v.Kind++ },
		func(v *api.Value) { v.Kind-- },
		func(v *api.Value) { *v = api.Value{} },
		func(v *api.Value) { v.Flag = !v.Flag },
		func(v *api.Value) { v.Num++ },
		func(v *api.Value) { v.Num-- },
		func(v *api.Value) { v.Num = -v.Num },
		func(v *api.Value) { v.Num = math.MinInt },
		func(v *api.Value) { v.Str += "\x00" },
		func(v *api.Value) { v.Str = strings.ToUpper(v.Str) },
		func(v *api.Value) { v.Str = v.Str[:max(0, len(v.Str)-1)] },
		func(v *api.Value) { v.List = append(v.List, null()) },
		func(v *api.Value) { v.List = v.List[:max(0, len(v.List)-1)] },
		func(v *api.Value) { slices.Reverse(v.List) },
		func(v *api.Value) { v.Keys = append(v.Keys, "\xff\xff") },
		func(v *api.Value) { v.Keys = v.Keys[:max(0, len(v.Keys)-1)] },
		func(v *api.Value) { slices.Reverse(v.Keys) },
		func(v *api.Value) { v.Keys, v.List = append(v.Keys, "\xff\xff"), append(v.List, null()) },
		func(v *api.Value) { slices.Reverse(v.Keys); slices.Reverse(v.List) },
		func(v *api.Value) {
			for at := range v.Keys {
				v.Keys[at] += "."
			}
		},
		func(v *api.Value) {
			if len(v.Keys) > 0 {
				v.Keys[len(v.Keys)-1] += "."
			}
		},
		func(v *api.Value) {
			if len(v.Keys) > 0 {
				v.Keys, v.List = v.Keys[1:], v.List[1:]
			}
		},
	}
}

// Two that are unlike in one place alone, however deep it is.
func TestOneChangeAtEachPlace(t *testing.T) {
	t.Parallel()
	for _, whole := range []api.Value{sample(), inBoth(10, sample()), inBoth(15, text("x")), list(sample(), sample()), branched(40, 3, api.Object), nulls(30), flat(30), inObjects(15, num(-1))} {
		places, mayStill := 0, 0
		each(&whole, func(*api.Value) { places++ })
		for at := range places {
			for _, change := range changes() {
				other := plain(whole)
				seen := 0
				each(&other, func(v *api.Value) {
					if seen == at {
						change(v)
					}
					seen++
				})
				checkPair(t, whole, other)
				if check(t, other) && !alike(whole, other) {
					mayStill++
				}
			}
		}
		if mayStill < places {
			t.Errorf("of all changes of %s only %d may be", show(whole), mayStill)
		}
	}
}

func TestNilAndEmptyListsAreAlike(t *testing.T) {
	for kind := range 6 {
		v := api.Value{Kind: kind}
		for _, l := range [][]api.Value{nil, {}, make([]api.Value, 0, 4), []api.Value{{Kind: 9}}[:0]} {
			for _, k := range [][]string{nil, {}, make([]string, 0, 4), []string{"b", "a"}[:0]} {
				other := api.Value{Kind: kind, List: l, Keys: k}
				if !value.May(other) || !value.Same(v, other) || !value.Same(other, v) {
					t.Errorf("P15.1: of Kind %d nil and empty lists are not alike", kind)
				}
				for _, in := range []func(api.Value) api.Value{func(v api.Value) api.Value { return list(v) }, func(v api.Value) api.Value { return keyed("a", v) }} {
					if !value.Same(in(v), in(other)) || !value.Same(in(other), in(v)) {
						t.Errorf("P15.1: of Kind %d nil and empty lists are not alike, in another one", kind)
					}
				}
				checkOf(t, []string{"a"}, other)
				check(t, other)
			}
		}
	}
}

func TestDeepest(t *testing.T) {
	for n := range 40 {
		for _, v := range []api.Value{inLists(n, null()), inLists(n, list()), inObjects(n, object(nil)), inObjects(n, text("x")), inBoth(n, num(1)), list(null(), inLists(n, null())), object([]string{"a", "b"}, inObjects(n, flag(true)), null()), list(inLists(max(0, n-1), null()), inObjects(n, null()), inBoth(n/2, null()))} {
			deep, _, _ := modelSize(v)
			if check(t, v) != (deep <= api.MaxDeep) {
				t.Errorf("P15.1: whether there may be %d values in one another", deep)
			}
		}
	}
	for _, n := range []int{1000, 100000} {
		if v := inLists(n, null()); value.May(v) || value.May(inObjects(n, null())) || value.Same(v, v) {
			t.Errorf("P15.1: %d values in one another may be", n)
		}
	}
}

func TestMostValues(t *testing.T) {
	t.Parallel()
	for _, count := range []int{3998, 3999, 4000, 4001, 4002, 8000} {
		want := count <= api.MaxValues
		for _, v := range []api.Value{nulls(count - 1), flat(count - 1), branched(count, 1000, api.List), branched(count, 60, api.Object), branched(count, 7, api.List), branched(count, 2, api.Object), list(nulls(count - 2)), list(nulls(1000), nulls(count-1004), null()), keyed("k", flat(count-2)), object([]string{"a", "b"}, flat(2000), list(flat(count-2004)))} {
			if _, all, _ := modelSize(v); all != count {
				t.Fatalf("the tests' value has %d in all, not %d", all, count)
			}
			if check(t, v) != want {
				t.Errorf("P15.1: whether there may be %d values in all: %s", count, show(v))
			}
		}
		if got := value.Of(countedKeys(count-1), make([]api.Value, count-1)...); want && len(got.Keys) != count-1 || !want && !reflect.DeepEqual(got, api.Value{}) {
			t.Errorf("P15.1: Of of %d keys: %s", count-1, show(got))
		}
	}
	// As many in one another and as many in all as there may be, at once.
	for _, more := range []int{0, 1} {
		if check(t, inLists(15, nulls(0))) != true || check(t, inLists(14, nulls(4000-15+more))) != (more == 0) || check(t, inObjects(14, flat(4000-15+more))) != (more == 0) {
			t.Errorf("P15.1: the most values in one another, and the most, and %d more", more)
		}
	}
}

func TestKeysOfObjects(t *testing.T) {
	t.Parallel()
	pool := []string{"", "a", "b", "ab", "a\x00", "\xff", "A"}
	lists := [][]string{nil}
	for range 3 {
		for _, l := range slices.Clone(lists) {
			for _, key := range pool {
				lists = append(lists, append(slices.Clone(l), key))
			}
		}
	}
	for _, keys := range lists {
		for n := range 5 {
			check(t, object(keys, nulls(n).List...))
			checkOf(t, keys, num(1), num(2), text("x"), list(null()))
			checkOf(t, keys, list(num(1), num(2), text("x"), num(3)).List[:min(n, 4)]...)
		}
	}
	// One key out of order, and one twice, at each place of many.
	v := flat(200)
	for at := range v.Keys {
		for _, key := range []string{"", "~", v.Keys[max(0, at-1)], v.Keys[min(199, at+1)], v.Keys[at] + "."} {
			other := plain(v)
			other.Keys[at] = key
			check(t, other)
		}
		missing, more := plain(v), plain(v)
		missing.Keys = slices.Delete(missing.Keys, at, at+1)
		more.List = slices.Delete(more.List, at, at+1)
		checkNot(t, missing)
		checkNot(t, more)
	}
}

func TestGetOfEachKey(t *testing.T) {
	for _, v := range append(mays(), flat(3999)) {
		for at, key := range v.Keys {
			got, ok := value.Get(v, key)
			if !ok || !value.Same(got, v.List[at]) {
				t.Fatalf("P15.1: Get(%s, %q): %s, %t", show(v), key, show(got), ok)
			}
			if at%100 == 0 || len(v.Keys) < 100 {
				checkGet(t, v, key+"\x00")
				checkGet(t, v, key+" ")
				checkGet(t, v, key[:max(0, len(key)-1)])
				checkGet(t, v, strings.ToUpper(key))
			}
		}
	}
	each := object(nil)
	for b := range 256 {
		each.Keys, each.List = append(each.Keys, byteText(b)), append(each.List, num(b))
	}
	for b := range 256 {
		if got, ok := value.Get(each, byteText(b)); !ok || !value.Same(got, num(b)) {
			t.Errorf("P15.1: Get of the key of byte %d: %s, %t", b, show(got), ok)
		}
		checkGet(t, each, byteText(b)+byteText(b))
	}
	checkGet(t, each, "")
}

func TestGetOfWhatIsNone(t *testing.T) {
	for _, v := range append(mayNots(), null(), flag(true), num(1), text("a"), list(), list(null()), list(text("a")), list(keyed("a", num(1))), object(nil), keyed("b", keyed("a", num(1)))) {
		for _, key := range []string{"a", "", "b\x00", "10000001"} {
			if got, ok := value.Get(v, key); ok && !(v.Kind == api.Object && value.May(v)) || !ok && !reflect.DeepEqual(got, api.Value{}) {
				t.Errorf("P15.1, R2: Get(%s, %q): %s, %t", show(v), key, show(got), ok)
			}
			checkGet(t, v, key)
		}
	}
	// Also where what may not be stands under another key.
	if got, ok := value.Get(object([]string{"a", "b"}, num(1), api.Value{Kind: 6}), "a"); ok || !reflect.DeepEqual(got, api.Value{}) {
		t.Errorf("P15.1: Get of an object that may not be: %s, %t", show(got), ok)
	}
	if got, ok := value.Get(object([]string{"a", "b"}, null(), null()), "a"); !ok || !value.Same(got, null()) {
		t.Errorf("P15.1: Get of a key whose value is Null: %s, %t", show(got), ok)
	}
}

func TestOfWrittenOut(t *testing.T) {
	for _, x := range []struct {
		keys   []string
		values []api.Value
		want   string
	}{
		{nil, nil, "{}"}, {[]string{}, []api.Value{}, "{}"}, {[]string{"a"}, nil, "{}"}, {nil, []api.Value{num(1)}, "{}"}, {nil, []api.Value{{Kind: 6}}, "{}"},
		{[]string{""}, []api.Value{num(1)}, `{"":1}`}, {[]string{"b", "a"}, []api.Value{num(1), num(2)}, `{"a":2,"b":1}`},
		{[]string{"b", "a", "c"}, []api.Value{num(1), num(2)}, `{"a":2,"b":1}`}, {[]string{"b", "a"}, []api.Value{num(1), num(2), num(3)}, `{"a":2,"b":1}`}, {[]string{"b", "a"}, []api.Value{num(1), num(2), {Kind: 6}}, `{"a":2,"b":1}`},
		{[]string{"a", "a"}, []api.Value{num(1), num(2)}, `{"a":1}`}, {[]string{"b", "a", "b"}, []api.Value{num(1), num(2), num(3)}, `{"a":2,"b":1}`}, {[]string{"a", "a", "b"}, []api.Value{num(1), num(2)}, `{"a":1}`}, {[]string{"a", "a", "b"}, []api.Value{num(1), num(2), num(3)}, `{"a":1,"b":3}`},
		{[]string{"a", "a"}, []api.Value{num(1), {Kind: 6}}, `{"a":1}`}, {[]string{"a", "a"}, []api.Value{{Kind: 6}, num(1)}, "null"}, {[]string{"a", "a"}, []api.Value{num(1), inLists(16, null())}, `{"a":1}`}, {[]string{"a", "a"}, []api.Value{num(1), nulls(4000)}, `{"a":1}`}, {[]string{"a"}, []api.Value{num(1), nulls(4000)}, `{"a":1}`},
		{[]string{"a"}, []api.Value{{Kind: 6}}, "null"}, {[]string{"a", "b"}, []api.Value{num(1), {Kind: -1}}, "null"}, {[]string{"a", "b"}, []api.Value{{Flag: true}, num(1)}, "null"}, {[]string{"a"}, []api.Value{num(most + 1)}, "null"}, {[]string{"a"}, []api.Value{inLists(15, null())}, "null"}, {[]string{"a"}, []api.Value{nulls(3999)}, "null"}, {[]string{"a"}, []api.Value{object([]string{"b", "a"}, null(), null())}, "null"},
		{[]string{"a"}, []api.Value{inLists(14, null())}, `{"a":[[[[[[[[[[[[[[null]]]]]]]]]]]]]]}`}, {[]string{"a"}, []api.Value{null()}, `{"a":null}`},
		{[]string{"\xff", "", "\x00", "a b"}, []api.Value{num(1), num(2), num(3), num(4)}, `{"":2,"\u0000":3,"a b":4,"\u00ff":1}`}, {[]string{"10", "9", "1"}, []api.Value{num(10), num(9), num(1)}, `{"1":1,"10":10,"9":9}`}, {[]string{"b", "B", "a"}, []api.Value{num(1), num(2), num(3)}, `{"B":2,"a":3,"b":1}`},
	} {
		if s, e := value.Lay(value.Of(x.keys, x.values...)); s != x.want || e != api.OK {
			t.Errorf("P15.1: Of(%q, %s): %q, %d, not %q", x.keys, show(list(x.values...)), s, e, x.want)
		}
		checkOf(t, x.keys, x.values...)
	}
	if got := value.Of([]string{"b", "a"}, num(1), num(2)); !reflect.DeepEqual(got, object([]string{"a", "b"}, num(2), num(1))) {
		t.Errorf("R2: Of has other fields: %+v", got)
	}
}

// orders tells all orders of n things.
func orders(n int) [][]int {
	if n == 0 {
		return [][]int{nil}
	}
	var all [][]int
	for _, l := range orders(n - 1) {
		for at := 0; at <= len(l); at++ {
			all = append(all, slices.Insert(slices.Clone(l), at, n-1))
		}
	}
	return all
}

func TestOfKeysInEachOrder(t *testing.T) {
	t.Parallel()
	keys := []string{"", "a", "a\x00", "b", "\xff", "a"}
	values := []api.Value{null(), num(1), text("x"), list(num(2)), keyed("k", null()), num(3)}
	for _, order := range orders(len(keys)) {
		var k []string
		var v []api.Value
		for _, at := range order {
			k, v = append(k, keys[at]), append(v, values[at])
		}
		checkOf(t, k, v...)
		checkOf(t, k[:4], v...)
		checkOf(t, k, v[:3]...)
	}
}

// The value that may not be is the first one's, one that is passed over, or one of a key alone.
func TestOfAWrongValueAtEachPlace(t *testing.T) {
	t.Parallel()
	keys := []string{"c", "a", "c", "b", "a", "c", "d"}
	for _, wrong := range append(mayNots(), inLists(15, null()), inObjects(15, null()), nulls(3999), nulls(3995), nulls(3996), flat(3994)) {
		for at := range 9 {
			values := list(num(0), num(1), num(2), num(3), num(4), num(5), num(6), num(7), num(8)).List
			values[at] = wrong
			got := checkOf(t, keys, values...)
			standing := at == 0 || at == 1 || at == 3 || at == 6
			if !value.May(wrong) && (got.Kind == api.Null) != standing {
				t.Fatalf("P15.1: Of with %s at %d: %s", show(wrong), at, show(got))
			}
			checkOf(t, keys[:4], values...)
			checkOf(t, keys, values[:4]...)
		}
	}
}

func TestOfManyKeysAlike(t *testing.T) {
	t.Parallel()
	for _, n := range []int{10, 100, 5000, 100000} {
		var keys []string
		var values []api.Value
		for i := range n {
			keys, values = append(keys, strconv.Itoa(i*7%10)), append(values, num(i))
		}
		if got := value.Of(keys, values...); !value.Same(got, object([]string{"0", "1", "2", "3", "4", "5", "6", "7", "8", "9"}, num(0), num(3), num(6), num(9), num(2), num(5), num(8), num(1), num(4), num(7))) {
			t.Errorf("P15.1: Of of %d keys, ten unlike: %s", n, show(got))
		}
	}
}

func TestRandomObjects(t *testing.T) {
	t.Parallel()
	r := rand.New(rand.NewSource(15))
	for range 2000 {
		keys := make([]string, r.Intn(12))
		for at := range keys {
			keys[at] = strings.Repeat(byteText(r.Intn(256)), r.Intn(3))
		}
		values := make([]api.Value, r.Intn(12))
		for at := range values {
			values[at] = drawn(r, 4)
		}
		checkOf(t, keys, values...)
		check(t, object(keys, values...))
	}
}

// drawn makes any value, seldom one that may not be.
func drawn(r *rand.Rand, deep int) api.Value {
	switch kind := r.Intn(6); kind {
	case api.Bool:
		return flag(r.Intn(2) > 0)
	case api.Number:
		return num(r.Intn(2*most) - most)
	case api.Text:
		return text(string(slices.Repeat([]byte{byte(r.Intn(256))}, r.Intn(4))))
	case api.List, api.Object:
		v := api.Value{Kind: kind}
		for i := range r.Intn(deep + 1) {
			v.List = append(v.List, drawn(r, deep-1))
			if kind == api.Object || r.Intn(300) == 0 {
				v.Keys = append(v.Keys, strconv.Itoa(i))
			}
		}
		return v
	}
	return api.Value{Num: r.Intn(200) / 199}
}

// Lists that hold themselves have no end; lists that are held again and again have very many values.
func TestRings(t *testing.T) {
	ring := list(null())
	ring.List[0] = ring
	wide := nulls(3000)
	for at := range wide.List {
		wide.List[at] = wide
	}
	knot := object([]string{"a", "b"}, null(), null())
	knot.List[0], knot.List[1] = list(knot), knot
	late := list(nulls(3990), ring)
	doubled, thick := null(), null()
	for range 64 {
		doubled, thick = list(doubled, doubled), api.Value{Kind: api.List, List: slices.Repeat([]api.Value{thick}, 3999)}
	}
	if value.Same(inLists(15, null()), ring) || value.Same(ring, inLists(15, null())) || value.Same(object([]string{"a", "b"}, inLists(1, null()), null()), knot) {
		t.Error("P15.1: Same of what may be and a list that holds itself")
	}
	for i, v := range []api.Value{ring, wide, knot, late, doubled, thick, list(ring), keyed("a", knot), object([]string{"a", "b"}, num(1), ring), {Kind: 6, List: ring.List}, {Kind: api.Object, List: ring.List}} {
		s, e := value.Lay(v)
		got, ok := value.Get(v, "a")
		if value.May(v) || s != "" || e != api.ErrArg || value.Same(v, v) || value.Same(v, null()) || value.Same(null(), v) || ok || !reflect.DeepEqual(got, api.Value{}) {
			t.Errorf("R1, P15.1: the %d-th of those without end", i)
		}
		if got := value.Of([]string{"b", "a", "b"}, num(1), v, ring); !reflect.DeepEqual(got, api.Value{}) {
			t.Errorf("R1, P15.1: Of the %d-th of those without end: %s", i, show(got))
		}
		if got := value.Of([]string{"a", "a"}, num(1), v, ring); !alike(got, keyed("a", num(1))) {
			t.Errorf("R1, P15.1: Of, the %d-th of those without end passed over: %s", i, show(got))
		}
	}
}

// The same lists in several places count each time, and are none of one another's in an answer.
func TestListsHeldAgain(t *testing.T) {
	v := list()
	for range 10 {
		v = list(v, v)
	}
	if !check(t, v) || !check(t, list(v)) || check(t, list(v, v)) || check(t, object([]string{"a", "b"}, v, v)) {
		t.Error("P15.1: 2047 values, most of them again and again")
	}
	for _, held := range []api.Value{list(), list(num(1)), keyed("a", list(num(1))), sample()} {
		got := checkOf(t, []string{"a", "b", "c"}, held, held, list(held, held))
		checkApart(t, []api.Value{held}, got)
		spoil(got.List[0])
		if !alike(got.List[1], held) || !alike(got.List[2], list(held, held)) {
			t.Errorf("R4: two lists of an answer share memory: %s", show(got))
		}
		spoil(got.List[2].List[1])
		if !alike(got.List[2].List[0], held) || !alike(got.List[1], held) {
			t.Errorf("R4: two lists of an answer share memory: %s", show(got))
		}
		whole := keyed("k", list(held, held))
		got, _ = value.Get(whole, "k")
		checkApart(t, []api.Value{whole}, got)
		spoil(got.List[0])
		if !alike(got.List[1], held) || !alike(whole, keyed("k", list(held, held))) {
			t.Errorf("R4: two lists of what Get tells share memory: %s", show(got))
		}
	}
}

// spoil overwrites all lists of v, their spare room too.
func spoil(v api.Value) {
	for _, one := range v.List {
		spoil(one)
	}
	for at := range v.List[:cap(v.List)] {
		v.List[:cap(v.List)][at] = api.Value{Kind: 99, Str: "spoilt"}
	}
	for at := range v.Keys[:cap(v.Keys)] {
		v.Keys[:cap(v.Keys)][at] = "spoilt"
	}
}

// stretch is where a list stands in memory, its spare room too.
type stretch struct{ from, to uintptr }

// stretches tells where all lists of v stand.
func stretches(v api.Value) []stretch {
	var all []stretch
	if n := cap(v.List); n > 0 {
		from := uintptr(unsafe.Pointer(unsafe.SliceData(v.List)))
		all = append(all, stretch{from, from + uintptr(n)*unsafe.Sizeof(v)})
	}
	if n := cap(v.Keys); n > 0 {
		from := uintptr(unsafe.Pointer(unsafe.SliceData(v.Keys)))
		all = append(all, stretch{from, from + uintptr(n)*unsafe.Sizeof("")})
	}
	for _, one := range v.List {
		all = append(all, stretches(one)...)
	}
	return all
}

// checkApart asks whether no list of an answer shares memory with one of what was handed in, or with another one of an answer.
func checkApart(t *testing.T, handed []api.Value, answers ...api.Value) {
	t.Helper()
	var before, all []stretch
	for _, v := range handed {
		before = append(before, stretches(v)...)
	}
	for _, v := range answers {
		all = append(all, stretches(v)...)
	}
	for at, s := range all {
		for _, other := range append(slices.Clone(before), all[:at]...) {
			if s.from < other.to && other.from < s.to {
				t.Fatalf("R4: an answer shares memory: %s", show(list(answers...)))
			}
		}
	}
}

// roomy tells v with lists of their own that have spare room, with something in it.
func roomy(v api.Value) api.Value {
	l := make([]api.Value, 0, len(v.List)+3)
	for _, one := range v.List {
		l = append(l, roomy(one))
	}
	v.List = append(l, text("spare"), api.Value{Kind: 77}, num(3))[:len(v.List)]
	v.Keys = append(append(make([]string, 0, len(v.Keys)+2), v.Keys...), "spare", "room")[:len(v.Keys)]
	return v
}

// told tells all that v has, the spare room of its lists too.
func told(v api.Value) string {
	s := fmt.Sprintf("%d %t %d %q %q %v", v.Kind, v.Flag, v.Num, v.Str, v.Keys[:cap(v.Keys)], v.List[len(v.List):cap(v.List)])
	for _, one := range v.List {
		s += "(" + told(one) + ")"
	}
	return s
}

func TestWhatIsHandedInStays(t *testing.T) {
	t.Parallel()
	for _, v := range append(mays(), mayNots()[:len(mayNots())-2]...) {
		given, other := roomy(v), roomy(v)
		keys := append(make([]string, 0, 8), "z", "a", "z", "m", "spare")[:4]
		values := append(make([]api.Value, 0, 8), given, other, given, given, num(5))[:4]
		was, wasOther, wasKeys, wasValues := told(given), told(other), fmt.Sprint(keys[:8]), told(list(values...))
		for range 2 {
			check(t, given)
			value.Same(given, other)
			got, ok := value.Get(given, "a")
			again, _ := value.Get(given, "a")
			made, madeAgain := value.Of(keys, values...), value.Of(keys, values...)
			if ok {
				checkApart(t, []api.Value{given, other}, got, again)
			}
			checkApart(t, []api.Value{given, other, {Keys: keys, List: values}}, made, madeAgain)
			spoil(got)
			if want, _ := modelGet(v, "a"); ok && !alike(again, want) {
				t.Fatalf("R4: one answer of Get shares memory with another one, of %s", show(v))
			}
			spoil(made)
			if !alike(madeAgain, modelOf(keys, values)) {
				t.Fatalf("R4: one answer of Of shares memory with another one, of %s", show(v))
			}
			spoil(madeAgain)
			if told(given) != was || told(other) != wasOther || fmt.Sprint(keys[:8]) != wasKeys || told(list(values...)) != wasValues {
				t.Fatalf("R4: %s is changed, or its spare room, or shared", show(v))
			}
		}
	}
}

// What is handed in may be another thing behind the call: what was told stays.
func TestWhatIsToldStays(t *testing.T) {
	for _, v := range mays() {
		if !value.May(keyed("a", v)) {
			continue
		}
		given := plain(keyed("a", v))
		keys, values := []string{"b", "a"}, []api.Value{plain(v), plain(v)}
		laid, _ := value.Lay(given)
		got, _ := value.Get(given, "a")
		made := value.Of(keys, values...)
		spoil(given)
		spoil(api.Value{Keys: keys, List: values})
		if want := keyed("a", v); laid != modelLay(want) || !alike(got, v) {
			t.Errorf("R4: what is told of %s hangs on what it was told of", show(v))
		}
		if !alike(made, object([]string{"a", "b"}, v, v)) {
			t.Errorf("R4: what Of tells of %s hangs on what it was told of", show(v))
		}
	}
}

func TestVeryMany(t *testing.T) {
	t.Parallel()
	great := strings.Repeat("a\"\x00\xff", 1<<20)
	if s, e := value.Lay(keyed(great, list(text(great), text(great)))); e != api.OK || s != "{"+modelQuote(great)+":["+modelQuote(great)+","+modelQuote(great)+"]}" {
		t.Errorf("P15.1: Lay of great texts: %d bytes, %d", len(s), e)
	}
	keys := countedKeys(500000)
	slices.Reverse(keys)
	values := make([]api.Value, len(keys))
	if got := value.Of(keys, values...); got.Kind != api.Null {
		t.Errorf("P15.1: Of of %d keys", len(keys))
	}
	if got := value.Of(keys, values[:3999]...); len(got.Keys) != 3999 || got.Keys[0] != keys[3998] {
		t.Errorf("P15.1: Of of %d keys, and 3999 values: %d keys", len(keys), len(got.Keys))
	}
	if got := value.Of(keys[:10], values...); len(got.Keys) != 10 {
		t.Errorf("P15.1: Of of 10 keys, and %d values: %d keys", len(values), len(got.Keys))
	}
	for _, v := range []api.Value{{Kind: api.Object, Keys: keys, List: values}, list(values...), {Kind: api.Null, Keys: keys, List: values}, {Kind: api.Object, Keys: keys}, list(slices.Repeat([]api.Value{list(values...)}, 3000)...)} {
		if s, e := value.Lay(v); value.May(v) || s != "" || e != api.ErrArg {
			t.Errorf("P15.1: very many values may be")
		}
	}
	// Keys that are alike for long, asked for again and again.
	long := strings.Repeat("x", 10000)
	var alikes []string
	for i := range 2000 {
		alikes = append(alikes, long+strconv.Itoa(10000-i))
	}
	made := value.Of(alikes, values[:2000]...)
	for _, key := range alikes[:50] {
		if _, ok := value.Get(made, key); !ok {
			t.Errorf("P15.1: Get of a long key")
		}
		if _, ok := value.Get(made, key+"."); ok {
			t.Errorf("P15.1: Get of a long key that is not there")
		}
	}
}

func TestAgainAndAtOneTime(t *testing.T) {
	v, wrong := sample(), inLists(16, sample())
	want := modelLay(v)
	var all sync.WaitGroup
	for range 8 {
		all.Add(1)
		go func() {
			defer all.Done()
			for range 50 {
				s, e := value.Lay(v)
				_, eWrong := value.Lay(wrong)
				got, ok := value.Get(v, "d")
				made := value.Of([]string{"b", "a"}, v, v)
				if s != want || e != api.OK || eWrong != api.ErrArg || !ok || !value.Same(got, v.List[4]) || !value.Same(made.List[0], v) || value.Quote("\xff") != `"\u00ff"` {
					t.Error("R5: another answer")
				}
			}
		}()
	}
	all.Wait()
}

// values tells a value for each text: a small machine reads the bytes, and what it ends with may be or not.
func values(s string) api.Value {
	stack := []api.Value{}
	pop := func() api.Value {
		if len(stack) == 0 {
			return api.Value{}
		}
		v := stack[len(stack)-1]
		stack = stack[:len(stack)-1]
		return v
	}
	for _, b := range []byte(s) {
		switch b % 8 {
		case 0:
			stack = append(stack, api.Value{Kind: int(b / 8 % 8), Flag: b > 127})
		case 1:
			stack = append(stack, num((int(b)-128)<<46))
		case 2:
			stack = append(stack, text(byteText(int(b))))
		case 3:
			stack = append(stack, list(pop()))
		case 4:
			stack = append(stack, list(pop(), pop(), pop()))
		case 5:
			stack = append(stack, keyed(byteText(int(b)), pop()))
		case 6:
			stack = append(stack, object([]string{"a", byteText(int(b))}, pop(), pop()))
		case 7:
			stack = append(stack, list(slices.Clone(stack)...))
		}
		if _, all, _ := modelSize(list(stack...)); all > 5000 {
			stack = stack[len(stack)-1:]
		}
	}
	return pop()
}

func FuzzValue(f *testing.F) {
	for _, s := range []string{"", "\x00", "abc", "\x01\x03\x03\x03", "\x00\x01\x02\x04\x05\x06\x07", allBytes(), strings.Repeat("\x07", 12), strings.Repeat("\x03", 17), strings.Repeat("\x03", 16), "\x68\x69\x6a\x6e\x6e\x07\x6d"} {
		f.Add(s, "a")
	}
	f.Fuzz(func(t *testing.T, s, key string) {
		v := values(s[:min(len(s), 60)])
		check(t, v)
		checkGet(t, v, key)
		checkPair(t, v, values(key[:min(len(key), 60)]))
		checkOf(t, []string{key, s, "a", key}, v, text(s), v)
		if value.Quote(s) != modelQuote(s) {
			t.Fatalf("P15.1: Quote(%q)", s)
		}
	})
}

func TestWhatThePackageCalls(t *testing.T) {
	allowed := []string{"hogshead/api", "bytes", "cmp", "errors", "iter", "maps", "math", "math/bits", "slices", "sort", "strconv", "strings", "unicode", "unicode/utf8"}
	files, e := os.ReadDir(".")
	if e != nil {
		t.Fatal(e)
	}
	for _, f := range files {
		if !strings.HasSuffix(f.Name(), ".go") || strings.HasSuffix(f.Name(), "_test.go") {
			continue
		}
		parsed, e := parser.ParseFile(token.NewFileSet(), f.Name(), nil, parser.ImportsOnly)
		if e != nil {
			t.Fatal(e)
		}
		for _, i := range parsed.Imports {
			if name, _ := strconv.Unquote(i.Path.Value); !slices.Contains(allowed, name) {
				t.Errorf("%s calls %s", f.Name(), name)
			}
		}
	}
}
