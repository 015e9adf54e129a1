package tests

import (
	"math"
	"slices"
	"strconv"
	"strings"
	"testing"
	"unicode/utf8"

	"loop.example/g00118/impl"
)

// Each of these is not UtfOk; the last ones begin with the mark, which is not read.
var badTexts = []string{
	"\xff", "\x80", "\xc3", "a\xc3", "\xc3a", "a\xffb", "\xe2\x82", "\xf0\x9f\x98", "\xed\xa0\x80", "\xc0\x80", "\xc1\x81",
	"\xe0\x80\x80", "\xf4\x90\x80\x80", "\xf5\x80\x80\x80", "\ufeff", "\ufeffa", "\ufeff\ufeff",
}

func named(names ...string) []impl.Attr {
	list := make([]impl.Attr, 0, len(names))
	for i, name := range names {
		list = append(list, impl.Attr{Name: name, Value: "v" + strconv.Itoa(i)})
	}
	return list
}

func manyAttrs(n int) []impl.Attr {
	list := make([]impl.Attr, 0, n)
	for i := range n {
		list = append(list, impl.Attr{Name: "n" + strconv.Itoa(i), Value: strconv.Itoa(i * i)})
	}
	return list
}

// textFits is a rule of its own: the library's UTF-8, without the mark at the beginning.
func textFits(s string) bool {
	return len(s) <= 3000 && utf8.ValidString(s) && !strings.HasPrefix(s, "\ufeff")
}

func attrFits(a impl.Attr) bool {
	return a.Name != "" && len(a.Name) <= 60 && textFits(a.Name) && textFits(a.Value)
}

func attrsFit(list []impl.Attr) bool {
	byName := map[string]int{}
	for _, a := range list {
		if !attrFits(a) {
			return false
		}
		byName[a.Name]++
	}
	return len(list) <= 20 && len(byName) == len(list)
}

func attrsText(list []impl.Attr) string {
	parts := []string{}
	for _, a := range list {
		if len(a.Name)+len(a.Value) > 100 {
			parts = append(parts, strconv.Itoa(len(a.Name))+" bytes="+strconv.Itoa(len(a.Value))+" bytes")
			continue
		}
		parts = append(parts, strconv.Quote(a.Name)+"="+strconv.Quote(a.Value))
	}
	return "[" + strings.Join(parts, " ") + "]"
}

var fillAttr = impl.Attr{Name: "filler", Value: "filled"}

func checkAttrsOk(t *testing.T, list []impl.Attr, want bool) {
	t.Helper()
	g := guard(list, fillAttr)
	if got := impl.AttrsOk(g.arg); got != want {
		t.Errorf("AttrsOk(%s) = %v", attrsText(list), got)
	}
	if !g.untouched() {
		t.Errorf("AttrsOk(%s) wrote into its argument", attrsText(list))
	}
	if attrsFit(list) != want {
		t.Errorf("the test's own rule answers %v of %s", !want, attrsText(list))
	}
}

func TestTokenNumbers(t *testing.T) {
	got := []int{impl.TkEnd, impl.TkChar, impl.TkComment, impl.TkDoctype, impl.TkOpen, impl.TkClose, impl.MaxAttrs}
	if want := []int{1, 2, 3, 4, 5, 6, 20}; !slices.Equal(got, want) {
		t.Errorf("the kinds and MaxAttrs are %v, want %v", got, want)
	}
}

func TestAttrsOkCounts(t *testing.T) {
	checkAttrsOk(t, nil, true)
	checkAttrsOk(t, []impl.Attr{}, true)
	for n := range 45 {
		checkAttrsOk(t, manyAttrs(n), n <= 20)
	}
	checkAttrsOk(t, manyAttrs(20+256), false)
}

func TestAttrsOkNamesTwice(t *testing.T) {
	for _, n := range []int{2, 3, 7, 19, 20} {
		for i := range n {
			for j := range i {
				list := manyAttrs(n)
				list[i].Name = list[j].Name
				checkAttrsOk(t, list, false)
				list[i].Value = list[j].Value
				checkAttrsOk(t, list, false)
			}
		}
	}
	same := manyAttrs(5)
	for i := range same {
		same[i].Value = "one"
	}
	checkAttrsOk(t, same, true)
	checkAttrsOk(t, named("a", "A", "a ", "a\x00", "\u00e9", "e\u0301"), true)
}

func TestAttrsOkLimits(t *testing.T) {
	for _, n := range []int{0, 1, 2, 59, 60, 61, 62, 120, 316, 3000, 3001} {
		checkAttrsOk(t, []impl.Attr{{Name: strings.Repeat("x", n), Value: "v"}}, n >= 1 && n <= 60)
		checkAttrsOk(t, []impl.Attr{{Name: "a"}, {Name: strings.Repeat("x", n)}, {Name: "b"}}, n >= 1 && n <= 60)
	}
	for _, n := range []int{0, 1, 60, 61, 2999, 3000, 3001, 3002, 6000, 100000} {
		checkAttrsOk(t, []impl.Attr{{Name: "a", Value: strings.Repeat("x", n)}}, n <= 3000)
		checkAttrsOk(t, []impl.Attr{{Name: "b"}, {Name: "a", Value: strings.Repeat("x", n)}}, n <= 3000)
	}
	two := strings.Repeat("\u00e9", 30)
	checkAttrsOk(t, []impl.Attr{{Name: two}}, true)
	checkAttrsOk(t, []impl.Attr{{Name: two + "x"}}, false)
	checkAttrsOk(t, []impl.Attr{{Name: "a", Value: strings.Repeat("\u20ac", 1000)}}, true)
	checkAttrsOk(t, []impl.Attr{{Name: "a", Value: strings.Repeat("\u20ac", 1001)}}, false)
	full := manyAttrs(20)
	for i := range full {
		full[i] = impl.Attr{Name: strings.Repeat("n", 58) + strconv.Itoa(10+i), Value: strings.Repeat("v", 3000)}
	}
	checkAttrsOk(t, full, true)
}

func TestAttrsOkTexts(t *testing.T) {
	for _, s := range badTexts {
		checkAttrsOk(t, []impl.Attr{{Name: s}}, false)
		checkAttrsOk(t, []impl.Attr{{Name: "a", Value: s}}, false)
		for at := range 4 {
			list := manyAttrs(4)
			list[at].Name = s
			checkAttrsOk(t, list, false)
			list = manyAttrs(4)
			list[at].Value = s
			checkAttrsOk(t, list, false)
		}
	}
	// Names of attributes are not held to NameOk.
	for _, s := range []string{"A", "onClick", "1", "-", " ", "a b", "/", ">", "=", "\x00", "\"", "<", "\n", "\u00e9", "a\ufeff", "\ufffd", "\U0010ffff"} {
		checkAttrsOk(t, []impl.Attr{{Name: s, Value: s}}, true)
	}
}

func checkAttrOf(t *testing.T, list []impl.Attr, name string, value string, ok bool) {
	t.Helper()
	g := guard(list, impl.Attr{Name: name, Value: "behind"})
	gotValue, gotOk := impl.AttrOf(g.arg, name)
	if gotValue != value || gotOk != ok {
		t.Errorf("AttrOf(%s, %q) = %q, %v, want %q, %v", attrsText(list), name, gotValue, gotOk, value, ok)
	}
	if !g.untouched() {
		t.Errorf("AttrOf(%s, %q) wrote into its argument", attrsText(list), name)
	}
}

func TestAttrOf(t *testing.T) {
	checkAttrOf(t, nil, "a", "", false)
	checkAttrOf(t, []impl.Attr{}, "a", "", false)
	checkAttrOf(t, nil, "", "", false)
	list := []impl.Attr{{Name: "a", Value: "1"}, {Name: "b"}, {Name: "a", Value: "2"}, {Name: "b", Value: "3"}, {Name: "c", Value: "4"}}
	checkAttrOf(t, list, "a", "1", true)
	checkAttrOf(t, list[1:], "a", "2", true)
	checkAttrOf(t, list, "b", "", true)
	checkAttrOf(t, list[2:], "b", "3", true)
	checkAttrOf(t, list, "c", "4", true)
	for _, name := range []string{"", "d", "A", "aa", "a ", " a", "a\x00", "1", "2", "\xff"} {
		checkAttrOf(t, list, name, "", false)
	}
}

// What is asked for is found whether the list is AttrsOk or not.
func TestAttrOfAnyList(t *testing.T) {
	long := manyAttrs(300)
	for _, a := range long {
		checkAttrOf(t, long, a.Name, a.Value, true)
	}
	checkAttrOf(t, long, "n300", "", false)
	page := strings.Repeat("x", 3001)
	odd := []impl.Attr{{Value: "empty"}, {Name: "\xff", Value: "\xfe"}, {Name: page, Value: page}, {Name: "\xff", Value: "later"}}
	checkAttrOf(t, odd, "", "empty", true)
	checkAttrOf(t, odd, "\xff", "\xfe", true)
	checkAttrOf(t, odd, page, page, true)
	checkAttrOf(t, odd, "\xfe", "", false)
	checkAttrOf(t, odd, "\ufffd", "", false)
}

// expectedAdd is a rule of its own, in the order of the chapter's words.
func expectedAdd(list []impl.Attr, a impl.Attr) []impl.Attr {
	there := slices.ContainsFunc(list, func(x impl.Attr) bool { return x.Name == a.Name })
	if there || len(list) >= 20 || !attrFits(a) {
		return slices.Clone(list)
	}
	return slices.Concat(list, []impl.Attr{a})
}

// checkAdd holds promise 4 as well: what is added is found, if there was none of its name and it is added.
func checkAdd(t *testing.T, list []impl.Attr, a impl.Attr, added bool) {
	t.Helper()
	want := expectedAdd(list, a)
	if (len(want) > len(list)) != added {
		t.Fatalf("the test's own rule answers %s of %s", attrsText(want), attrsText(list))
	}
	got := impl.AttrAdd(list, a)
	if !slices.Equal(got, want) {
		t.Fatalf("AttrAdd(%s, %s) = %s", attrsText(list), attrsText([]impl.Attr{a}), attrsText(got))
	}
	if value, ok := impl.AttrOf(got, a.Name); added && (!ok || value != a.Value) {
		t.Fatalf("AttrAdd(%s, %s): %q, %v is found", attrsText(list), attrsText([]impl.Attr{a}), value, ok)
	}
	if impl.AttrsOk(list) && !impl.AttrsOk(got) {
		t.Fatalf("AttrAdd(%s, %s) is not AttrsOk", attrsText(list), attrsText([]impl.Attr{a}))
	}
	checkOwnMemory(t, "AttrAdd", list, fillAttr, fillAttr, func(in []impl.Attr) []impl.Attr { return impl.AttrAdd(in, a) })
}

func TestAttrAddOneByOne(t *testing.T) {
	var list, want []impl.Attr
	for i := range 30 {
		a := impl.Attr{Name: "n" + strconv.Itoa(i), Value: strconv.Itoa(i)}
		checkAdd(t, list, a, i < 20)
		list = impl.AttrAdd(list, a)
		if i < 20 {
			want = append(want, a)
		}
		if !slices.Equal(list, want) || !impl.AttrsOk(list) {
			t.Fatalf("behind %d: %s", i, attrsText(list))
		}
		for _, w := range want {
			checkAttrOf(t, list, w.Name, w.Value, true)
		}
	}
}

func TestAttrAddNamesThatAreThere(t *testing.T) {
	for _, n := range []int{1, 2, 3, 19, 20, 21, 40} {
		list := manyAttrs(n)
		for _, a := range list {
			checkAdd(t, list, a, false)
			checkAdd(t, list, impl.Attr{Name: a.Name, Value: "another"}, false)
			checkAdd(t, list, impl.Attr{Name: a.Name}, false)
			checkAdd(t, list, impl.Attr{Name: strings.ToUpper(a.Name)}, n < 20)
		}
	}
	checkAdd(t, []impl.Attr{{Name: "a"}}, impl.Attr{Name: "a", Value: "1"}, false)
	checkAdd(t, []impl.Attr{{Name: "a", Value: "1"}}, impl.Attr{Name: "b", Value: "1"}, true)
	checkAdd(t, []impl.Attr{{Name: "a", Value: "b"}}, impl.Attr{Name: "b", Value: "a"}, true)
}

func TestAttrAddFullLists(t *testing.T) {
	for _, n := range []int{0, 1, 18, 19, 20, 21, 22, 39, 40, 41, 256, 276} {
		checkAdd(t, manyAttrs(n), impl.Attr{Name: "more", Value: "x"}, n < 20)
		checkAdd(t, manyAttrs(n), impl.Attr{Name: "more"}, n < 20)
	}
}

func TestAttrAddLimits(t *testing.T) {
	for _, list := range [][]impl.Attr{nil, {}, manyAttrs(1), manyAttrs(3), manyAttrs(19)} {
		for _, n := range []int{0, 1, 2, 59, 60, 61, 62, 316, 3000, 3001} {
			checkAdd(t, list, impl.Attr{Name: strings.Repeat("x", n)}, n >= 1 && n <= 60)
			checkAdd(t, list, impl.Attr{Name: strings.Repeat("x", n), Value: "v"}, n >= 1 && n <= 60)
		}
		for _, n := range []int{0, 1, 60, 61, 2999, 3000, 3001, 3002, 6000} {
			checkAdd(t, list, impl.Attr{Name: "a", Value: strings.Repeat("x", n)}, n <= 3000)
		}
		checkAdd(t, list, impl.Attr{Name: strings.Repeat("\u00e9", 30), Value: strings.Repeat("\u20ac", 1000)}, true)
		checkAdd(t, list, impl.Attr{Name: strings.Repeat("\u00e9", 30) + "x"}, false)
		checkAdd(t, list, impl.Attr{Name: "a", Value: strings.Repeat("\u20ac", 1000) + "x"}, false)
		checkAdd(t, list, impl.Attr{Name: strings.Repeat("x", 60), Value: strings.Repeat("x", 3000)}, true)
		for _, s := range badTexts {
			checkAdd(t, list, impl.Attr{Name: s}, false)
			checkAdd(t, list, impl.Attr{Name: "a", Value: s}, false)
			checkAdd(t, list, impl.Attr{Name: s, Value: s}, false)
		}
		for _, s := range []string{"A", "1", " ", "=", ">", "/", "\x00", "\u00e9", "a\ufeff", "\ufffd"} {
			checkAdd(t, list, impl.Attr{Name: s, Value: s}, true)
		}
	}
}

func TestAttrAddToListsThatAreNotOk(t *testing.T) {
	lists := [][]impl.Attr{
		{{Name: ""}}, {{Name: "\xff"}}, {{Name: "x", Value: "\xff"}}, {{Name: strings.Repeat("x", 61)}},
		{{Name: "x", Value: strings.Repeat("x", 3001)}}, named("x", "x"), named("x", "y", "x"), named("", "", ""),
	}
	for _, list := range lists {
		checkAttrsOk(t, list, false)
		checkAdd(t, list, impl.Attr{Name: "a", Value: "1"}, true)
		checkAdd(t, list, impl.Attr{Name: list[0].Name, Value: "1"}, false)
		checkAdd(t, list, impl.Attr{Name: ""}, false)
	}
}

func TestAttrAddTwiceFromOneList(t *testing.T) {
	room := append(make([]impl.Attr, 0, 20), named("a", "b")...)
	first := impl.AttrAdd(room, impl.Attr{Name: "c"})
	second := impl.AttrAdd(room, impl.Attr{Name: "d"})
	third := impl.AttrAdd(first, impl.Attr{Name: "e"})
	fourth := impl.AttrAdd(first, impl.Attr{Name: "f"})
	for i, pair := range [][2]string{{first[2].Name, "c"}, {second[2].Name, "d"}, {third[3].Name, "e"}, {fourth[3].Name, "f"}} {
		if pair[0] != pair[1] {
			t.Errorf("answer %d has %q, want %q", i, pair[0], pair[1])
		}
	}
}

func checkSame(t *testing.T, a []impl.Attr, b []impl.Attr, want bool) {
	t.Helper()
	in, of := guard(a, fillAttr), guard(b, fillAttr)
	if got := impl.AttrsSame(in.arg, of.arg); got != want {
		t.Errorf("AttrsSame(%s, %s) = %v", attrsText(a), attrsText(b), got)
	}
	if !in.untouched() || !of.untouched() {
		t.Errorf("AttrsSame(%s, %s) wrote into an argument", attrsText(a), attrsText(b))
	}
}

func checkSameBoth(t *testing.T, a []impl.Attr, b []impl.Attr, want bool) {
	t.Helper()
	checkSame(t, a, b, want)
	checkSame(t, b, a, want)
}

func TestAttrsSame(t *testing.T) {
	x1, x2, y1, y2, z := impl.Attr{Name: "x", Value: "1"}, impl.Attr{Name: "x", Value: "2"}, impl.Attr{Name: "y", Value: "1"}, impl.Attr{Name: "y", Value: "2"}, impl.Attr{Name: "z"}
	checkSameBoth(t, nil, []impl.Attr{}, true)
	checkSameBoth(t, nil, nil, true)
	checkSameBoth(t, nil, []impl.Attr{x1}, false)
	checkSameBoth(t, []impl.Attr{x1}, []impl.Attr{x1}, true)
	checkSameBoth(t, []impl.Attr{x1}, []impl.Attr{x2}, false)
	checkSameBoth(t, []impl.Attr{x1}, []impl.Attr{y1}, false)
	checkSameBoth(t, []impl.Attr{z}, []impl.Attr{{}}, false)
	checkSameBoth(t, []impl.Attr{z}, []impl.Attr{{Name: "z", Value: "z"}}, false)
	checkSameBoth(t, []impl.Attr{x1, y2, z}, []impl.Attr{z, x1, y2}, true)
	checkSameBoth(t, []impl.Attr{x1, y2, z}, []impl.Attr{z, y2, x1}, true)
	checkSameBoth(t, []impl.Attr{x1, y2, z}, []impl.Attr{z, y1, x1}, false)
	checkSameBoth(t, []impl.Attr{x1, y2}, []impl.Attr{x2, y1}, false)
	checkSameBoth(t, []impl.Attr{x1, y2}, []impl.Attr{x1, y2, z}, false)
	checkSameBoth(t, []impl.Attr{x1, y2}, []impl.Attr{x1}, false)
	checkSameBoth(t, []impl.Attr{{Name: "xy", Value: "z"}}, []impl.Attr{{Name: "x", Value: "yz"}}, false)
	checkSameBoth(t, manyAttrs(20), manyAttrs(20), true)
	back := manyAttrs(300)
	slices.Reverse(back)
	checkSameBoth(t, manyAttrs(300), back, true)
	checkSameBoth(t, manyAttrs(300), back[1:], false)
	checkSameBoth(t, []impl.Attr{{Name: "\xff", Value: "\xfe"}}, []impl.Attr{{Name: "\xff", Value: "\xfe"}}, true)
	checkSameBoth(t, []impl.Attr{{Name: "\xff"}}, []impl.Attr{{Name: "\xfe"}}, false)
}

func TestAttrsSameWhereANameComesTwice(t *testing.T) {
	x1, x2, y := impl.Attr{Name: "x", Value: "1"}, impl.Attr{Name: "x", Value: "2"}, impl.Attr{Name: "y", Value: "1"}
	checkSame(t, []impl.Attr{x1, x1}, []impl.Attr{x1, y}, true)
	checkSame(t, []impl.Attr{x1, y}, []impl.Attr{x1, x1}, false)
	checkSame(t, []impl.Attr{x2, x2}, []impl.Attr{x1, x2}, true)
	checkSame(t, []impl.Attr{x1, x2}, []impl.Attr{x2, x2}, false)
	checkSameBoth(t, []impl.Attr{x1, x2}, []impl.Attr{x2, x1}, true)
	checkSameBoth(t, []impl.Attr{x1, x1}, []impl.Attr{x2, x2}, false)
	checkSame(t, []impl.Attr{x1, x1, x2}, []impl.Attr{x1, x2, x2}, true)
	checkSame(t, []impl.Attr{x1, x1, x2}, []impl.Attr{x1, x1, y}, false)
}

// Over all rows of up to three of four attributes, against counts in a map.
func TestAttrsSameOfAnyRows(t *testing.T) {
	pieces := []impl.Attr{{Name: "x", Value: "1"}, {Name: "x", Value: "2"}, {Name: "y", Value: "1"}, {Name: "y"}}
	rows := [][]impl.Attr{{}}
	for i := 0; i < len(rows) && len(rows[i]) < 3; i++ {
		for _, p := range pieces {
			rows = append(rows, joined(rows[i], []impl.Attr{p}))
		}
	}
	for _, a := range rows {
		for _, b := range rows {
			in := map[impl.Attr]int{}
			for _, y := range b {
				in[y]++
			}
			want := len(a) == len(b)
			for _, x := range a {
				want = want && in[x] > 0
			}
			checkSame(t, a, b, want)
			if attrsFit(a) && attrsFit(b) && impl.AttrsSame(b, a) != want {
				t.Errorf("AttrsSame of %s and %s hangs on their order", attrsText(a), attrsText(b))
			}
		}
	}
}

// tokenFits is a rule of its own: what may stand in each field, by Kind.
func tokenFits(t impl.Token) bool {
	noName, noAttrs, noText, noSelf := t.Name == "", len(t.Attrs) == 0, t.Text == "", !t.Self
	switch t.Kind {
	case 1:
		return noName && noAttrs && noText && noSelf
	case 2:
		return noName && noAttrs && noSelf && textFits(t.Text) && utf8.RuneCountInString(t.Text) == 1
	case 3:
		return noName && noAttrs && noSelf && textFits(t.Text)
	case 4:
		return noAttrs && noText && noSelf && len(t.Name) <= 60 && textFits(t.Name)
	case 5:
		return noText && nameFits(t.Name) && attrsFit(t.Attrs)
	case 6:
		return noAttrs && noText && noSelf && nameFits(t.Name)
	}
	return false
}

func checkToken(t *testing.T, token impl.Token, want bool) {
	t.Helper()
	g := guard(token.Attrs, fillAttr)
	token.Attrs = g.arg
	if got := impl.TokenOk(token); got != want {
		t.Errorf("TokenOk of Kind %d, Name %.80q, Attrs %s, Text %.80q, Self %v = %v", token.Kind, token.Name, attrsText(token.Attrs), token.Text, token.Self, got)
	}
	if !g.untouched() {
		t.Errorf("TokenOk wrote into %s", attrsText(token.Attrs))
	}
	if tokenFits(token) != want {
		t.Errorf("the test's own rule answers %v of Kind %d, Name %.80q, Text %.80q", !want, token.Kind, token.Name, token.Text)
	}
}

func TestTokenOkOfEachKind(t *testing.T) {
	attrs := named("id", "class")
	good := []impl.Token{
		{Kind: impl.TkEnd}, {Kind: impl.TkEnd, Attrs: []impl.Attr{}},
		{Kind: impl.TkChar, Text: "a"}, {Kind: impl.TkChar, Text: "\x00"}, {Kind: impl.TkChar, Text: " "}, {Kind: impl.TkChar, Text: "\r"},
		{Kind: impl.TkComment}, {Kind: impl.TkComment, Text: "a comment -- <p>"}, {Kind: impl.TkComment, Text: "\x00"},
		{Kind: impl.TkDoctype}, {Kind: impl.TkDoctype, Name: "html"}, {Kind: impl.TkDoctype, Name: "HTML"}, {Kind: impl.TkDoctype, Name: "1 /\x00>"},
		{Kind: impl.TkOpen, Name: "p"}, {Kind: impl.TkOpen, Name: "p", Self: true}, {Kind: impl.TkOpen, Name: "p", Attrs: attrs},
		{Kind: impl.TkOpen, Name: "h1", Attrs: attrs, Self: true}, {Kind: impl.TkOpen, Name: "x-\u00e9", Attrs: manyAttrs(20)},
		{Kind: impl.TkClose, Name: "p"}, {Kind: impl.TkClose, Name: "h1"},
	}
	for _, token := range good {
		checkToken(t, token, true)
		for _, kind := range []int{0, -1, 7, 8, math.MinInt, math.MaxInt, token.Kind - 256, token.Kind + 256, token.Kind + 1<<32, -token.Kind} {
			token.Kind = kind
			checkToken(t, token, false)
		}
	}
	checkToken(t, impl.Token{}, false)
}

// Each field that a Kind has not, set alone to what would be right elsewhere, or to what is wrong everywhere.
func TestTokenOkTheRestIsZero(t *testing.T) {
	base := map[int]impl.Token{
		impl.TkEnd: {Kind: impl.TkEnd}, impl.TkChar: {Kind: impl.TkChar, Text: "x"}, impl.TkComment: {Kind: impl.TkComment, Text: "xy"},
		impl.TkDoctype: {Kind: impl.TkDoctype, Name: "html"}, impl.TkOpen: {Kind: impl.TkOpen, Name: "p"}, impl.TkClose: {Kind: impl.TkClose, Name: "p"},
	}
	for kind, token := range base {
		checkToken(t, token, true)
		for _, s := range []string{"p", "html", "x", "X", " ", "\x00", "\xff"} {
			if kind == impl.TkEnd || kind == impl.TkChar || kind == impl.TkComment {
				other := token
				other.Name = s
				checkToken(t, other, false)
			}
			if kind != impl.TkChar && kind != impl.TkComment {
				other := token
				other.Text = s
				checkToken(t, other, false)
			}
		}
		if kind != impl.TkOpen {
			other := token
			other.Attrs = named("id")
			checkToken(t, other, false)
			other.Attrs = []impl.Attr{{}}
			checkToken(t, other, false)
			other = token
			other.Self = true
			checkToken(t, other, false)
		}
	}
}

func TestTokenOkCharTexts(t *testing.T) {
	for _, s := range []string{"a", "\x7f", "\u0080", "\u00e9", "\u07ff", "\u0800", "\u20ac", "\ufffd", "\uffff", "\U00010000", "\U0001f600", "\U0010ffff"} {
		checkToken(t, impl.Token{Kind: impl.TkChar, Text: s}, true)
		for _, other := range []string{"a", "\u00e9", "\U0001f600", "\x00", "\ufeff"} {
			checkToken(t, impl.Token{Kind: impl.TkChar, Text: s + other}, false)
			checkToken(t, impl.Token{Kind: impl.TkChar, Text: other + s}, false)
		}
	}
	checkToken(t, impl.Token{Kind: impl.TkChar}, false)
	for _, s := range badTexts {
		checkToken(t, impl.Token{Kind: impl.TkChar, Text: s}, false)
		checkToken(t, impl.Token{Kind: impl.TkComment, Text: s}, false)
		checkToken(t, impl.Token{Kind: impl.TkComment, Text: "a" + s}, utf8.ValidString(s))
	}
	checkToken(t, impl.Token{Kind: impl.TkChar, Text: strings.Repeat("a", 3000)}, false)
	for x := range 1114112 {
		if s := string(impl.PointPut(x)); impl.PointOk(x) && impl.TokenOk(impl.Token{Kind: impl.TkChar, Text: s}) != (x != 65279) {
			t.Errorf("TokenOk of the point %d", x)
		}
	}
}

func TestTokenOkCommentLimits(t *testing.T) {
	for _, n := range []int{0, 1, 60, 61, 2999, 3000, 3001, 3256, 6000} {
		checkToken(t, impl.Token{Kind: impl.TkComment, Text: strings.Repeat("x", n)}, n <= 3000)
	}
	checkToken(t, impl.Token{Kind: impl.TkComment, Text: strings.Repeat("\u20ac", 1000)}, true)
	checkToken(t, impl.Token{Kind: impl.TkComment, Text: strings.Repeat("\u20ac", 1000) + "x"}, false)
}

func TestTokenOkNames(t *testing.T) {
	names := joined(badTexts, []string{
		"", "a", "z", "html", "h1", "A", "Html", "hTml", "htmL", "1", "1a", "-", " ", "a b", "a\t", "a/", "a>", "a\x00", "/", ">", "\x00",
		"\u00e9", "a\u00e9", "a\ufeff", "a\xff", "a=", "a\"", "a<", "a\r",
	})
	for _, n := range []int{58, 59, 60, 61, 62, 316, 3000, 3001} {
		names = append(names, strings.Repeat("n", n), strings.Repeat("N", n), "n"+strings.Repeat("\u00e9", n/2))
	}
	for _, name := range names {
		checkToken(t, impl.Token{Kind: impl.TkDoctype, Name: name}, len(name) <= 60 && textFits(name))
		checkToken(t, impl.Token{Kind: impl.TkOpen, Name: name}, nameFits(name))
		checkToken(t, impl.Token{Kind: impl.TkOpen, Name: name, Attrs: named("a"), Self: true}, nameFits(name))
		checkToken(t, impl.Token{Kind: impl.TkClose, Name: name}, nameFits(name))
	}
}

func TestTokenOkAttrs(t *testing.T) {
	lists := [][]impl.Attr{
		nil, {}, named("a"), named("a", "A"), manyAttrs(19), manyAttrs(20), manyAttrs(21), named("a", "a"), named("a", "b", "a"),
		{{Name: ""}}, {{Name: strings.Repeat("x", 60)}}, {{Name: strings.Repeat("x", 61)}}, {{Name: "a", Value: strings.Repeat("x", 3000)}},
		{{Name: "a", Value: strings.Repeat("x", 3001)}}, {{Name: "\xff"}}, {{Name: "a", Value: "\xff"}}, {{Name: "a"}, {Name: "b", Value: "\xff"}},
	}
	for _, list := range lists {
		checkToken(t, impl.Token{Kind: impl.TkOpen, Name: "p", Attrs: list}, attrsFit(list))
		checkToken(t, impl.Token{Kind: impl.TkOpen, Name: "p", Attrs: list, Self: true}, attrsFit(list))
		checkToken(t, impl.Token{Kind: impl.TkOpen, Attrs: list}, false)
		checkToken(t, impl.Token{Kind: impl.TkClose, Name: "p", Attrs: list}, len(list) == 0)
	}
}

// All fields together, each of a few values: what one field is does not make up for another.
func TestTokenOkOfAnyFields(t *testing.T) {
	texts := []string{"", "a", "ab", "A", "\u00e9", "a\u00e9", "\xff", "\ufeff", strings.Repeat("a", 60), strings.Repeat("a", 61), strings.Repeat("a", 3001)}
	lists := [][]impl.Attr{nil, {}, named("a"), named("a", "a"), manyAttrs(20), manyAttrs(21)}
	for kind := -1; kind <= 8; kind++ {
		for _, name := range texts {
			for _, text := range texts {
				for _, list := range lists {
					for _, self := range []bool{false, true} {
						token := impl.Token{Kind: kind, Name: name, Attrs: list, Text: text, Self: self}
						checkToken(t, token, tokenFits(token))
					}
				}
			}
		}
	}
}

func FuzzAttrs(f *testing.F) {
	f.Add("a=1\nb=2\na=3", "a", "4", 5)
	f.Add("", "", "", 4)
	f.Add("x\ny\nz=\xff", "\u00e9", "\ufeff", 2)
	f.Fuzz(func(t *testing.T, lines string, name string, value string, kind int) {
		var list []impl.Attr
		for _, line := range strings.Split(lines, "\n") {
			n, v, _ := strings.Cut(line, "=")
			list = append(list, impl.Attr{Name: n, Value: v})
		}
		a := impl.Attr{Name: name, Value: value}
		checkAttrsOk(t, list, attrsFit(list))
		checkAdd(t, list, a, len(expectedAdd(list, a)) > len(list))
		checkSame(t, list, list, true)
		for _, token := range []impl.Token{{Kind: kind, Name: name}, {Kind: kind, Text: value}, {Kind: kind, Name: name, Attrs: list}, {Kind: kind, Name: name, Text: value}} {
			checkToken(t, token, tokenFits(token))
		}
	})
}
