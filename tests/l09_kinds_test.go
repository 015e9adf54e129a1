package tests

import (
	"math/rand"
	"slices"
	"strings"
	"sync"
	"testing"

	"loop.example/g00118/impl"
)

const (
	formatList  = "a, b, big, code, em, font, i, nobr, s, small, strike, strong, tt, u"
	blockList   = "address, article, aside, blockquote, center, details, dialog, dir, div, dl, fieldset, figcaption, figure, footer, header, hgroup, main, menu, nav, ol, p, search, section, summary, ul"
	headingList = "h1, h2, h3, h4, h5, h6"
	headList    = "base, link, meta, noframes, script, style, title"
	specialList = "applet, area, body, br, button, dd, dt, embed, head, hr, html, iframe, img, input, li, listing, marquee, noembed, object, param, plaintext, pre, source, table, td, textarea, th, tr, track, wbr, xmp"
	impliedList = "dd, dt, li, optgroup, option, p"
	boundList   = "applet, html, marquee, object, table, td, th"
)

// listed looks for the name in a row of names without taking the row apart.
func listed(list string, name string) bool {
	return !strings.Contains(name, ",") && !strings.Contains(name, " ") && strings.Contains(", "+list+",", ", "+name+",")
}

func expectedSpecial(name string) bool {
	switch name {
	case "dialog", "search":
		return false
	}
	return listed(blockList, name) || listed(headingList, name) || listed(headList, name) || listed(specialList, name)
}

type askedKind struct {
	what string
	is   func(string) bool
	want func(string) bool
}

func askedKinds() []askedKind {
	in := func(list string) func(string) bool {
		return func(name string) bool { return listed(list, name) }
	}
	return []askedKind{
		{"IsFormat", impl.IsFormat, in(formatList)},
		{"IsBlock", impl.IsBlock, in(blockList)},
		{"IsHeading", impl.IsHeading, in(headingList)},
		{"IsHead", impl.IsHead, in(headList)},
		{"IsSpecial", impl.IsSpecial, expectedSpecial},
		{"IsImplied", impl.IsImplied, in(impliedList)},
		{"IsBound", impl.IsBound, in(boundList)},
	}
}

func checkKinds(t *testing.T, name string) {
	t.Helper()
	for _, k := range askedKinds() {
		if got := k.is(name); got != k.want(name) {
			t.Errorf("%s(%s) = %v", k.what, short(name), got)
		}
	}
}

func checkOfNoKind(t *testing.T, name string) {
	t.Helper()
	for _, k := range askedKinds() {
		if k.is(name) {
			t.Errorf("%s(%s) = true", k.what, short(name))
		}
	}
}

func kindNames() []string {
	all := strings.Split(strings.Join([]string{formatList, blockList, headingList, headList, specialList, impliedList, boundList}, ", "), ", ")
	slices.Sort(all)
	return slices.Compact(all)
}

// The lists that the tests go by have as many names as the document tells.
func TestKindListsAreWhole(t *testing.T) {
	for list, want := range map[string]int{formatList: 14, blockList: 25, headingList: 6, headList: 7, specialList: 31, impliedList: 6, boundList: 7} {
		if names := strings.Split(list, ", "); len(names) != want || !slices.IsSorted(names) {
			t.Errorf("%d names, or not in order: %s", len(names), list)
		}
	}
	counts := map[string]int{}
	for _, name := range kindNames() {
		for _, k := range askedKinds() {
			if k.is(name) {
				counts[k.what]++
			}
		}
	}
	for what, want := range map[string]int{"IsFormat": 14, "IsBlock": 25, "IsHeading": 6, "IsHead": 7, "IsSpecial": 67, "IsImplied": 6, "IsBound": 7} {
		if counts[what] != want {
			t.Errorf("%s holds of %d names, want %d", what, counts[what], want)
		}
	}
}

func TestEachNameOfEachKind(t *testing.T) {
	lists := []string{formatList, blockList, headingList, headList}
	for i, list := range lists {
		for _, name := range strings.Split(list, ", ") {
			for j, k := range askedKinds()[:4] {
				checkKind(t, k.what, k.is, name, i == j)
			}
		}
	}
	for _, name := range strings.Split(impliedList, ", ") {
		checkKind(t, "IsImplied", impl.IsImplied, name, true)
	}
	for _, name := range strings.Split(boundList, ", ") {
		checkKind(t, "IsBound", impl.IsBound, name, true)
	}
	for _, name := range kindNames() {
		checkKinds(t, name)
	}
}

func TestKindsAsTold(t *testing.T) {
	told := map[string]string{
		"p": "IsBlock IsSpecial IsImplied", "dd": "IsSpecial IsImplied", "dt": "IsSpecial IsImplied", "li": "IsSpecial IsImplied",
		"optgroup": "IsImplied", "option": "IsImplied", "dialog": "IsBlock", "search": "IsBlock", "dl": "IsBlock IsSpecial",
		"dir": "IsBlock IsSpecial", "ol": "IsBlock IsSpecial", "ul": "IsBlock IsSpecial", "header": "IsBlock IsSpecial",
		"h1": "IsHeading IsSpecial", "h6": "IsHeading IsSpecial", "title": "IsHead IsSpecial", "link": "IsHead IsSpecial",
		"noframes": "IsHead IsSpecial", "noembed": "IsSpecial", "head": "IsSpecial", "body": "IsSpecial", "html": "IsSpecial IsBound",
		"table": "IsSpecial IsBound", "td": "IsSpecial IsBound", "th": "IsSpecial IsBound", "object": "IsSpecial IsBound",
		"applet": "IsSpecial IsBound", "marquee": "IsSpecial IsBound", "tr": "IsSpecial", "button": "IsSpecial", "pre": "IsSpecial",
		"a": "IsFormat", "b": "IsFormat", "i": "IsFormat", "s": "IsFormat", "u": "IsFormat", "tt": "IsFormat", "nobr": "IsFormat",
		"span": "", "tbody": "", "thead": "", "tfoot": "", "select": "", "form": "", "caption": "", "template": "", "noscript": "",
	}
	for name, kinds := range told {
		for _, k := range askedKinds() {
			checkKind(t, k.what, k.is, name, slices.Contains(strings.Fields(kinds), k.what))
		}
	}
}

func TestSpecialButDialogAndSearch(t *testing.T) {
	for _, list := range []string{blockList, headingList, headList, specialList} {
		for _, name := range strings.Split(list, ", ") {
			checkKind(t, "IsSpecial", impl.IsSpecial, name, name != "dialog" && name != "search")
		}
	}
	for _, name := range strings.Split(formatList, ", ") {
		checkKind(t, "IsSpecial", impl.IsSpecial, name, false)
	}
	for _, name := range []string{"dialog", "search", "option", "optgroup", "dialo", "searc", "dialogs", "Search"} {
		checkKind(t, "IsSpecial", impl.IsSpecial, name, false)
	}
}

// All that is a bound, and all that is implied but the options, is special too.
func TestKindsWithinKinds(t *testing.T) {
	for _, name := range kindNames() {
		if impl.IsBound(name) && !impl.IsSpecial(name) {
			t.Errorf("%s is a bound, but not special", name)
		}
		if impl.IsImplied(name) && !impl.IsSpecial(name) && name != "option" && name != "optgroup" {
			t.Errorf("%s is implied, but not special", name)
		}
		if impl.IsFormat(name) && impl.IsSpecial(name) {
			t.Errorf("%s formats and is special", name)
		}
	}
}

func TestKindsOfNamesNearToOthers(t *testing.T) {
	near := []string{
		"h", "h0", "h1", "h6", "h7", "h9", "h10", "h11", "h16", "h61", "h01", "h-1", "h+1", "h1.0", "1h", "hh1", "H1", "h\u0661", "h\u00b9",
		"th", "thead", "tf", "tfoot", "td", "tbody", "tb", "tr", "track", "tt", "t", "table", "tables", "tabl",
		"li", "link", "lis", "list", "listing", "lin", "l", "dd", "dl", "dt", "dir", "div", "d", "di", "details", "detail", "dialog",
		"p", "pre", "param", "params", "pr", "plaintext", "picture", "progress", "s", "small", "samp", "span", "strike", "strong", "sub", "sup",
		"a", "b", "abbr", "acronym", "area", "base", "basefont", "bdi", "bdo", "bgsound", "big", "br", "body", "button",
		"i", "img", "image", "in", "input", "ins", "iframe", "isindex", "head", "header", "heading", "hea", "hr", "html", "htm", "hgroup",
		"ol", "option", "options", "optgroup", "opt", "object", "output", "o", "ul", "u", "ull", "nav", "nobr", "noframes", "noframe",
		"noscript", "noembed", "no", "frame", "frameset", "form", "font", "fieldset", "figure", "figcaption", "fig", "footer", "foot",
		"main", "mai", "map", "mark", "marquee", "math", "menu", "menuitem", "meta", "meter", "search", "section", "select", "source", "script",
		"style", "summary", "svg", "template", "textarea", "text", "time", "title", "titles", "var", "video", "audio", "wbr", "xmp", "xml",
		"keygen", "label", "legend", "center", "cente", "centre", "cite", "code", "col", "colgroup", "command", "caption", "canvas", "em", "embed", "e",
		"article", "articles", "aside", "asid", "address", "addres", "applet", "apple", "blockquote", "block", "blink",
	}
	for _, name := range append(kindNames(), near...) {
		checkKinds(t, name)
		for _, other := range nearNames(name) {
			checkKinds(t, other)
		}
	}
}

// One byte more, less or else makes it another name, whatever byte it is.
func TestKindsOfEachByteAtEachPlace(t *testing.T) {
	bytes := []byte{0, 9, 10, 13, 32, '-', '/', '0', '1', '6', '7', '<', '>', 'A', 'H', 'Z', '_', 'a', 'b', 'd', 'e', 'h', 'l', 'o', 'p', 'r', 's', 't', 'z', 127, 128, 0xc3, 255}
	for _, name := range kindNames() {
		for at := range len(name) {
			checkKinds(t, name[:at]+name[at+1:])
			for _, x := range bytes {
				checkKinds(t, name[:at]+string([]byte{x})+name[at+1:])
				checkKinds(t, name[:at]+string([]byte{x})+name[at:])
			}
		}
		for x := range 256 {
			checkKinds(t, string([]byte{byte(x)})+name)
			checkKinds(t, name+string([]byte{byte(x)}))
		}
	}
}

func TestKindsKnowNoGreatLetters(t *testing.T) {
	for _, name := range kindNames() {
		checkOfNoKind(t, strings.ToUpper(name))
		for at := range len(name) {
			if name[at] >= 'a' {
				checkOfNoKind(t, name[:at]+strings.ToUpper(name[at:at+1])+name[at+1:])
			}
		}
		for _, blank := range []string{" ", "\t", "\n", "\f", "\r", "\x00", hardBlank, "\ufeff"} {
			checkOfNoKind(t, blank+name)
			checkOfNoKind(t, name+blank)
			checkOfNoKind(t, blank+name+blank)
		}
	}
	for _, name := range []string{"\u017f", "\u017fmall", "\u212aey", "d\u0131v", "\u0131", "\uff41", "\uff50", "\u0430", "\u0440", "h\uff11"} {
		checkOfNoKind(t, name) // points that are lowered, folded or look like a letter
	}
}

func TestKindsOfShortNames(t *testing.T) {
	allShortNames(3, func(name string) {
		checkKinds(t, name)
	})
	letters := strings.Split("h0123456789", "")
	eachRow(letters, 3, func(name string) {
		checkKinds(t, name)
	})
}

func TestKindsOfEachByteAndEachTwo(t *testing.T) {
	for first := range 256 {
		checkKinds(t, string([]byte{byte(first)}))
		for second := range 256 {
			checkKinds(t, string([]byte{byte(first), byte(second)}))
		}
	}
}

func TestKindsOfTwoNames(t *testing.T) {
	names := kindNames()
	for _, x := range names {
		for _, y := range names {
			checkKinds(t, x+y)
		}
		checkOfNoKind(t, x+" "+x)
		checkOfNoKind(t, x+", "+x)
		checkOfNoKind(t, x+",")
		checkOfNoKind(t, ","+x)
	}
}

func TestKindsOfWrongTexts(t *testing.T) {
	checkOfNoKind(t, "")
	for _, s := range append([]string{" ", ",", ", ", "\x00", "\n"}, badTexts...) {
		checkOfNoKind(t, s)
		for _, name := range kindNames() {
			checkOfNoKind(t, s+name)
			checkOfNoKind(t, name+s)
		}
	}
	for _, list := range []string{formatList, blockList, headingList, headList, specialList, impliedList, boundList} {
		checkOfNoKind(t, list)
		checkOfNoKind(t, strings.ReplaceAll(list, ", ", ""))
	}
	for _, piece := range []string{"a", "p", "h1", "table", "\x00", "\xff", "\u20ac"} {
		for _, n := range []int{impl.MaxName, impl.MaxName + 1, 1000, 100000} {
			checkOfNoKind(t, strings.Repeat(piece, n))
			checkOfNoKind(t, "p"+strings.Repeat(piece, n))
			checkOfNoKind(t, strings.Repeat(piece, n)+"p")
		}
	}
}

// A name that stands within a longer text is the same name.
func TestKindsOfNamesWithinATextOrMadeAnew(t *testing.T) {
	for _, name := range kindNames() {
		within := "<" + name + ">" + name
		checkKinds(t, within[1:1+len(name)])
		checkKinds(t, within[len(name)+2:])
		checkKinds(t, string([]byte(name)))
	}
}

func TestKindsAskedAgainInAnyOrder(t *testing.T) {
	type question struct {
		kind askedKind
		name string
	}
	var questions []question
	for _, name := range append(kindNames(), "", "span", "h7", "P", "dialog ", "\xff") {
		for _, k := range askedKinds() {
			questions = append(questions, question{k, name})
		}
	}
	order := rand.New(rand.NewSource(9))
	for range 20 {
		order.Shuffle(len(questions), func(i int, j int) { questions[i], questions[j] = questions[j], questions[i] })
		for _, q := range questions {
			for range 2 {
				checkKind(t, q.kind.what, q.kind.is, q.name, q.kind.want(q.name))
			}
		}
	}
}

func TestKindsAskedByManyAtOnce(t *testing.T) {
	var all sync.WaitGroup
	for range 8 {
		all.Go(func() {
			for _, name := range append(kindNames(), "", "span", "h7", "P") {
				checkKinds(t, name)
			}
		})
	}
	all.Wait()
}

func FuzzElementKinds(f *testing.F) {
	for _, name := range append(kindNames(), badTexts...) {
		f.Add(name)
	}
	f.Fuzz(func(t *testing.T, name string) {
		checkKinds(t, name)
		checkKinds(t, strings.ToLower(name))
		checkKinds(t, strings.TrimSpace(name))
	})
}
