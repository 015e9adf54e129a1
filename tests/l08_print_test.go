package tests

import (
	"fmt"
	"maps"
	"slices"
	"strconv"
	"strings"
	"testing"
	"unicode/utf8"
	"unsafe"

	"loop.example/g00118/impl"
)

var voidNames = []string{"area", "base", "br", "embed", "hr", "img", "input", "link", "meta", "param", "source", "track", "wbr"}

var rawNames = []string{"iframe", "noembed", "noframes", "plaintext", "script", "style", "xmp"}

const hardBlank = "\u00a0"

// expectedEscape goes byte by byte: no byte of what is replaced is one of another point.
func expectedEscape(s string, value bool) string {
	if value {
		return strings.NewReplacer("&", "&amp;", "\xc2\xa0", "&nbsp;", `"`, "&quot;").Replace(s)
	}
	return strings.NewReplacer("&", "&amp;", "\xc2\xa0", "&nbsp;", "<", "&lt;", ">", "&gt;").Replace(s)
}

func sharesText(a string, b string) bool {
	return a != "" && b != "" && unsafe.StringData(a) == unsafe.StringData(b)
}

func checkEscapeIs(t *testing.T, s string, value bool, want string) {
	t.Helper()
	got := impl.Escape(s, value)
	if got != want {
		t.Errorf("Escape(%s, %v) = %s, want %s", short(s), value, short(got), short(want))
	}
	if sharesText(got, s) {
		t.Errorf("Escape(%s, %v) shares memory with its argument", short(s), value)
	}
	if !value && strings.ContainsAny(got, "<>") {
		t.Errorf("Escape(%s, false) has a sign that begins a tag: %s", short(s), short(got))
	}
	if value && strings.Contains(got, `"`) {
		t.Errorf("Escape(%s, true) has a sign that ends a value: %s", short(s), short(got))
	}
}

func checkEscape(t *testing.T, s string) {
	t.Helper()
	checkEscapeIs(t, s, false, expectedEscape(s, false))
	checkEscapeIs(t, s, true, expectedEscape(s, true))
}

// asRead is what a page tells of a text: the cutting knows the point 0 as the stand-in alone.
func asRead(s string) string {
	return strings.ReplaceAll(s, "\x00", "\ufffd")
}

// checkEscapedIsRead asks for the promise: of a text that is right, and whose page is not too long.
func checkEscapedIsRead(t *testing.T, s string) {
	t.Helper()
	if !textFits(s) {
		return
	}
	inText := runesOf(impl.Escape(s, false))
	want := append(chars(asRead(s)), end())
	if got := impl.Tokens(inText); len(inText) <= impl.MaxPage && !slices.EqualFunc(got, want, sameToken) {
		t.Errorf("the text %s is read from %s as %s", short(s), short(impl.Escape(s, false)), tokensText(got))
	}
	inValue := runesOf(`<p a="` + impl.Escape(s, true) + `">`)
	want = []impl.Token{opens("p", "a", asRead(s)), end()}
	if got := impl.Tokens(inValue); len(inValue) <= impl.MaxPage && !slices.EqualFunc(got, want, sameToken) {
		t.Errorf("the value %s is read from %s as %s", short(s), short(impl.Escape(s, true)), tokensText(got))
	}
}

func TestEscapeAsTold(t *testing.T) {
	told := []struct{ s, text, value string }{
		{"", "", ""},
		{"a", "a", "a"},
		{"&", "&amp;", "&amp;"},
		{"&&", "&amp;&amp;", "&amp;&amp;"},
		{`"`, `"`, "&quot;"},
		{`""`, `""`, "&quot;&quot;"},
		{"<", "&lt;", "<"},
		{"<<", "&lt;&lt;", "<<"},
		{">", "&gt;", ">"},
		{">>", "&gt;&gt;", ">>"},
		{`&"<>`, `&amp;"&lt;&gt;`, "&amp;&quot;<>"},
		{`><"&`, `&gt;&lt;"&amp;`, "><&quot;&amp;"},
		{"'", "'", "'"},
		{hardBlank, "&nbsp;", "&nbsp;"},
		{hardBlank + hardBlank, "&nbsp;&nbsp;", "&nbsp;&nbsp;"},
		{hardBlank + "a", "&nbsp;a", "&nbsp;a"},
		{"a" + hardBlank, "a&nbsp;", "a&nbsp;"},
		{"&amp;", "&amp;amp;", "&amp;amp;"},
		{"&amp", "&amp;amp", "&amp;amp"},
		{"&nbsp;&#160;&lt;", "&amp;nbsp;&amp;#160;&amp;lt;", "&amp;nbsp;&amp;#160;&amp;lt;"},
		{"a b\tc\n\r\x00", "a b\tc\n\r\x00", "a b\tc\n\r\x00"},
		{"</p>", "&lt;/p&gt;", "</p>"},
		{"<!--\"-->", "&lt;!--\"--&gt;", "<!--&quot;-->"},
	}
	for _, c := range told {
		checkEscapeIs(t, c.s, false, c.text)
		checkEscapeIs(t, c.s, true, c.value)
		checkEscape(t, c.s)
		checkEscapedIsRead(t, c.s)
	}
}

// What is not named stays byte for byte, also where it is no UTF-8.
func TestEscapeKeepsAllOtherBytes(t *testing.T) {
	kept := []string{
		"\xc2", "\xa0", "\xa0\xc2", "\xc2a\xa0", "\xc2\x00\xa0", "\xc2\xff\xa0", "a\xc2", "\xa0a", "\xc3\xa0", "\xc2\xa1", "\xc2\x9f",
		"\xc4\xa0", "\xe0\xa0\xa0", "\xe2\x80\xa0", "\xf0\xa0\xa0\xa0", "\xa0\xa0\xa0", "\xc2\xc2", "\ufffd", "\ufffd\xff\ufffd",
		"\xef\xbf", "\xef\xbf\xbd", "\xef\xbfa\xbd", "\xff", "\xfe\xff", "\xe2\x82", "\xf0\x9f\x98", "\xf0\x9f", "\xed\xa0\x80",
		"\xed\xbf\xbf", "\xc0\xa0", "\xc1\xa0", "\xc0\xa6", "\xe0\x80\xa6", "\xf4\x90\x80\x80", "\ufeff", "\ufeffa", "\U0010ffff", "\U0001f600",
	}
	for _, s := range append(kept, badTexts...) {
		checkEscapeIs(t, s, false, s)
		checkEscapeIs(t, s, true, s)
		for _, signs := range []string{"&", "<\"", hardBlank, "a"} {
			checkEscape(t, s+signs)
			checkEscape(t, signs+s)
			checkEscape(t, signs+s+signs+s)
		}
	}
	around := map[string]string{
		"\xc2" + hardBlank: "\xc2&nbsp;", hardBlank + "\xa0": "&nbsp;\xa0", "\xc2" + hardBlank + "\xa0": "\xc2&nbsp;\xa0",
		"\xe2" + hardBlank: "\xe2&nbsp;", "\xe2\x82" + hardBlank: "\xe2\x82&nbsp;", "\xf0\x9f\x98" + hardBlank: "\xf0\x9f\x98&nbsp;",
		"\xa0" + hardBlank + "\xc2": "\xa0&nbsp;\xc2", "\xff" + hardBlank + "\xff": "\xff&nbsp;\xff",
		"\xe2\x82&": "\xe2\x82&amp;", "\xc2&\xa0": "\xc2&amp;\xa0",
	}
	for s, want := range around {
		checkEscapeIs(t, s, false, want)
		checkEscapeIs(t, s, true, want)
	}
}

func TestEscapeOfEachByteAndEachTwo(t *testing.T) {
	for first := range 256 {
		checkEscape(t, string([]byte{byte(first)}))
		for second := range 256 {
			checkEscape(t, string([]byte{byte(first), byte(second)}))
		}
	}
}

func TestEscapeOfEachPoint(t *testing.T) {
	for x := range utf8.MaxRune + 1 {
		s := string(x)
		if strings.ContainsAny(s, `&"<>`+hardBlank) {
			checkEscape(t, s)
		} else if impl.Escape(s, false) != s || impl.Escape(s, true) != s {
			t.Errorf("point %d is escaped as %q and %q", x, impl.Escape(s, false), impl.Escape(s, true))
		}
	}
	for x := range rune(3000) {
		checkEscapedIsRead(t, string(x))
		checkEscapedIsRead(t, "a"+string(x)+"b")
	}
}

func TestEscapeOfRowsOfPieces(t *testing.T) {
	eachRow([]string{"&", `"`, "<", ">", "\xc2", "\xa0", "\xe2\x82", "\ufffd", "a"}, 4, func(row string) {
		checkEscape(t, row)
	})
}

func TestEscapedRowsAreReadAsTheyWere(t *testing.T) {
	eachRow([]string{"&", `"`, "<", ">", hardBlank, "/", "!", "amp", ";", "#38", "=", "a", "\u00e9"}, 3, func(row string) {
		checkEscape(t, row)
		checkEscapedIsRead(t, row)
	})
	for _, ref := range impl.Refs() {
		for _, behind := range []string{"", ";", "=", "a", "1", " ", "&", "<"} {
			checkEscapedIsRead(t, "&"+ref.Name+behind)
			checkEscapedIsRead(t, "x&"+ref.Name+behind+"y")
			checkEscapedIsRead(t, string(rune(ref.Point))+behind)
		}
	}
	for _, s := range []string{"</p>", "<p>", "<!--x-->", "<!DOCTYPE a>", "<?x>", "</>", "]]>", "'", "a='b'", "&#x26;lt;", "\ufffd", "a\ufeff", "\n\t\f\r ", "\x00"} {
		checkEscapedIsRead(t, s)
		checkEscapedIsRead(t, s+s)
	}
}

func TestEscapeOfLongTexts(t *testing.T) {
	for _, piece := range []string{"&", `"`, "<", ">", hardBlank, "a", "\xff", "\xc2", "\xa0", "\u20ac", "a<b&\"c\"" + hardBlank + "\xe2\x82"} {
		for _, n := range []int{100, 428, 500, 599, 600, 601, 750, 1000, 2999, 3000, 3001, 40000} {
			s := strings.Repeat(piece, n)
			checkEscape(t, s)
			checkEscape(t, s+"&")
			checkEscapedIsRead(t, s)
		}
	}
	whole := strings.Repeat("&", 600) // 3000 points of a page
	if got := impl.Tokens(runesOf(impl.Escape(whole, false))); !slices.EqualFunc(got, append(chars(whole), end()), sameToken) {
		t.Errorf("a text that is escaped to just a page is read as %d tokens", len(got))
	}
}

// allShortNames are the texts of at most n letters a to z.
func allShortNames(n int, use func(string)) {
	letters := make([]string, 26)
	for i := range letters {
		letters[i] = string(rune('a' + i))
	}
	eachRow(letters, n, use)
}

func checkKind(t *testing.T, what string, is func(string) bool, name string, want bool) {
	t.Helper()
	if is(name) != want {
		t.Errorf("%s(%q) = %v", what, name, !want)
	}
}

// nearNames are the name with something more, less or else, none of them alike to it.
func nearNames(name string) []string {
	near := []string{
		strings.ToUpper(name), strings.ToUpper(name[:1]) + name[1:], name[:len(name)-1] + strings.ToUpper(name[len(name)-1:]),
		" " + name, name + " ", name + "\n", name + "\x00", "<" + name, name + ">", "/" + name, name + "/", name + "s", "x" + name, name + name,
		name + ",", name + "\xff",
	}
	for at := range name {
		near = append(near, name[:at], name[at+1:], name[:at]+" "+name[at:], name[:at]+"q"+name[at+1:], name[:at]+name[at:at+1]+name[at:])
	}
	return near
}

func TestIsVoidAndIsRaw(t *testing.T) {
	all := append(slices.Clone(voidNames), rawNames...)
	others := []string{"", " ", "p", "title", "textarea", "noscript", "html", "head", "body", "template", "command", "keygen", "frame", "basefont", "bgsound", "image", "col", "listing", "pre", "area, base", "\u0131mg", "b\u0280"}
	for _, name := range all {
		others = append(others, nearNames(name)...)
	}
	for _, name := range append(all, others...) {
		checkKind(t, "IsVoid", impl.IsVoid, name, slices.Contains(voidNames, name))
		checkKind(t, "IsRaw", impl.IsRaw, name, slices.Contains(rawNames, name))
	}
	allShortNames(4, func(name string) {
		if impl.IsVoid(name) != slices.Contains(voidNames, name) || impl.IsRaw(name) != slices.Contains(rawNames, name) {
			t.Errorf("IsVoid(%q) = %v, IsRaw %v", name, impl.IsVoid(name), impl.IsRaw(name))
		}
	})
	for _, x := range all {
		for _, y := range all {
			checkKind(t, "IsVoid", impl.IsVoid, x+y, false)
			checkKind(t, "IsRaw", impl.IsRaw, x+" "+y, false)
		}
	}
}

// expectedPrint goes through the nodes in their tidied order, and closes what is open as soon as one stands elsewhere.
func expectedPrint(t impl.Tree) string {
	if !treeFits(t) {
		return ""
	}
	nodes, out, open := expectedTidy(t).Nodes, []string{}, []int{0}
	closeTo := func(parent int) {
		for last := open[len(open)-1]; last != parent; last = open[len(open)-1] {
			out = append(out, "</"+nodes[last].Name+">")
			open = open[:len(open)-1]
		}
	}
	hidden := map[int]int{}
	for at, n := range nodes {
		if at == 0 {
			continue
		}
		if above := nodes[n.Parent]; hidden[n.Parent] == 1 || slices.Contains(voidNames, above.Name) {
			hidden[at] = 1
			continue
		}
		closeTo(n.Parent)
		out = append(out, expectedPiece(n, nodes[n.Parent].Name))
		if n.Kind == 3 && !slices.Contains(voidNames, n.Name) {
			open = append(open, at)
		}
	}
	closeTo(0)
	return strings.Join(out, "")
}

// expectedPiece is a node without what stands below it, and without its end.
func expectedPiece(n impl.Node, above string) string {
	switch n.Kind {
	case 2:
		return "<!DOCTYPE " + n.Name + ">"
	case 3:
		attrs := ""
		for _, a := range n.Attrs {
			attrs += fmt.Sprintf(` %s="%s"`, a.Name, expectedEscape(a.Value, true))
		}
		return "<" + n.Name + attrs + ">"
	case 5:
		return "<!--" + n.Text + "-->"
	}
	if slices.Contains(rawNames, above) {
		return n.Text
	}
	return expectedEscape(n.Text, false)
}

// expectedText sorts the texts by their ways down from the node.
func expectedText(t impl.Tree, at int) string {
	if !treeFits(t) || !thereIs(t, at) {
		return ""
	}
	ways := map[int][]int{}
	for i, n := range t.Nodes {
		if n.Kind == 4 && (i == at || standsBelow(t, i, at)) {
			ways[i] = wayFrom(t, at, i)
		}
	}
	out := ""
	for _, i := range slices.SortedFunc(maps.Keys(ways), func(a int, b int) int { return slices.Compare(ways[a], ways[b]) }) {
		out += t.Nodes[i].Text
	}
	return out
}

func wayFrom(t impl.Tree, above int, at int) []int {
	way := []int{}
	for ; at != above; at = t.Nodes[at].Parent {
		way = append(way, slices.Index(t.Nodes[t.Nodes[at].Parent].Kids, at))
	}
	slices.Reverse(way)
	return way
}

func checkPrint(t *testing.T, tree impl.Tree) string {
	t.Helper()
	want := expectedPrint(tree)
	g := guardTree(tree)
	got := impl.PrintOf(g.arg)
	if got != want {
		t.Errorf("PrintOf(%s)\n got  %s\n want %s", treeText(tree), short(got), short(want))
	}
	if !g.untouched() {
		t.Errorf("PrintOf(%s) wrote into its argument", treeText(tree))
	}
	if slices.ContainsFunc(g.arg.Nodes, func(n impl.Node) bool { return sharesText(got, n.Text) }) {
		t.Errorf("PrintOf(%s) shares memory with its argument", treeText(tree))
	}
	return want
}

func checkPrintIs(t *testing.T, tree impl.Tree, want string) {
	t.Helper()
	if got := checkPrint(t, tree); got != want {
		t.Errorf("the test's own rule prints %s as %s, want %s", treeText(tree), short(got), short(want))
	}
	if !impl.TreeOk(tree) {
		t.Errorf("%s is no tree", treeText(tree))
	}
}

func checkText(t *testing.T, tree impl.Tree, at int) string {
	t.Helper()
	want := expectedText(tree, at)
	g := guardTree(tree)
	got := impl.TextOf(g.arg, at)
	if got != want {
		t.Errorf("TextOf(%s, %d) = %s, want %s", treeText(tree), at, short(got), short(want))
	}
	if !g.untouched() {
		t.Errorf("TextOf(%s, %d) wrote into its argument", treeText(tree), at)
	}
	if thereIs(tree, at) && sharesText(got, tree.Nodes[at].Text) {
		t.Errorf("TextOf(%s, %d) shares memory with its argument", treeText(tree), at)
	}
	return want
}

func checkTextIs(t *testing.T, tree impl.Tree, at int, want string) {
	t.Helper()
	if got := checkText(t, tree, at); got != want {
		t.Errorf("the test's own rule tells %s of %d of %s, want %s", short(got), at, treeText(tree), short(want))
	}
}

// checkBoth asks for all that is told of a tree.
func checkBoth(t *testing.T, tree impl.Tree) {
	t.Helper()
	checkPrint(t, tree)
	for at := -2; at < len(tree.Nodes)+2; at++ {
		checkText(t, tree, at)
	}
}

func TestPrintOfEachKind(t *testing.T) {
	checkPrintIs(t, impl.TreeNew(), "")
	checkPrintIs(t, treeOf(pageNode(1), doctypeNode("html", 0)), "<!DOCTYPE html>")
	checkPrintIs(t, treeOf(pageNode(1), doctypeNode("", 0)), "<!DOCTYPE >")
	checkPrintIs(t, treeOf(pageNode(1), doctypeNode(`a&"<>`+hardBlank, 0)), `<!DOCTYPE a&"<>`+hardBlank+">")
	checkPrintIs(t, treeOf(pageNode(1), elementNode("p", 0)), "<p></p>")
	checkPrintIs(t, treeOf(pageNode(1), textNode(`a&"<>`+hardBlank, 0)), `a&amp;"&lt;&gt;&nbsp;`)
	checkPrintIs(t, treeOf(pageNode(1), commentNode("", 0)), "<!---->")
	checkPrintIs(t, treeOf(pageNode(1), commentNode(" c ", 0)), "<!-- c -->")
	for _, s := range []string{"<p>", "</p>", "-->", "--!>", "-", "&amp;", `a&"<>` + hardBlank, "<!--"} {
		checkPrintIs(t, treeOf(pageNode(1), commentNode(s, 0)), "<!--"+s+"-->")
		checkPrintIs(t, treeOf(pageNode(1), elementNode("script", 0, 2), commentNode(s, 1)), "<script><!--"+s+"--></script>")
	}
	every := treeOf(pageNode(1, 2, 4, 6), doctypeNode("html", 0), elementNode("p", 0, 3, 5), textNode("x", 2), textNode("y", 0), commentNode("c", 2), elementNode("br", 0))
	checkPrintIs(t, every, "<!DOCTYPE html><p>x<!--c--></p>y<br>")
}

func TestPrintOfAttributes(t *testing.T) {
	one := func(attrs ...impl.Attr) impl.Tree {
		return treeOf(pageNode(1), withAttrs(elementNode("p", 0), attrs...))
	}
	checkPrintIs(t, one(), "<p></p>")
	checkPrintIs(t, one(impl.Attr{Name: "id"}), `<p id=""></p>`)
	checkPrintIs(t, one(impl.Attr{Name: "id", Value: "1"}), `<p id="1"></p>`)
	checkPrintIs(t, one(impl.Attr{Name: "id", Value: "1"}, impl.Attr{Name: "a", Value: ""}, impl.Attr{Name: "b", Value: "x y"}), `<p id="1" a="" b="x y"></p>`)
	checkPrintIs(t, one(impl.Attr{Name: "b"}, impl.Attr{Name: "a"}), `<p b="" a=""></p>`)
	checkPrintIs(t, one(impl.Attr{Name: "a", Value: `"&<>'` + hardBlank}), `<p a="&quot;&amp;<>'&nbsp;"></p>`)
	checkPrintIs(t, one(impl.Attr{Name: "a", Value: "&amp;"}), `<p a="&amp;amp;"></p>`)
	checkPrintIs(t, one(impl.Attr{Name: `"&<>` + hardBlank, Value: "v"}), `<p "&<>`+hardBlank+`="v"></p>`)
	checkPrintIs(t, one(impl.Attr{Name: "A b", Value: "\n\t"}), "<p A b=\"\n\t\"></p>")
	for n := range 21 {
		checkPrint(t, one(manyAttrs(n)...))
	}
	void := treeOf(pageNode(1), withAttrs(elementNode("img", 0), impl.Attr{Name: "src", Value: "a&b"}, impl.Attr{Name: "alt"}))
	checkPrintIs(t, void, `<img src="a&amp;b" alt="">`)
	long := strings.Repeat(`"`, 3000)
	checkPrintIs(t, one(impl.Attr{Name: "a", Value: long}), `<p a="`+strings.Repeat("&quot;", 3000)+`"></p>`)
	if got := checkPrint(t, one(impl.Attr{Name: "a", Value: long + "x"})); got != "" {
		t.Errorf("a Value that is too long is printed: %s", short(got))
	}
}

func TestPrintOfVoidElements(t *testing.T) {
	for _, name := range voidNames {
		checkPrintIs(t, treeOf(pageNode(1, 2), elementNode(name, 0), textNode("x", 0)), "<"+name+">x")
		tree := treeOf(pageNode(1, 5), elementNode(name, 0, 2, 3), textNode("hidden", 1), elementNode("p", 1, 4), textNode("hidden", 3), textNode("x", 0))
		checkPrintIs(t, tree, "<"+name+">x")
		checkTextIs(t, tree, 1, "hiddenhidden")
		checkTextIs(t, tree, 0, "hiddenhiddenx")
		within := treeOf(pageNode(1), elementNode("p", 0, 2, 3), elementNode(name, 1), elementNode(name, 1))
		checkPrintIs(t, within, "<p><"+name+"><"+name+"></p>")
	}
	for _, name := range append(slices.Clone(rawNames), "p", "bra", "b", "h", "brr", "i") {
		checkPrintIs(t, treeOf(pageNode(1), elementNode(name, 0)), "<"+name+"></"+name+">")
	}
}

func TestPrintOfRawElements(t *testing.T) {
	s, escaped := `1<2&&"3">`+hardBlank, `1&lt;2&amp;&amp;"3"&gt;&nbsp;`
	for _, name := range rawNames {
		open, shut := "<"+name+">", "</"+name+">"
		checkPrintIs(t, treeOf(pageNode(1), elementNode(name, 0, 2), textNode(s, 1)), open+s+shut)
		checkPrintIs(t, treeOf(pageNode(1), elementNode(name, 0, 2, 3), textNode(s, 1), textNode(s, 1)), open+s+s+shut)
		checkPrintIs(t, treeOf(pageNode(1), elementNode(name, 0, 2), textNode(shut+"<p>", 1)), open+shut+"<p>"+shut)
		below := treeOf(pageNode(1), elementNode(name, 0, 2, 4), elementNode("b", 1, 3), textNode(s, 2), textNode(s, 1))
		checkPrintIs(t, below, open+"<b>"+escaped+"</b>"+s+shut)
		beside := treeOf(pageNode(1), elementNode("p", 0, 2, 3, 4), textNode(s, 1), elementNode(name, 1), textNode(s, 1))
		checkPrintIs(t, beside, "<p>"+escaped+open+shut+escaped+"</p>")
		besidePage := treeOf(pageNode(1, 2, 3), textNode(s, 0), elementNode(name, 0), textNode(s, 0))
		checkPrintIs(t, besidePage, escaped+open+shut+escaped)
		within := treeOf(pageNode(1), elementNode("p", 0, 2), elementNode(name, 1, 3), textNode(s, 2))
		checkPrintIs(t, within, "<p>"+open+s+shut+"</p>")
		attrs := treeOf(pageNode(1), withAttrs(elementNode(name, 0), impl.Attr{Name: "a", Value: `&"`}))
		checkPrintIs(t, attrs, "<"+name+` a="&amp;&quot;">`+shut)
		for _, inner := range rawNames {
			nested := treeOf(pageNode(1), elementNode(name, 0, 2), elementNode(inner, 1, 3), textNode(s, 2))
			checkPrintIs(t, nested, open+"<"+inner+">"+s+"</"+inner+">"+shut)
		}
		checkTextIs(t, below, 1, s+s)
	}
	for _, name := range []string{"title", "textarea", "noscript", "p", "scripts", "pre"} {
		checkPrintIs(t, treeOf(pageNode(1), elementNode(name, 0, 2), textNode(s, 1)), "<"+name+">"+escaped+"</"+name+">")
	}
}

func TestPrintOfSamples(t *testing.T) {
	checkPrintIs(t, sampleTree(), `<!DOCTYPE html><p id="1" class="x y">onetwo<b><!----></b></p>`)
	checkBoth(t, sampleTree())
	loose := treeOf(pageNode(), elementNode("p", -1, 2), textNode("x", 1), textNode("y", -1), doctypeNode("a", -1), commentNode("c", -1))
	checkPrintIs(t, loose, "")
	checkBoth(t, loose)
	for _, tree := range append(packTrees(), fullTree()) {
		checkBoth(t, tree)
	}
}

func TestPrintOfWrongTrees(t *testing.T) {
	for _, tree := range wrongTrees() {
		if got := impl.PrintOf(tree); got != "" {
			t.Errorf("PrintOf(%s) = %s", treeText(tree), short(got))
		}
		checkPrint(t, tree)
		for at := -1; at <= min(len(tree.Nodes), 12); at++ {
			if got := impl.TextOf(tree, at); got != "" {
				t.Errorf("TextOf(%s, %d) = %s", treeText(tree), at, short(got))
			}
			checkText(t, tree, at)
		}
	}
}

// The order of the nodes is not that of the page.
func TestPrintOfNodesInAnotherOrder(t *testing.T) {
	tree := treeOf(pageNode(1, 4), elementNode("p", 0, 2, 3), textNode("x<", 1), elementNode("b", 1), commentNode("c", 0), textNode("away", -1))
	eachNumbers(5, 1, 5, func(order []int) {
		if len(slices.Compact(slices.Sorted(slices.Values(order)))) < 5 {
			return
		}
		turned := renumbered(tree, append([]int{0}, order...))
		checkPrintIs(t, turned, "<p>x&lt;<b></b></p><!--c-->")
		checkTextIs(t, turned, 0, "x<")
		checkBoth(t, turned)
	})
	back := treeOf(pageNode(3, 2, 1), textNode("c", 0), textNode("b", 0), textNode("a", 0))
	checkPrintIs(t, back, "abc")
	checkTextIs(t, back, 0, "abc")
}

func TestTextOf(t *testing.T) {
	tree := treeOf(
		pageNode(1, 4, 6, 11),
		elementNode("p", 0, 2, 3),
		textNode("a&", 1),
		elementNode("b", 1, 5, 9),
		elementNode("script", 0, 7),
		elementNode("i", 3, 8),
		textNode("end", 0),
		textNode("1<2", 4),
		textNode("<far>", 5),
		commentNode("comment", 3),
		elementNode("div", -1, 12, 13),
		doctypeNode("doctype", 0),
		textNode("away", 10),
		elementNode("u", 10, 14),
		textNode("further", 13),
		textNode("alone", -1),
		elementNode("hr", -1),
	)
	told := []string{"a&<far>1<2end", "a&<far>", "a&", "<far>", "1<2", "<far>", "end", "1<2", "<far>", "", "awayfurther", "", "away", "further", "further", "alone", ""}
	for at, want := range told {
		checkTextIs(t, tree, at, want)
	}
	for _, at := range noNodes(len(tree.Nodes)) {
		checkTextIs(t, tree, at, "")
	}
	checkTextIs(t, impl.TreeNew(), 0, "")
	checkTextIs(t, impl.TreeNew(), 1, "")
	checkTextIs(t, impl.TreeNew(), -1, "")
	checkTextIs(t, impl.Tree{}, 0, "")
	for _, s := range []string{"x", `a&"<>` + hardBlank, "\x00", "\ufffd", strings.Repeat("&", 3000)} {
		checkTextIs(t, treeOf(pageNode(1), textNode(s, 0)), 0, s)
		checkTextIs(t, treeOf(pageNode(1), textNode(s, 0)), 1, s)
		checkTextIs(t, treeOf(pageNode(1), commentNode(s, 0)), 1, "")
		checkTextIs(t, treeOf(pageNode(1), commentNode(s, 0)), 0, "")
	}
}

// checkHungBehind asks for the promise: what is hung behind all is printed behind all, and the rest as it was without it.
func checkHungBehind(t *testing.T, tree impl.Tree, child int) {
	t.Helper()
	rest, _ := impl.TreeTake(tree, child)
	hung, ok := impl.TreeHang(tree, child, 0)
	if !ok {
		return
	}
	alone := cloneTree(hung)
	for _, kid := range alone.Nodes[0].Kids {
		if kid != child {
			alone, _ = impl.TreeTake(alone, kid)
		}
	}
	if got, want := impl.PrintOf(hung), impl.PrintOf(rest)+impl.PrintOf(alone); got != want {
		t.Errorf("%d of %s hung behind all is printed in %s, want %s", child, treeText(tree), short(got), short(want))
	}
	if got, want := impl.TextOf(hung, 0), impl.TextOf(rest, 0)+impl.TextOf(hung, child); got != want {
		t.Errorf("%d of %s hung behind all: its text is told in %s, want %s", child, treeText(tree), short(got), short(want))
	}
	checkPrint(t, hung)
	checkPrint(t, alone)
}

func TestHungBehindAllIsPrintedBehindAll(t *testing.T) {
	for _, tree := range append(packTrees(), sampleTree(), fullTree()) {
		for child := range min(len(tree.Nodes), 20) {
			checkHungBehind(t, tree, child)
		}
	}
	tree := impl.TreeNew()
	want := ""
	pieces := []struct {
		node  impl.Node
		print string
	}{
		{doctypeNode("html", 0), "<!DOCTYPE html>"}, {commentNode("<", 0), "<!--<-->"}, {elementNode("br", 0), "<br>"}, {textNode("<", 0), "&lt;"},
		{withAttrs(elementNode("p", 0), impl.Attr{Name: "a", Value: "\""}), `<p a="&quot;"></p>`}, {textNode("&", 0), "&amp;"}, {elementNode("xmp", 0), "<xmp></xmp>"},
	}
	for i := range 7 * 71 {
		more, at := impl.TreeAdd(tree, pieces[i%7].node)
		if impl.PrintOf(more) != want {
			t.Fatalf("what stands below none yet is printed: %s", short(impl.PrintOf(more)))
		}
		tree, _ = impl.TreeHang(more, at, 0)
		want += pieces[i%7].print
		if got := impl.PrintOf(tree); got != want {
			t.Fatalf("behind %d others it is printed as %s, want %s", i, short(got), short(want))
		}
	}
}

func TestPrintOfDeepAndWideTrees(t *testing.T) {
	for _, n := range []int{1, 2, 3, 100, 499, 500, 501} {
		deep, wide := manyNodes(n, belowTheLast), manyNodes(n, belowPage)
		opened, closed, both := "", "", ""
		for i := 1; i < n; i++ {
			name := "e" + strconv.Itoa(i)
			opened, closed, both = opened+"<"+name+">", "</"+name+">"+closed, both+"<"+name+"></"+name+">"
		}
		if n > 500 {
			opened, closed, both = "", "", ""
		}
		if impl.PrintOf(deep) != opened+closed || impl.PrintOf(wide) != both || impl.PrintOf(manyNodes(n, belowNone)) != "" {
			t.Errorf("of %d nodes: %s, %s", n, short(impl.PrintOf(deep)), short(impl.PrintOf(wide)))
		}
		checkPrint(t, deep)
		checkPrint(t, wide)
		checkPrint(t, manyNodes(n, func(i int) int { return i / 3 }))
	}
	deep := manyNodes(500, belowTheLast)
	deep.Nodes[499] = textNode("deepest<", 498)
	for at := range deep.Nodes {
		if got := impl.TextOf(deep, at); got != "deepest<" {
			t.Errorf("TextOf %d of a deep tree is %s", at, short(got))
		}
	}
	checkPrint(t, deep)
	long := []impl.Node{pageNode()}
	for len(long) < 500 {
		long = append(long, textNode(strings.Repeat("&", 3000), 0))
	}
	if got := impl.PrintOf(linked(long)); got != strings.Repeat("&amp;", 3000*499) {
		t.Errorf("long texts are printed as %s", short(got))
	}
	if got := impl.TextOf(linked(long), 0); got != strings.Repeat("&", 3000*499) {
		t.Errorf("long texts are told as %s", short(got))
	}
}

// tokensOf is what a page of the tree is cut into, if no text is raw and no comment ends too soon.
func tokensOf(t impl.Tree, at int) []impl.Token {
	n := t.Nodes[at]
	below := []impl.Token{}
	for _, kid := range n.Kids {
		below = append(below, tokensOf(t, kid)...)
	}
	switch n.Kind {
	case impl.NdDoctype:
		return []impl.Token{doctype(n.Name)}
	case impl.NdElement:
		open := impl.Token{Kind: impl.TkOpen, Name: n.Name, Attrs: n.Attrs}
		if slices.Contains(voidNames, n.Name) {
			return []impl.Token{open}
		}
		return joined([]impl.Token{open}, below, []impl.Token{closes(n.Name)})
	case impl.NdText:
		return chars(n.Text)
	case impl.NdComment:
		return []impl.Token{comment(n.Text)}
	}
	return below
}

func checkPrintedIsCut(t *testing.T, tree impl.Tree) {
	t.Helper()
	page := runesOf(impl.PrintOf(tree))
	want := append(tokensOf(tree, 0), end())
	if got := impl.Tokens(page); len(page) <= impl.MaxPage && !slices.EqualFunc(got, want, sameToken) {
		t.Errorf("%s is printed as %s, and that is cut into %s", treeText(tree), short(impl.PrintOf(tree)), tokensText(got))
	}
}

// What is tidied or packed and read prints as it did, and what is printed is cut into what stands in the tree.
func checkMadePrint(t *testing.T, steps []byte) {
	t.Helper()
	tree := madeSigns(steps)
	checkBoth(t, tree)
	checkPrintedIsCut(t, tree)
	tidied := impl.TreeTidy(tree)
	if impl.PrintOf(tidied) != impl.PrintOf(tree) || impl.TextOf(tidied, 0) != impl.TextOf(tree, 0) {
		t.Errorf("%s is not printed as it is tidied", treeText(tree))
	}
	if packed, ok := impl.TreePack(tidied); ok {
		if again, _ := impl.TreeRead(packed); impl.PrintOf(again) != impl.PrintOf(tree) {
			t.Errorf("%s is not printed as it is read", treeText(tree))
		}
	}
	for child := range min(len(tree.Nodes), 8) {
		checkHungBehind(t, tree, child)
	}
}

// madeSigns is a tree whose names, texts and values have what is treated in a way of its own, but for raw elements.
func madeSigns(steps []byte) impl.Tree {
	names := []string{"p", "br", "b", "hr", "title", "img"}
	texts := []string{"a", "<", "&", `"`, ">", hardBlank, "&amp;", "</p>", "\u00e9", "\ufffd"}
	nodes := []impl.Node{pageNode()}
	for i := 0; i+3 < len(steps) && len(nodes) < 60; i += 4 {
		parent := int(steps[i])%(len(nodes)+1) - 1
		for parent > 0 && nodes[parent].Kind != impl.NdElement {
			parent--
		}
		name, s := names[int(steps[i+1])%len(names)], texts[int(steps[i+3])%len(texts)]+texts[int(steps[i+3])/16%len(texts)]
		switch steps[i+2] % 6 {
		case 0, 1:
			nodes = append(nodes, textNode(s, parent))
		case 2:
			nodes = append(nodes, commentNode(" "+s, parent)) // a > that stands first would end it
		case 3:
			nodes = append(nodes, doctypeNode(name, parent))
		case 4:
			nodes = append(nodes, elementNode(name, parent))
		case 5:
			nodes = append(nodes, withAttrs(elementNode(name, parent), impl.Attr{Name: "id", Value: s}, impl.Attr{Name: "class"}))
		}
	}
	return linked(nodes)
}

func TestPrintOfManyMadeTrees(t *testing.T) {
	for seed := range uint32(150) {
		checkMadePrint(t, manySteps(seed+7, 4*int(seed%40)))
	}
}

// Every tree of few nodes: each node of each of these kinds, below each of those ahead of it or below none.
func TestPrintOfEveryTreeOfFewNodes(t *testing.T) {
	kinds := []impl.Node{elementNode("p", 0), elementNode("br", 0), elementNode("xmp", 0), textNode("<", 0), commentNode("&", 0), doctypeNode("d", 0)}
	count := 0
	eachNumbers(3, 0, len(kinds)-1, func(what []int) {
		eachNumbers(3, -1, 2, func(parents []int) {
			nodes := []impl.Node{pageNode()}
			for i, kind := range what {
				n := kinds[kind]
				n.Parent = parents[i]
				nodes = append(nodes, n)
			}
			tree := linked(nodes)
			if treeFits(tree) {
				count++
			}
			checkBoth(t, tree)
		})
	})
	if count < 1000 {
		t.Errorf("only %d trees were made", count)
	}
}

func FuzzPrint(f *testing.F) {
	for _, s := range []string{`a<b>&"` + hardBlank, "&amp;\xc2\xa0\xa0\xff", "</p>\xe2\x82", ""} {
		f.Add(s, manySteps(uint32(len(s)), 80))
	}
	f.Fuzz(func(t *testing.T, s string, steps []byte) {
		s = s[:min(len(s), 400)]
		checkEscape(t, s)
		checkEscapedIsRead(t, s)
		checkKind(t, "IsVoid", impl.IsVoid, s, slices.Contains(voidNames, s))
		checkKind(t, "IsRaw", impl.IsRaw, s, slices.Contains(rawNames, s))
		checkMadePrint(t, steps[:min(len(steps), 240)])
		checkBoth(t, treeOf(pageNode(1), elementNode("p", 0, 2), textNode(s, 1)))
	})
}
