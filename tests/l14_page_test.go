package tests

import (
	"bytes"
	"math"
	"slices"
	"strconv"
	"strings"
	"sync"
	"testing"

	"loop.example/g00118/impl"
)

// saidBuild goes by the document's sentence, by the calls that it names, up to the end of the page whatever comes.
func saidBuild(list []int) impl.Build {
	lines, b := impl.LinesOf(list), impl.BuildNew()
	for at, kind := 0, 0; kind != impl.TkEnd; {
		token, next := impl.NextToken(lines, at, b.Cut, b.Last)
		b = impl.BuildTake(b, token)
		at, kind = next, token.Kind
	}
	return b
}

func saidPage(list []int) (impl.Tree, int) {
	if len(list) > 3000 {
		return impl.Tree{}, 1
	}
	return toldOf(saidBuild(list))
}

func toldOf(b impl.Build) (impl.Tree, int) {
	switch b.Code {
	case 1:
		return impl.Tree{}, 2
	case 2:
		return impl.Tree{}, 3
	}
	return impl.TreeTidy(b.Tree), 0
}

// expectedPage is slower, and leans on rules of the tests alone.
func expectedPage(list []int) (impl.Tree, int) {
	if len(list) > 3000 {
		return impl.Tree{}, 1
	}
	lines := []int{}
	for i, x := range list {
		if x == 10 && i > 0 && list[i-1] == 13 {
			continue
		}
		if x == 13 {
			x = 10
		}
		lines = append(lines, x)
	}
	b := impl.Build{Tree: treeOf(pageNode()), Mode: 1, Old: 1, Head: -1, Cut: 1}
	for text, kind := expectedClean(lines), 0; kind != 1; {
		token, size := expectedNext(text, b.Cut, b.Last)
		b = expectedTaken(b, token)
		text, kind = text[size:], token.Kind
	}
	tree, code := toldOf(b)
	if code != 0 {
		return tree, code
	}
	return expectedTidy(b.Tree), 0
}

var allBeginnings = sync.OnceValue(beginnings)

// shortPage is up to which length the slower rule is asked as well.
const shortPage = 150

// checkPromised asks what a tree is that is answered with PgWell.
func checkPromised(t *testing.T, what string, tree impl.Tree) {
	t.Helper()
	if !impl.TreeOk(tree) || !sameTree(impl.TreeTidy(tree), tree) {
		t.Errorf("%s is no tidy tree: %s", what, treeText(tree))
		return
	}
	if !hasWholePage(tree) {
		t.Errorf("%s has no html with a head and a body: %s", what, treeText(tree))
	}
	packed, packs := impl.TreePack(tree)
	if !packs {
		return
	}
	if again, ok := impl.TreeRead(packed); !ok || !sameTree(again, tree) {
		t.Errorf("%s is read from its bytes as %s, %v", what, treeText(again), ok)
	}
}

// checkParse asks for one answer of either face, and that all its memory is its own.
func checkParse[T comparable](t *testing.T, what string, in []T, fillers []T, want impl.Tree, wantCode int, call func([]T) (impl.Tree, int)) {
	t.Helper()
	for _, filler := range fillers {
		g := guard(in, filler)
		got, code := call(g.arg)
		if code != wantCode || !sameTree(got, want) {
			t.Errorf("%s\n got  %s, %d\n want %s, %d", what, treeText(got), code, treeText(want), wantCode)
			return
		}
		second, _ := call(g.arg)
		if fillTree(got) {
			t.Errorf("%s: two lists of the answer share memory", what)
		}
		if !g.untouched() {
			t.Errorf("%s wrote into its argument or the room behind it", what)
		}
		overwrite(g.arg, filler)
		if !sameTree(second, want) {
			t.Errorf("%s: a second answer shares memory with the first one or with the argument", what)
		}
	}
	if wantCode == impl.PgWell {
		checkPromised(t, what, want)
	} else if len(want.Nodes) != 0 {
		t.Errorf("%s: beside %d there is a tree", what, wantCode)
	}
}

func checkPoints(t *testing.T, list []int) (impl.Tree, int) {
	t.Helper()
	want, code := saidPage(list)
	what := "ParsePoints(" + shown(list) + ")"
	if len(list) <= shortPage {
		if slower, slowerCode := expectedPage(list); slowerCode != code || !sameTree(slower, want) {
			t.Errorf("%s: the tests' own rule says %s, %d, the calls of the chapters %s, %d", what, treeText(slower), slowerCode, treeText(want), code)
		}
	}
	checkParse(t, what, list, []int{'>', ';', 10, 'x'}, want, code, impl.ParsePoints)
	return want, code
}

func checkBytes(t *testing.T, b []byte) (impl.Tree, int) {
	t.Helper()
	want, code := impl.Tree{}, 1
	if len(b) <= 3000 {
		want, code = saidPage(expectedRead(b, allBeginnings()))
	}
	checkParse(t, "ParsePage("+short(string(b))+")", b, []byte{'>', 0xbf, 'x'}, want, code, impl.ParsePage)
	return want, code
}

func bodyPage(body string) string {
	return bodyBegin + body + "</body></html>"
}

const emptyPage = bodyBegin + "</body></html>"

// checkPageIs asks both faces for a page that is UTF-8 and has no mark at its beginning.
func checkPageIs(t *testing.T, page string, want string) impl.Tree {
	t.Helper()
	tree, code := checkPoints(t, runesOf(page))
	same, sameCode := checkBytes(t, []byte(page))
	if got := impl.PrintOf(tree); code != impl.PgWell || got != want {
		t.Errorf("%s is read as %s, %d, want %s", short(page), got, code, want)
	}
	if !sameTree(tree, same) || code != sameCode {
		t.Errorf("%s: both faces differ", short(page))
	}
	return tree
}

func checkCode(t *testing.T, what string, list []int, want int) impl.Tree {
	t.Helper()
	tree, code := checkPoints(t, list)
	if code != want || (want == impl.PgWell) != (len(tree.Nodes) > 0) {
		t.Errorf("%s: code %d and %d nodes, want code %d", what, code, len(tree.Nodes), want)
	}
	return tree
}

func checkTextCode(t *testing.T, page string, want int) impl.Tree {
	t.Helper()
	return checkCode(t, short(page), runesOf(page), want)
}

func TestPageNumbers(t *testing.T) {
	if impl.PgWell != 0 || impl.PgLong != 1 || impl.PgLarge != 2 || impl.PgDeep != 3 {
		t.Error("the codes of a page are not as told")
	}
}

func TestPagesWithoutAnything(t *testing.T) {
	want := treeOf(pageNode(1), elementNode("html", 0, 2, 3), elementNode("head", 1), elementNode("body", 1))
	for _, list := range [][]int{nil, {}, {65279}, {10}, {13}, {13, 10}, {9, 12, 32}, repeated(32, 3000), slices.Repeat([]int{13, 10}, 1500)} {
		if tree, code := checkPoints(t, list); code != impl.PgWell || !sameTree(tree, want) {
			t.Errorf("%s is read as %s, %d", shown(list), treeText(tree), code)
		}
	}
	for _, b := range []string{"", "\xef\xbb\xbf", "\xef\xbb\xbf\xef\xbb\xbf", " \r\n\t\f", "\xef\xbb\xbf \n", strings.Repeat("\n", 3000)} {
		if tree, code := checkBytes(t, []byte(b)); code != impl.PgWell || !sameTree(tree, want) {
			t.Errorf("%s is read as %s, %d", short(b), treeText(tree), code)
		}
	}
	if tree, code := impl.ParsePage(nil); code != impl.PgWell || !sameTree(tree, want) {
		t.Error("no bytes are read as", treeText(tree), code)
	}
	for _, page := range []string{"</>", "</p>", "</></x>", "<p", "<!doctype x><html></html><!doctype y>", "<html><head></head><body></body></html>", " <html> <head></head><body>"} {
		list := runesOf(page)
		if tree, code := checkPoints(t, list); code != impl.PgWell || impl.PrintOf(tree) != strings.Repeat("<!DOCTYPE x>", strings.Count(page, "x><"))+emptyPage {
			t.Errorf("%s is read as %s, %d", page, treeText(tree), code)
		}
	}
}

func TestPagesOfOneThing(t *testing.T) {
	for page, want := range map[string]string{
		"x":                          bodyPage("x"),
		"x y":                        bodyPage("x y"),
		" x ":                        bodyPage("x "),
		"\v":                         bodyPage("\v"),
		"é😀":                         bodyPage("é😀"),
		"<!--c-->":                   "<!--c-->" + emptyPage,
		"<!---->":                    "<!---->" + emptyPage,
		"<!--c":                      "<!--c-->" + emptyPage,
		"<!-- <p> -->":               "<!-- <p> -->" + emptyPage,
		"<?x>":                       "<!--?x-->" + emptyPage,
		"<!x>":                       "<!--x-->" + emptyPage,
		"</ x>":                      "<!-- x-->" + emptyPage,
		"<!doctype html>":            "<!DOCTYPE html>" + emptyPage,
		"<!DocType HTML public 'x'>": "<!DOCTYPE html>" + emptyPage,
		"<!doctype>":                 "<!DOCTYPE >" + emptyPage,
		"<!doctype":                  "<!DOCTYPE >" + emptyPage,
		"<!doctype x":                "<!DOCTYPE x>" + emptyPage,
		"<html>":                     emptyPage,
		"<html id=1>":                `<html id="1"><head></head><body></body></html>`,
		"<head>":                     emptyPage,
		"<head id=1>":                `<html><head id="1"></head><body></body></html>`,
		"<body>":                     emptyPage,
		"<body id=1>":                `<html><head></head><body id="1"></body></html>`,
		"</html>":                    emptyPage,
		"</head>":                    emptyPage,
		"</body>":                    emptyPage,
		"</br>":                      bodyPage("<br>"),
		"<p>":                        bodyPage("<p></p>"),
		"<p/>":                       bodyPage("<p></p>"),
		"<br>":                       bodyPage("<br>"),
		"<image>":                    bodyPage("<img>"),
		"<title>":                    "<html><head><title></title></head><body></body></html>",
		"<link>":                     "<html><head><link></head><body></body></html>",
		"<script>":                   "<html><head><script></script></head><body></body></html>",
		"<textarea>":                 bodyPage("<textarea></textarea>"),
		"<plaintext>":                bodyPage("<plaintext></plaintext>"),
		"<x-y>":                      bodyPage("<x-y></x-y>"),
		"<P ID=A>":                   bodyPage(`<p id="A"></p>`),
	} {
		checkPageIs(t, page, want)
	}
}

func TestKnownPages(t *testing.T) {
	for page, want := range map[string]string{
		"<p>one<p>two":                                     bodyPage("<p>one</p><p>two</p>"),
		"<b>1<p>2</b>3</p>":                                bodyPage("<b>1</b><p><b>2</b>3</p>"),
		"<b>1<i>2</b>3</i>4":                               bodyPage("<b>1<i>2</i></b><i>3</i>4"),
		"<p><b>1</p>2":                                     bodyPage("<p><b>1</b></p><b>2</b>"),
		"<a href=1>x<p>y<a href=2>z":                       bodyPage(`<a href="1">x</a><p><a href="1">y</a><a href="2">z</a></p>`),
		"<ul><li>1<li><b>2</ul>3":                          bodyPage("<ul><li>1</li><li><b>2</b></li></ul><b>3</b>"),
		"<table><tr><td>1<td>2</table>":                    bodyPage("<table><tr><td>1<td>2</td></td></tr></table>"),
		"<object><b></object>x":                            bodyPage("<object><b></b></object>x"),
		"x<html id=1><body id=2><head id=3>y":              `<html id="1"><head></head><body id="2">xy</body></html>`,
		"x</body>y<!--c--></body><!--d-->":                 `<html><head></head><body>xy<!--c--></body><!--d--></html>`,
		"</body><!--d--> ":                                 `<html><head></head><body> </body><!--d--></html>`,
		"<!--1--><!doctype a><!--2--><html><!--3--><head>": "<!--1--><!DOCTYPE a><!--2--><html><!--3--><head></head><body></body></html>",
		"<head> </head> <title>x</title> <p>":              "<html><head> <title>x</title></head>  <body><p></p></body></html>",
		"<title>x</title><p>y<title>z</title>":             "<html><head><title>x</title></head><body><p>y<title>z</title></p></body></html>",
		"<link><p><link>":                                  "<html><head><link></head><body><p><link></p></body></html>",
		"&lt;p&gt;&amp;lt;&nbsp;&copy &#65;&#x42;":         bodyPage("&lt;p&gt;&amp;lt;&nbsp;© AB"),
		"<p title='&quot;&amp;&copy=&#33;'>":               bodyPage(`<p title="&quot;&amp;&amp;copy=!"></p>`),
		"a<b<c":                                            bodyPage("a"),
		"a<b<c>d":                                          bodyPage("a<b<c>d</b<c>"),
		"1 < 2 & 3 > 2":                                    bodyPage("1 &lt; 2 &amp; 3 &gt; 2"),
		"<h1>a<p>b</h2>c":                                  bodyPage("<h1>a<p>b</p></h1>c"),
		"<button><p>x</button>y":                           bodyPage("<button><p>x</p></button>y"),
		"<nobr>a<nobr>b":                                   bodyPage("<nobr>a</nobr><nobr>b</nobr>"),
		"<p>a<hr>b</p>c":                                   bodyPage("<p>a</p><hr>b<p></p>c"),
		"<div><p>x</div>y":                                 bodyPage("<div><p>x</p></div>y"),
	} {
		checkPageIs(t, page, want)
	}
	tree := checkPageIs(t, "<!doctype x><p id=1>y<!--c-->", "<!DOCTYPE x>"+bodyPage(`<p id="1">y<!--c--></p>`))
	want := treeOf(pageNode(1, 2), doctypeNode("x", 0), elementNode("html", 0, 3, 4), elementNode("head", 2), elementNode("body", 2, 5),
		withAttrs(elementNode("p", 4, 6, 7), impl.Attr{Name: "id", Value: "1"}), textNode("y", 5), commentNode("c", 5))
	if !sameTree(tree, want) {
		t.Error("a page is read as", treeText(tree))
	}
	// Nodes are told in the order of the page, not in that in which they were made.
	tree = checkPageIs(t, "<b>1<p>2</b>3", bodyPage("<b>1</b><p><b>2</b>3</p>"))
	names := []string{}
	for _, n := range tree.Nodes {
		names = append(names, n.Name+n.Text)
	}
	if got := strings.Join(names, " "); got != " html head body b 1 p b 2 3" {
		t.Error("the order of the nodes is", got)
	}
}

func TestPagesThatAreTorn(t *testing.T) {
	for page, want := range map[string]string{
		"<":                     "&lt;",
		"</":                    "&lt;/",
		"<>":                    "&lt;&gt;",
		"< p>":                  "&lt; p&gt;",
		"x<p":                   "x",
		"x<p ":                  "x",
		"x<p id":                "x",
		"x<p id=":               "x",
		"x<p id=1":              "x",
		"x<p id='1>y":           "x",
		`x<p id="1>y</p>z`:      "x",
		"x<p/":                  "x",
		"x</p":                  "x",
		"x</p id='":             "x",
		"x<title":               "x",
		"<b>x</b":               "<b>x</b>",
		"x<!--":                 "x<!---->",
		"x<!--c--":              "x<!--c-->",
		"x<!--c--!":             "x<!--c-->",
		"x<!-":                  "x<!----->",
		"x<!":                   "x<!---->",
		"x<?":                   "x<!--?-->",
		"x</ y":                 "x<!-- y-->",
		"x<!doctyp":             "x<!--doctyp-->",
		"x<!doctype y":          "x",
		"&":                     "&amp;",
		"&am":                   "&amp;am",
		"&amp":                  "&amp;",
		"&#":                    "&amp;#",
		"&#x":                   "&amp;#x",
		"&#38":                  "&amp;",
		"&#x26":                 "&amp;",
		"&#9999999999999999999": "\ufffd",
		"&noti":                 "¬i",
		"<p id=&am":             "",
		"x<title>y":             "x<title>y</title>",
		"x<title>y<":            "x<title>y&lt;</title>",
		"x<title>y</":           "x<title>y&lt;/</title>",
		"x<title>y</title":      "x<title>y&lt;/title</title>",
		"x<title>y</title ":     "x<title>y</title>",
		"x<title>y</title a='>": "x<title>y</title>",
		"x<title>y&am":          "x<title>y&amp;am</title>",
		"x<script>y</script":    "x<script>y</script</script>",
		"x<script>y</script/":   "x<script>y</script>",
		"x<script>&am":          "x<script>&am</script>",
		"x<textarea>":           "x<textarea></textarea>",
		"x<textarea>\n":         "x<textarea></textarea>",
		"x<pre>\n":              "x<pre></pre>",
		"x<plaintext>y<":        "x<plaintext>y<</plaintext>",
		"x<plaintext>&am":       "x<plaintext>&am</plaintext>",
	} {
		checkPageIs(t, page, bodyPage(want))
	}
}

// Each beginning of a page is a page.
func TestEachBeginningOfAPage(t *testing.T) {
	for _, page := range []string{
		"<!doctype html><html lang='x'><head><title>a&amp;</title></head><body><p id=\"1\">b</p></body></html>\r\n",
		"<!--c--><script>if (a < b) </script ><style>x</STYLE><p>&copy;<b>1<i>2</b>3<textarea>\r\n&lt;</textarea></body><!--d-->",
		"<ul><li><a href='?a&copy=1'>x</a><li><object><b>y</object>z</ul><plaintext>a</plaintext>&amp;",
	} {
		list := runesOf(page)
		for n := range len(list) + 1 {
			checkCode(t, shown(list[:n]), list[:n], impl.PgWell)
		}
	}
}

func TestPagesLinesEnds(t *testing.T) {
	for page, want := range map[string]string{
		"a\rb":                           bodyPage("a\nb"),
		"a\r\nb":                         bodyPage("a\nb"),
		"a\nb":                           bodyPage("a\nb"),
		"a\n\rb":                         bodyPage("a\n\nb"),
		"a\r\rb\r\n\r\nc\r":              bodyPage("a\n\nb\n\nc\n"),
		"a\r":                            bodyPage("a\n"),
		"\rx":                            bodyPage("x"),
		"\r\nx":                          bodyPage("x"),
		"<pre>\rx":                       bodyPage("<pre>x</pre>"),
		"<pre>\r\nx":                     bodyPage("<pre>x</pre>"),
		"<pre>\r\rx":                     bodyPage("<pre>\nx</pre>"),
		"<pre>\n\rx":                     bodyPage("<pre>\nx</pre>"),
		"<pre>\r\n\r\nx":                 bodyPage("<pre>\nx</pre>"),
		"<pre>&#10;x":                    bodyPage("<pre>x</pre>"),
		"<pre>&#13;\nx":                  bodyPage("<pre>\r\nx</pre>"),
		"<listing>\r\nx":                 bodyPage("<listing>x</listing>"),
		"<textarea>\r\n\rx</textarea>\r": bodyPage("<textarea>\nx</textarea>\n"),
		"<p\rid=1\r\nclass\r=\r2>":       bodyPage(`<p id="1" class="2"></p>`),
		"<p id='a\r\nb\rc'>":             bodyPage("<p id=\"a\nb\nc\"></p>"),
		"<!--a\rb\r\nc-->":               "<!--a\nb\nc-->" + emptyPage,
		"<!doctype\rx\r\n>":              "<!DOCTYPE x>" + emptyPage,
		"<title>a\r\nb</title\r>":        "<html><head><title>a\nb</title></head><body></body></html>",
		"<script>\r</script\r\n>":        "<html><head><script>\n</script></head><body></body></html>",
		"<plaintext>\r\n\r":              bodyPage("<plaintext>\n\n</plaintext>"),
		"&#13;":                          bodyPage("\r"),
		"&#13;\n":                        bodyPage("\r\n"),
		"a&#xd;&#xa;b":                   bodyPage("a\r\nb"),
		"<p id='&#13;\n'>":               bodyPage("<p id=\"\r\n\"></p>"),
	} {
		checkPageIs(t, page, want)
	}
}

func TestPagesOfWhatIsNoPoint(t *testing.T) {
	for _, x := range []int{0, -1, 55296, 57343, 1114112, math.MaxInt, math.MinInt, 60 + 1<<32, 13 + 1<<32} {
		for page, want := range map[string]string{
			"?":                          bodyPage("\ufffd"),
			"a?b":                        bodyPage("a\ufffdb"),
			" ? ":                        bodyPage("\ufffd "),
			"<?p>":                       bodyPage("&lt;\ufffdp&gt;"),
			"<p?>":                       bodyPage("<p\ufffd></p\ufffd>"),
			"<p ?=1 i?=2>":               bodyPage("<p \ufffd=\"1\" i\ufffd=\"2\"></p>"),
			"<p id=?x>":                  bodyPage("<p id=\"\ufffdx\"></p>"),
			"<p id='?'>":                 bodyPage("<p id=\"\ufffd\"></p>"),
			"<!--?-->":                   "<!--\ufffd-->" + emptyPage,
			"<!doctype ?>":               "<!DOCTYPE \ufffd>" + emptyPage,
			"<title>?</title?></title>?": "<html><head><title>\ufffd&lt;/title\ufffd&gt;</title></head><body>\ufffd</body></html>",
			"<script>?":                  "<html><head><script>\ufffd</script></head><body></body></html>",
			"<plaintext>?":               bodyPage("<plaintext>\ufffd</plaintext>"),
			"&?amp;":                     bodyPage("&amp;\ufffdamp;"),
			"&#?65;":                     bodyPage("&amp;#\ufffd65;"),
			"<pre>?\n":                   bodyPage("<pre>\ufffd\n</pre>"),
		} {
			list := runesOf(page)
			for i := range list {
				if list[i] == '?' {
					list[i] = x
				}
			}
			if tree := checkCode(t, page, list, impl.PgWell); impl.PrintOf(tree) != want {
				t.Errorf("%s with %d is read as %s", page, x, impl.PrintOf(tree))
			}
		}
	}
	for page, want := range map[string]string{"&#0;": "\ufffd", "&#xd800;": "\ufffd", "&#1114112;": "\ufffd", "&#128;": "€", "\x00": "\ufffd"} {
		checkPageIs(t, page, bodyPage(want))
	}
}

// A token that is not TokenOk turns nothing: a char that is the mark, and what begins with one.
func TestPagesWithMarks(t *testing.T) {
	for page, want := range map[string]string{
		"\ufeff":                               emptyPage,
		"\ufeff\ufeff":                         emptyPage,
		"\ufeffx":                              bodyPage("x"),
		"x\ufeffy":                             bodyPage("xy"),
		" \ufeff x":                            bodyPage("x"),
		"\ufeff<!doctype x>":                   "<!DOCTYPE x>" + emptyPage,
		"<!doctype \ufeffx><!doctype y>":       "<!DOCTYPE y>" + emptyPage,
		"<!doctype x\ufeff>":                   "<!DOCTYPE x\ufeff>" + emptyPage,
		"<head>\ufeff</head>":                  emptyPage,
		"<head>\ufeff<link>":                   "<html><head><link></head><body></body></html>",
		"<!--\ufeff-->":                        emptyPage,
		"<!--\ufeffx--><!--y\ufeff-->":         "<!--y\ufeff-->" + emptyPage,
		"<?\ufeff>":                            "<!--?\ufeff-->" + emptyPage,
		"<!\ufeff>":                            emptyPage,
		"<p \ufeff=1 x\ufeff=2>":               bodyPage("<p x\ufeff=\"2\"></p>"),
		"<p a=\ufeff b=x\ufeff c='\ufeffy' d>": bodyPage("<p b=\"x\ufeff\" d=\"\"></p>"),
		"<p\ufeff>x</p\ufeff>y":                bodyPage("<p\ufeff>x</p\ufeff>y"),
		"<\ufeffp>":                            bodyPage("&lt;p&gt;"),
		"&#65279;":                             emptyPage,
		"a&#xFEFF;b":                           bodyPage("ab"),
		"<p id=&#65279;>":                      bodyPage("<p></p>"),
		"<title>\ufeffx\ufeff</title>":         "<html><head><title>x</title></head><body></body></html>",
		"<title>\ufeff</title>":                "<html><head><title></title></head><body></body></html>",
		"<script>a\ufeff</script>":             "<html><head><script>a</script></head><body></body></html>",
		"<plaintext>\ufeff<":                   bodyPage("<plaintext><</plaintext>"),
		"<pre>\ufeff\nx":                       bodyPage("<pre>x</pre>"),
		"<pre>\n\ufeffx":                       bodyPage("<pre>x</pre>"),
		"<textarea>\ufeff\n\n":                 bodyPage("<textarea>\n</textarea>"),
		"</body>\ufeff<!--c-->":                "<html><head></head><body></body><!--c--></html>",
	} {
		if tree := checkTextCode(t, page, impl.PgWell); impl.PrintOf(tree) != want {
			t.Errorf("%q is read as %s", page, impl.PrintOf(tree))
		}
		// One more at the very beginning is left out of the bytes.
		if tree, code := checkBytes(t, []byte("\ufeff"+page)); code != impl.PgWell || impl.PrintOf(tree) != want {
			t.Errorf("%q behind a mark is read as %s, %d", page, impl.PrintOf(tree), code)
		}
	}
	for page, want := range map[string]string{"<p a=\ufeffx>": "<p></p>", "\ufeff<p>": "<p></p>", "\ufeff\ufeff<p>": "<p></p>", "<p>\ufeff": "<p></p>"} {
		if tree, code := checkBytes(t, []byte(page)); code != impl.PgWell || impl.PrintOf(tree) != bodyPage(want) {
			t.Errorf("%q is read as %s, %d", page, impl.PrintOf(tree), code)
		}
	}
}

// Tokens that are too large are left out as well; a text of too many bytes is too large a tree.
func TestPagesWithTokensThatAreTooLarge(t *testing.T) {
	wide := func(n int) string { return strings.Repeat("€", n) }
	for page, want := range map[string]string{
		"<!--" + wide(1000) + "-->x":        "<!--" + wide(1000) + "-->" + bodyPage("x"),
		"<!--" + wide(1001) + "-->x":        bodyPage("x"),
		"<!--" + wide(1001):                 emptyPage,
		"<?" + wide(999) + "a>x":            "<!--?" + wide(999) + "a-->" + bodyPage("x"),
		"<?" + wide(1000) + ">x":            bodyPage("x"),
		"<p a=" + wide(1000) + ">":          bodyPage("<p a=\"" + wide(1000) + "\"></p>"),
		"<p a=" + wide(1001) + " b>":        bodyPage("<p b=\"\"></p>"),
		"<p " + wide(20) + "=1>":            bodyPage("<p " + wide(20) + "=\"1\"></p>"),
		"<p " + wide(21) + "=1>":            bodyPage("<p></p>"),
		"<!doctype " + wide(20) + ">":       "<!DOCTYPE " + wide(20) + ">" + emptyPage,
		"<!doctype " + wide(900) + ">":      "<!DOCTYPE " + wide(20) + ">" + emptyPage,
		"<p" + wide(900) + ">x":             bodyPage("<p" + wide(19) + ">x</p" + wide(19) + ">"),
		wide(1000):                          bodyPage(wide(1000)),
		wide(1000) + "<br>" + wide(1000):    bodyPage(wide(1000) + "<br>" + wide(1000)),
		"<title>" + wide(1000) + "</title>": "<html><head><title>" + wide(1000) + "</title></head><body></body></html>",
	} {
		if tree := checkTextCode(t, page, impl.PgWell); impl.PrintOf(tree) != want {
			t.Errorf("%s is read as %s", short(page), short(impl.PrintOf(tree)))
		}
	}
	for _, page := range []string{
		wide(1001), wide(1000) + "a", wide(999) + "aaaa", "<br>" + wide(1001), wide(1000) + "</>" + "a", "<title>" + wide(1001), "<script>" + wide(1001) + "</script>",
		"<plaintext>" + wide(1001), "<pre>\n" + wide(1001), wide(1001) + "<br>", strings.Repeat("\x00", 1001), strings.Repeat("😀", 751), strings.Repeat("é", 1501),
	} {
		checkTextCode(t, page, impl.PgLarge)
	}
	checkTextCode(t, strings.Repeat("é", 1500), impl.PgWell)
	checkTextCode(t, strings.Repeat("😀", 750), impl.PgWell)
	checkTextCode(t, "<pre>\n"+wide(1000), impl.PgWell)
}

func TestPagesOfMaxPage(t *testing.T) {
	for name, list := range map[string][]int{
		"letters":  repeated(int('x'), 3001),
		"blanks":   repeated(32, 3001),
		"lines":    slices.Repeat([]int{13, 10}, 1501)[:3001],
		"torn":     joined([]int{'<'}, repeated(int('p'), 3000)),
		"closes":   slices.Repeat(runesOf("</p>"), 751)[:3001],
		"nothing":  slices.Repeat(runesOf("</>"), 1001)[:3001],
		"comments": joined(runesOf("<!--"), repeated(int('c'), 2997)),
		"refs":     slices.Repeat(runesOf("&amp;"), 601)[:3001],
		"title":    joined(runesOf("<title>"), repeated(int('t'), 2994)),
		"plain":    joined(runesOf("<plaintext>"), repeated(int('<'), 2990)),
		"marks":    repeated(65279, 3001),
	} {
		checkCode(t, name+" of MaxPage", list[:3000], impl.PgWell)
		checkCode(t, name+" of one more", list, impl.PgLong)
	}
	for _, x := range []int{0, -1, 1114112, 55296, math.MinInt} {
		checkCode(t, "1000 that are no points", repeated(x, 1000), impl.PgWell)
		checkCode(t, "1001 that are no points", repeated(x, 1001), impl.PgLarge)
		checkCode(t, "3000 that are no points", repeated(x, 3000), impl.PgLarge)
		checkCode(t, "3001 that are no points", repeated(x, 3001), impl.PgLong)
	}
	// What is too long is so ahead of all else.
	checkCode(t, "a deep page that is too long", slices.Repeat(runesOf("<div>"), 601), impl.PgLong)
	checkCode(t, "a large page that is too long", slices.Repeat(runesOf("<br>"), 751), impl.PgLong)
	checkCode(t, "a deep page", slices.Repeat(runesOf("<div>"), 600), impl.PgDeep)
	checkCode(t, "a large page", slices.Repeat(runesOf("<br>"), 750), impl.PgLarge)
	for _, n := range []int{3002, 4096, 6000, 100000} {
		checkCode(t, "a longer one", repeated(int('x'), n), impl.PgLong)
		checkCode(t, "a longer one of lines", slices.Repeat([]int{13, 10}, n/2+1), impl.PgLong)
	}
	tree := checkCode(t, "letters", repeated(int('x'), 3000), impl.PgWell)
	if len(tree.Nodes) != 5 || len(tree.Nodes[4].Text) != 3000 {
		t.Error("MaxPage letters are read as", treeText(tree))
	}
}

// Which elements are cut in a way of their own, and whether references count in them.
var textElements = map[string]bool{
	"title": true, "textarea": true, "script": false, "style": false, "noframes": false, "xmp": false, "iframe": false, "noembed": false,
}

func TestPagesCutByWhatIsOpen(t *testing.T) {
	for name, refs := range textElements {
		inner := "a<b>&amp;<!--c--></x></" + name + "x></ " + name + "></b>"
		want := inner
		if refs {
			want = "a&lt;b&gt;&amp;&lt;!--c--&gt;&lt;/x&gt;&lt;/" + name + "x&gt;&lt;/ " + name + "&gt;&lt;/b&gt;"
		}
		element := "<" + name + ">" + want + "</" + name + ">"
		for _, close := range []string{"</" + name + ">", "</" + strings.ToUpper(name) + ">", "</" + name + " x='>'>", "</" + name + "/>", "</" + name + "\r\n>"} {
			checkPageIs(t, "x<"+name+">"+inner+close+"<i>&lt;</i><!--d-->", bodyPage("x"+element+"<i>&lt;</i><!--d-->"))
			checkPageIs(t, "x<"+name+"></x>"+close+"</"+name+">y<"+name+">&am", bodyPage("x<"+name+">"+escapedIf(refs, "</x>")+"</"+name+">y<"+name+">"+escapedIf(refs, "&am")+"</"+name+">"))
		}
		checkPageIs(t, "x<"+name+">"+inner, bodyPage("x"+element))
		checkPageIs(t, "x<"+name+" a=1 />y", bodyPage("x<"+name+` a="1">y</`+name+">"))
		for other := range textElements {
			if other != name {
				want := "x<" + name + ">" + escapedIf(refs, "</"+other+">") + "</" + name + "><" + other + ">" + escapedIf(textElements[other], "</"+name+">") + "</" + other + ">y"
				checkPageIs(t, "x<"+name+"></"+other+"></"+name+"><"+other+"></"+name+"></"+other+">y", bodyPage(want))
			}
		}
	}
}

func escapedIf(escapes bool, s string) string {
	if escapes {
		return expectedEscape(s, false)
	}
	return s
}

func TestPagesWithTextsInTheHead(t *testing.T) {
	for _, name := range wordsOf("title script style noframes") {
		inner := "<p>"
		element := "<" + name + ">" + escapedIf(textElements[name], inner) + "</" + name + ">"
		fedName := "<" + name + ">" + inner
		for page, want := range map[string]string{
			fedName:                                    "<html><head>" + element + "</head><body></body></html>",
			fedName + "</" + name + ">":                "<html><head>" + element + "</head><body></body></html>",
			fedName + "</" + name + "> <p>x":           "<html><head>" + element + " </head><body><p>x</p></body></html>",
			"<head></head>" + fedName:                  "<html><head>" + element + "</head><body></body></html>",
			"</head> " + fedName + "</" + name + "> x": "<html><head>" + element + "</head>  <body>x</body></html>",
			"<body>" + fedName + "</" + name + ">x":    bodyPage(element + "x"),
			"<p>" + fedName + "</" + name + "></p>x":   bodyPage("<p>" + element + "</p>x"),
			"</body>" + fedName:                        bodyPage(element),
		} {
			checkPageIs(t, page, want)
		}
	}
}

func TestPagesOfPlaintext(t *testing.T) {
	for page, want := range map[string]string{
		"<plaintext>a<b></plaintext>&amp;<!--c-->": "<plaintext>a<b></plaintext>&amp;<!--c--></plaintext>",
		"<p>x<plaintext>\n</p>":                    "<p>x</p><plaintext>\n</p></plaintext>",
		"<b><plaintext>x</b>":                      "<b><plaintext>x</b></plaintext></b>",
		"<p><b></p><plaintext><":                   "<p><b></b></p><plaintext><b>&lt;</b></plaintext>",
		"<div><plaintext></div></body></html>":     "<div><plaintext></div></body></html></plaintext></div>",
		"<PLAINTEXT/>x":                            "<plaintext>x</plaintext>",
		"<textarea><plaintext></textarea><b>":      "<textarea>&lt;plaintext&gt;</textarea><b></b>",
	} {
		checkPageIs(t, page, bodyPage(want))
	}
	checkPageIs(t, "<title><plaintext></title><plaintext></title>", "<html><head><title>&lt;plaintext&gt;</title></head><body><plaintext></title></plaintext></body></html>")
}

// Each page has a node by each piece; 4 stand there anyway.
func TestPagesOfMaxNodes(t *testing.T) {
	for _, x := range []struct{ ahead, piece string }{
		{"", "<br>"}, {"", "<hr>"}, {"", "<p>"}, {"", "<li>"}, {"", "<h1>"}, {"", "</br>"}, {"x", "</p>"}, {"", "<meta>"}, {"", "<link>"}, {"", "<?>"}, {"", "<!>"}, {"<p>", "<!>"},
	} {
		for n, code := range map[int]int{495: impl.PgWell, 496: impl.PgWell, 497: impl.PgLarge, 499: impl.PgLarge} {
			count := n
			if x.ahead != "" {
				count--
			}
			page := x.ahead + strings.Repeat(x.piece, count)
			if tree := checkTextCode(t, page, code); code == impl.PgWell && len(tree.Nodes) != 4+n {
				t.Errorf("%d nodes of %s: there are %d", n, x.piece, len(tree.Nodes))
			}
		}
	}
	// Too many ahead of html, and the last ones of all that are there anyway.
	for n := 497; n <= 1000; n += 101 {
		checkTextCode(t, strings.Repeat("<!>", n), impl.PgLarge)
	}
	for page, n := range map[string]int{
		"x": 1, "<br>": 1, "<!--c-->": 1, "<!doctype x>": 0, "</p>": 1, "</br>": 1, "<html id=1>": 0, "<body id=1>": 0, "<head>": 0, "</b>": 0, "xyz": 1,
		"x<br>y": 3, "<p>x</p>y": 3, "<title>x</title>": 2, "<title></title>": 1, "<b><i>x</b>y": 5, "<b>x<p>y</b>z": 6, "<b><i><u><p>x</b>": 8,
		"<textarea>\n": 1, "<pre>\n": 1, "<p><b></p>x": 4, "\ufeff": 0, "</body> ": 1, "</html><!--c-->": 1, "<a>x<a>y": 4, "</>": 0, "<p": 0,
	} {
		for room := range n + 2 {
			list := joined(slices.Repeat(runesOf("<br>"), 496-room), runesOf(page))
			code := impl.PgWell
			if room < n {
				code = impl.PgLarge
			}
			if tree := checkCode(t, page, list, code); code == impl.PgWell && len(tree.Nodes) != 500-room+n {
				t.Errorf("%s with room for %d: %d nodes", page, room, len(tree.Nodes))
			}
		}
	}
}

// Where an adoption has no room for all that it needs, the page is too large, though its tree has not yet MaxNodes.
func TestPagesTooLargeThoughTheirTreesHaveFewer(t *testing.T) {
	for page, needs := range map[string]int{"<b>x<p></b>": 1, "<b><i>x<p></b>": 2, "<b><i><u>x<p></b>": 3, "<b><i><u><s>x<p></b>": 4, "<b><i><u><s><tt>x<p></b>": 4} {
		at := strings.LastIndex(page, "</")
		for room := range needs + 1 {
			full := slices.Repeat(runesOf("<br>"), 496-room-strings.Count(page[:at], "<")-1)
			list := joined(full, runesOf(page))
			b := saidBuild(list)
			code := impl.PgWell
			if room < needs {
				code = impl.PgLarge
				if n := len(impl.TreeTidy(b.Tree).Nodes); n != 500-room || b.Code != impl.BdLarge {
					t.Errorf("%s with room for %d: %d nodes, code %d", page, room, n, b.Code)
				}
			}
			checkCode(t, page, list, code)
			checkCode(t, page, joined(list, runesOf("</p></b>")), code)
		}
	}
}

func TestPagesOfMaxStack(t *testing.T) {
	for _, piece := range []string{"<div>", "<b>", "<i id=1>", "<ul>", "<table>", "<object>", "<span>", "<x>", "<div/>", "<ul><li>", "<td><p>"} {
		count := strings.Count(piece, "<")
		for n := 36 / count; n*count <= 46; n++ {
			code := impl.PgWell
			if n*count > 38 {
				code = impl.PgDeep
			}
			page := strings.Repeat(piece, n)
			if tree := checkTextCode(t, page, code); code == impl.PgWell && len(tree.Nodes) != 4+n*count {
				t.Errorf("%d of %s: %d nodes", n, piece, len(tree.Nodes))
			}
			if code == impl.PgDeep {
				checkTextCode(t, page+"</div></b></i></ul></table></object></span></x>", impl.PgDeep)
			}
		}
	}
	full := strings.Repeat("<div>", 38)
	for page, code := range map[string]int{
		"": impl.PgWell, "x": impl.PgWell, "<br>": impl.PgWell, "<!--c-->": impl.PgWell, "<link>": impl.PgWell, "<html a=1><body b=2>": impl.PgWell, "</div><p>": impl.PgWell,
		"</div></div><p><b>x": impl.PgWell, "</br>": impl.PgWell, "<hr><img>": impl.PgWell, "</body>": impl.PgWell, "<head>": impl.PgWell, "<p": impl.PgWell,
		"</div><p><div>": impl.PgWell, "</div><p><p><p>": impl.PgWell, "</div><li><li>": impl.PgWell,
		"<p>": impl.PgDeep, "<b>": impl.PgDeep, "<title>": impl.PgDeep, "<script>x</script>": impl.PgDeep, "</p>": impl.PgDeep, "<textarea>": impl.PgDeep, "<plaintext>": impl.PgDeep,
		"<div></div>": impl.PgDeep, "</div><p><b>": impl.PgDeep, "</div><b></div>x": impl.PgWell, "</div><b></div><div>x": impl.PgWell, "</div><b></div><div><div>x": impl.PgDeep,
	} {
		checkTextCode(t, full+page, code)
	}
	// Formats that are begun anew need room in the row, too.
	for n := 34; n <= 39; n++ {
		code := impl.PgWell
		if n > 36 {
			code = impl.PgDeep
		}
		checkTextCode(t, "<p><b><i></p>"+strings.Repeat("<div>", n)+"x", code)
	}
	checkTextCode(t, strings.Repeat("<div></div>", 150), impl.PgWell)
	checkTextCode(t, strings.Repeat("<p>", 400), impl.PgWell)
}

// What went wrong first counts; an element that finds no room in the tree is not even asked for the row.
func TestPagesThatAreLargeAndDeep(t *testing.T) {
	deepest, more := strings.Repeat("<div>", 38), func(n int) string { return strings.Repeat("<br>", n) }
	for page, code := range map[string]int{
		deepest + "<div>" + more(600):           impl.PgDeep,
		more(496) + deepest:                     impl.PgLarge,
		more(497) + deepest + "<div>":           impl.PgLarge,
		deepest + more(458):                     impl.PgWell,
		deepest + more(459):                     impl.PgLarge,
		deepest + more(458) + "<div>":           impl.PgLarge,
		deepest + more(457) + "<div>":           impl.PgDeep,
		deepest + more(457) + "<div><br>":       impl.PgDeep,
		deepest + more(457) + "x":               impl.PgWell,
		deepest + more(457) + "<title>":         impl.PgDeep,
		deepest + more(458) + "<title>":         impl.PgLarge,
		strings.Repeat("<div>", 600):            impl.PgDeep,
		strings.Repeat("<br>", 750):             impl.PgLarge,
		strings.Repeat("<b>", 1000):             impl.PgDeep,
		strings.Repeat("<a>", 1000):             impl.PgLarge,
		strings.Repeat("<p><b></p>", 300):       impl.PgLarge,
		strings.Repeat("<i>x<p>", 428):          impl.PgLarge,
		strings.Repeat("x", 2000) + deepest:     impl.PgWell,
		strings.Repeat("</p>", 600) + "<p></p>": impl.PgWell,
	} {
		if len(page) <= 3000 {
			checkTextCode(t, page, code)
		}
	}
}

// A format that is begun anew has all its Attrs again: such a tree may need more bytes than there may be.
func TestPagesThatDoNotPack(t *testing.T) {
	well, packs := 0, 0
	for _, size := range []int{10, 150, 180, 200, 1500, 2000} {
		page := "<p><b t=" + strings.Repeat("v", size) + "></p>" + strings.Repeat("<p>x</p>", 100)
		tree := checkTextCode(t, page, impl.PgWell)
		packed, ok := checkPack(t, tree)
		if len(tree.Nodes) != 6+3*100 || impl.PageCount(tree, "b") != 101 {
			t.Errorf("formats with %d bytes: %d nodes", size, len(tree.Nodes))
		}
		well++
		if ok {
			packs++
		}
		if ok != (size <= 180) || ok && len(packed) > impl.MaxPacked {
			t.Errorf("formats with %d bytes pack to %d, %v", size, len(packed), ok)
		}
	}
	if packs == 0 || packs == well {
		t.Errorf("%d of %d pages pack", packs, well)
	}
}

func TestParsePageBytes(t *testing.T) {
	for page, want := range map[string]string{
		"\xff":                         bodyPage("\ufffd"),
		"\x80\x80":                     bodyPage("\ufffd\ufffd"),
		"a\xc3":                        bodyPage("a\ufffd"),
		"\xc3a":                        bodyPage("\ufffda"),
		"\xe2\x82":                     bodyPage("\ufffd"),
		"\xe2\x82<p>":                  bodyPage("\ufffd<p></p>"),
		"\xe2<p>":                      bodyPage("\ufffd<p></p>"),
		"\xf0\x9f\x98<b>\x98":          bodyPage("\ufffd<b>\ufffd</b>"),
		"\xed\xa0\x80":                 bodyPage("\ufffd\ufffd\ufffd"),
		"\xc0\xbcp>":                   bodyPage("\ufffd\ufffdp&gt;"),
		"<p\xff>":                      bodyPage("<p\ufffd></p\ufffd>"),
		"<p \xff=\xfe>":                bodyPage("<p \ufffd=\"\ufffd\"></p>"),
		"<p id='\xe2\x82'>":            bodyPage("<p id=\"\ufffd\"></p>"),
		"<!--\xe2\x82-->":              "<!--\ufffd-->" + emptyPage,
		"<!--\xe2\x82\xac-->":          "<!--€-->" + emptyPage,
		"<!doctype \xff>":              "<!DOCTYPE \ufffd>" + emptyPage,
		"<title>\xc3\xa9\xc3</title>x": "<html><head><title>é\ufffd</title></head><body>x</body></html>",
		"<\xc3>":                       bodyPage("&lt;\ufffd&gt;"),
		"&\xffamp;":                    bodyPage("&amp;\ufffdamp;"),
		"\xef\xbb\xbf<p>":              bodyPage("<p></p>"),
		"\xef\xbb\xbf\r\n<p>":          bodyPage("<p></p>"),
		"\xef\xbb":                     bodyPage("\ufffd"),
		"\xef\xbb<p>":                  bodyPage("\ufffd<p></p>"),
		"\xef\xbb\xbf\xef\xbb":         bodyPage("\ufffd"),
		"x\xef\xbb\xbfy":               bodyPage("xy"),
		"\xff\xef\xbb\xbf":             bodyPage("\ufffd"),
		"\x00":                         bodyPage("\ufffd"),
		"\xfe\xff\x00<":                bodyPage("\ufffd\ufffd\ufffd&lt;"),
	} {
		tree, code := checkBytes(t, []byte(page))
		if got := impl.PrintOf(tree); code != impl.PgWell || got != want {
			t.Errorf("%q is read as %s, %d, want %s", page, got, code, want)
		}
	}
	for x := range 256 {
		for _, page := range []string{"?", "a?b", "<?>", "<p?>", "<p a=?>", "<!?>", "<!--?-->", "&?", "</?>", "<title>?</title>", "\xe2?", "?\x82\xac", "\xef\xbb?"} {
			if _, code := checkBytes(t, bytes.ReplaceAll([]byte(page), []byte("?"), []byte{byte(x)})); code != impl.PgWell {
				t.Errorf("%q with the byte %d: code %d", page, x, code)
			}
		}
	}
}

func TestParsePageMaxPage(t *testing.T) {
	mark := "\xef\xbb\xbf"
	for _, c := range []struct {
		page string
		code int
	}{
		{strings.Repeat("x", 3000), impl.PgWell},
		{strings.Repeat("x", 3001), impl.PgLong},
		{strings.Repeat(" ", 3001), impl.PgLong},
		{strings.Repeat("x", 100000), impl.PgLong},
		{mark + strings.Repeat("x", 2997), impl.PgWell},
		{mark + strings.Repeat("x", 2998), impl.PgLong},
		{mark + strings.Repeat("x", 3000), impl.PgLong},
		{strings.Repeat(mark, 1000), impl.PgWell},
		{strings.Repeat(mark, 1001), impl.PgLong},
		{strings.Repeat("€", 1000), impl.PgWell},
		{strings.Repeat("€", 1000) + "x", impl.PgLong},
		{strings.Repeat("😀", 750), impl.PgWell},
		{strings.Repeat("😀", 751), impl.PgLong},
		{strings.Repeat("\r\n", 1500), impl.PgWell},
		{strings.Repeat("\r\n", 1501), impl.PgLong},
		{strings.Repeat("\xff", 1000), impl.PgWell},
		{strings.Repeat("\xff", 1001), impl.PgLarge},
		{strings.Repeat("\xff", 3000), impl.PgLarge},
		{strings.Repeat("\xff", 3001), impl.PgLong},
		{strings.Repeat("\xe2\x82", 1000), impl.PgWell},
		{strings.Repeat("\xe2\x82", 1001), impl.PgLarge},
		{strings.Repeat("<div>", 600), impl.PgDeep},
		{strings.Repeat("<div>", 601), impl.PgLong},
		{strings.Repeat("<br>", 750), impl.PgLarge},
		{strings.Repeat("<br>", 751), impl.PgLong},
		{strings.Repeat("<div>", 38), impl.PgWell},
		{strings.Repeat("<div>", 39), impl.PgDeep},
		{strings.Repeat("<br>", 496), impl.PgWell},
		{strings.Repeat("<br>", 497), impl.PgLarge},
	} {
		tree, code := checkBytes(t, []byte(c.page))
		if code != c.code || (code == impl.PgWell) != (len(tree.Nodes) > 0) {
			t.Errorf("%s: code %d and %d nodes, want code %d", short(c.page), code, len(tree.Nodes), c.code)
		}
	}
}

// What is printed of pages of ordinary elements is read as the same tree again.
func TestPrintedPagesAreReadAgain(t *testing.T) {
	for _, page := range []string{
		"", "x", "<!doctype html><p>a<p>b", "<b>1<p>2</b>3", "<ul><li>a<li>b</ul>c", "<title>a&lt;&amp;</title><p id='\"&lt;'>x", "<h1>a<h2>b", "<!--c--><div>x<!--d--></div>",
		"<script>a<b</script>x", "<textarea>&lt;b></textarea>", "a&nbsp;b<br><hr>", "<dl><dt>a<dd>b</dl>", "<button>a<button>b",
	} {
		tree := checkTextCode(t, page, impl.PgWell)
		again := checkTextCode(t, impl.PrintOf(tree), impl.PgWell)
		if !impl.TreeSame(tree, again) {
			t.Errorf("%s prints as %s, which is read as %s", page, impl.PrintOf(tree), impl.PrintOf(again))
		}
	}
}

// A row of pieces of a page, as the bytes tell.
func madePage(steps []byte) []int {
	names := wordsOf("p b i a div li ul nobr h1 h2 button table object dd dt option pre textarea title script style br hr span html head body plaintext xmp link")
	pieces := []string{
		"x", " ", "\r", "\r\n", "\n", "&amp;", "&am", "&#65279;", "&#0;", "<", "</", "</>", "<!--", "-->", "<!-- c -->", "<!doctype x>", "<?", ">", "\"", "'", "=", "/", "é", "€", "😀", "\ufeff",
	}
	list := []int{}
	for i := 0; i+1 < len(steps); i += 2 {
		name := names[int(steps[i+1])%len(names)]
		switch how := steps[i] % 16; {
		case how < 6:
			list = append(list, runesOf("<"+name+">")...)
		case how < 8:
			list = append(list, runesOf("<"+name+" id="+strconv.Itoa(int(steps[i])%5)+" href='&lt;'>")...)
		case how < 12:
			list = append(list, runesOf("</"+name+">")...)
		case how < 15:
			list = append(list, runesOf(pieces[int(steps[i+1])%len(pieces)])...)
		default:
			list = append(list, []int{0, -1, 65279, 55296, 1114112, 13, 60, 38, math.MaxInt, int(steps[i+1])}[int(steps[i+1])%10])
		}
	}
	return list
}

func checkMadePage(t *testing.T, steps []byte) int {
	t.Helper()
	list := madePage(steps)
	tree, code := checkPoints(t, list)
	checkBytes(t, impl.PointsPut(list))
	checkBytes(t, steps)
	if code == impl.PgWell {
		checkFound(t, tree)
	}
	return code
}

func TestManyMadePages(t *testing.T) {
	codes := map[int]int{}
	for seed := range uint32(150) {
		codes[checkMadePage(t, manySteps(seed+2000, 4+int(seed%40)))]++
	}
	for seed := range uint32(20) {
		codes[checkMadePage(t, manySteps(seed+3000, 500+int(seed)*40))]++
	}
	if codes[impl.PgWell] < 100 {
		t.Error("the codes of the pages are", codes)
	}
}

// Few pieces, one behind the other in each order.
func TestEachRowOfFewPieces(t *testing.T) {
	pieces := []string{"x", " ", "<!--c-->", "<!doctype d>", "<html a=1>", "<head>", "<title>", "<p>", "<b>", "<pre>", "\n", "</title>", "</p>", "</b>", "</body>", "<textarea>", "<plaintext>", "&lt;", "<"}
	eachNumbers(3, 0, len(pieces)-1, func(picks []int) {
		page := ""
		for _, pick := range picks {
			page += pieces[pick]
		}
		list := runesOf(page)
		want, wantCode := saidPage(list)
		got, code := impl.ParsePoints(list)
		if code != wantCode || code != impl.PgWell || !sameTree(got, want) {
			t.Errorf("%s is read as %s, %d, want %s, %d", page, treeText(got), code, treeText(want), wantCode)
		}
		checkPromised(t, page, got)
	})
}

// expectedElements goes over the nodes one by one.
func expectedElements(tree impl.Tree, name string) []impl.Node {
	found := []impl.Node{}
	if !treeFits(tree) {
		return found
	}
	for _, n := range tree.Nodes {
		if n.Kind == 3 && n.Name == name {
			found = append(found, n)
		}
	}
	return found
}

func expectedTitle(tree impl.Tree) string {
	if !treeFits(tree) {
		return ""
	}
	at := slices.IndexFunc(tree.Nodes, func(n impl.Node) bool { return n.Kind == 3 && n.Name == "title" })
	return expectedText(tree, at)
}

func expectedLinks(tree impl.Tree) []string {
	links := []string{}
	for _, n := range expectedElements(tree, "a") {
		for _, a := range n.Attrs {
			if a.Name == "href" {
				links = append(links, a.Value)
			}
		}
	}
	return links
}

// checkFound asks for all that is found in a tree, and that all memory is its own.
func checkFound(t *testing.T, tree impl.Tree) {
	t.Helper()
	g := guardTree(tree)
	wantTitle, wantLinks := expectedTitle(tree), expectedLinks(tree)
	if got := impl.PageTitle(g.arg); got != wantTitle {
		t.Errorf("PageTitle(%s) = %s, want %s", treeText(tree), short(got), short(wantTitle))
	}
	links := impl.PageLinks(g.arg)
	second := impl.PageLinks(g.arg)
	if !slices.Equal(links, wantLinks) {
		t.Errorf("PageLinks(%s) = %q, want %q", treeText(tree), links, wantLinks)
	}
	overwrite(links, "filled")
	for _, name := range []string{"a", "p", "b", "html", "title", "x", "", "A", "a ", "href", "zz"} {
		if got, want := impl.PageCount(g.arg, name), len(expectedElements(tree, name)); got != want {
			t.Errorf("PageCount(%s, %q) = %d, want %d", treeText(tree), name, got, want)
		}
	}
	if !g.untouched() {
		t.Errorf("what is found in %s is written into", treeText(tree))
	}
	fillTree(g.arg)
	if !slices.Equal(second, wantLinks) {
		t.Errorf("PageLinks(%s): a second answer shares memory with the first one or with the argument", treeText(tree))
	}
}

func checkFoundIs(t *testing.T, tree impl.Tree, title string, links ...string) {
	t.Helper()
	checkFound(t, tree)
	if !impl.TreeOk(tree) || impl.PageTitle(tree) != title || !slices.Equal(impl.PageLinks(tree), links) {
		t.Errorf("of %s are told %s and %q, want %s and %q", treeText(tree), short(impl.PageTitle(tree)), impl.PageLinks(tree), short(title), links)
	}
}

func TestPageTitle(t *testing.T) {
	for page, want := range map[string]string{
		"":                                      "",
		"x":                                     "",
		"<title>":                               "",
		"<title></title>":                       "",
		"<title>x</title>":                      "x",
		"<title> x\r\n</title>":                 " x\n",
		"<title>a&amp;b&lt;<b></title>":         "a&b<<b>",
		"<title>1</title><title>2</title>":      "1",
		"<title></title><title>2</title>":       "",
		"<p>x<title>y</title>":                  "y",
		"<p>x<title>y":                          "y",
		"<title>1</title><p><title>2":           "1",
		"<!doctype title>x":                     "",
		"<TITLE>x</Title>":                      "x",
		"<titles>x</titles>":                    "",
		"<p title=x>":                           "",
		"<script><title>x</title></script>":     "",
		"<textarea><title>x</title></textarea>": "",
		"<body></body><title>x":                 "x",
		"</head><title>x</title>":               "x",
		"<title>\ufeff</title>":                 "",
	} {
		tree := checkTextCode(t, page, impl.PgWell)
		checkFound(t, tree)
		if got := impl.PageTitle(tree); got != want {
			t.Errorf("the title of %s is %q, want %q", page, got, want)
		}
	}
	long := strings.Repeat("t", 2993)
	checkFoundIs(t, checkTextCode(t, "<title>"+long, impl.PgWell), long)
}

func TestPageTitleOfAnyTree(t *testing.T) {
	checkFoundIs(t, impl.TreeNew(), "")
	// The first by its number counts, though it stands behind the other one, or below none.
	checkFoundIs(t, treeOf(pageNode(3, 1), elementNode("title", 0, 2), textNode("one", 1), elementNode("title", 0, 4), textNode("two", 3)), "one")
	checkFoundIs(t, treeOf(pageNode(3), elementNode("title", -1, 2), textNode("away", 1), elementNode("title", 0, 4), textNode("two", 3)), "away")
	checkFoundIs(t, treeOf(pageNode(2), elementNode("title", -1), elementNode("title", 0, 3), textNode("two", 2)), "")
	checkFoundIs(t, treeOf(pageNode(), elementNode("p", -1, 2), elementNode("title", 1, 3), textNode("deep", 2)), "deep")
	// All texts below it, in the order of Kids, and nothing else.
	checkFoundIs(t, treeOf(pageNode(1), elementNode("title", 0, 5, 2, 3), textNode("b", 1), elementNode("b", 1, 4), textNode("c", 3), textNode("a", 1), textNode("x", -1)), "abc")
	checkFoundIs(t, treeOf(pageNode(1), elementNode("title", 0, 2, 3, 5), commentNode("c", 1), elementNode("title", 1, 4), textNode("in", 3), textNode("out", 1)), "inout")
	checkFoundIs(t, treeOf(pageNode(1, 2), doctypeNode("title", 0), elementNode("p", 0, 3), textNode("x", 2)), "")
	checkFoundIs(t, treeOf(pageNode(1, 2), textNode("title", 0), commentNode("title", 0)), "")
	checkFoundIs(t, treeOf(pageNode(1, 2), withAttrs(elementNode("p", 0), impl.Attr{Name: "title", Value: "x"}), textNode("y", 0)), "")
	full := manyNodes(500, belowPage)
	full.Nodes[498].Name = "title"
	full.Nodes[498].Kids, full.Nodes[0].Kids = []int{499}, full.Nodes[0].Kids[:498]
	full.Nodes[499] = textNode("last", 498)
	checkFoundIs(t, full, "last")
	deepest := manyNodes(500, belowTheLast)
	deepest.Nodes[1].Name = "title"
	deepest.Nodes[499] = textNode("far", 498)
	checkFoundIs(t, deepest, "far")
}

func TestPageLinks(t *testing.T) {
	for page, want := range map[string][]string{
		"":                                     nil,
		"<a>x</a>":                             nil,
		"<a href>":                             {""},
		"<a href=''>":                          {""},
		"<a href=1>":                           {"1"},
		"<A HREF=X>":                           {"X"},
		"<a href=1 href=2>":                    {"1"},
		"<a id=0 href=1 class=2>":              {"1"},
		"<a name=x>":                           nil,
		"<a hrefs=1>":                          nil,
		"<link href=1><base href=2><p href=3>": nil,
		"<a href=1>x</a><a href=2>y</a>":       {"1", "2"},
		"<a href=1><a><a href=3>":              {"1", "3"},
		"<a href=1>x<a href=1>":                {"1", "1"},
		"<a href='?a=1&amp;b=2&copy=3'>":       {"?a=1&b=2&copy=3"},
		"<a href='a b'>":                       {"a b"},
		"<p><a href=2></p><a href=1>":          {"2", "1"},
		"<a href=1>x<p>y</a>":                  {"1", "1"},
		"<title><a href=1></title>":            nil,
		"<!--<a href=1>-->":                    nil,
		"<abbr href=1><aa href=2>":             nil,
		"<!doctype a href=1>":                  nil,
		"<a href=\ufeff1>":                     nil,
		"<div><p><a href=1></div><a href=2>":   {"1", "2"},
	} {
		tree := checkTextCode(t, page, impl.PgWell)
		checkFound(t, tree)
		if got := impl.PageLinks(tree); !slices.Equal(got, want) {
			t.Errorf("the links of %s are %q, want %q", page, got, want)
		}
	}
}

func link(href string, parent int, kids ...int) impl.Node {
	return withAttrs(elementNode("a", parent, kids...), impl.Attr{Name: "id", Value: "x"}, impl.Attr{Name: "href", Value: href}, impl.Attr{Name: "Href", Value: "no"})
}

func TestPageLinksOfAnyTree(t *testing.T) {
	// By their numbers, not as they stand in the page; also below none.
	checkFoundIs(t, treeOf(pageNode(3, 1), link("1", 0), link("2", -1), link("3", 0, 4), link("4", 3)), "", "1", "2", "3", "4")
	checkFoundIs(t, treeOf(pageNode(1), elementNode("a", 0)), "")
	checkFoundIs(t, treeOf(pageNode(1, 2), withAttrs(elementNode("b", 0), impl.Attr{Name: "href", Value: "1"}), link("", 0)), "", "")
	checkFoundIs(t, treeOf(pageNode(1, 2, 3), doctypeNode("a", 0), textNode("a", 0), withAttrs(elementNode("a", 0), impl.Attr{Name: "HREF", Value: "1"})), "")
	checkFoundIs(t, treeOf(pageNode(), withAttrs(elementNode("a", -1), append(manyAttrs(19), impl.Attr{Name: "href", Value: strings.Repeat("h", 3000)})...)), "", strings.Repeat("h", 3000))
	many := []impl.Node{pageNode()}
	want := []string{}
	for i := 1; i < 500; i++ {
		many = append(many, link(strconv.Itoa(i%7), 0))
		want = append(want, strconv.Itoa(i%7))
	}
	checkFoundIs(t, linked(many), "", want...)
}

func TestPageCount(t *testing.T) {
	tree := checkTextCode(t, "<!doctype x><title>t</title><p>a<p><b>b</b><b></b><x-y id=p><!--q-->", impl.PgWell)
	for name, want := range map[string]int{
		"html": 1, "head": 1, "body": 1, "title": 1, "p": 2, "b": 2, "x-y": 1, "x": 0, "": 0, "P": 0, "p ": 0, " p": 0, "q": 0, "t": 0, "id": 0, "a": 0, "x-": 0, "\xff": 0,
		strings.Repeat("p", 60): 0, strings.Repeat("p", 5000): 0,
	} {
		if got := impl.PageCount(tree, name); got != want {
			t.Errorf("PageCount of %s = %d, want %d", short(name), got, want)
		}
	}
	only := treeOf(pageNode(1, 2), doctypeNode("dt", 0), doctypeNode("", 0), elementNode("p", -1), elementNode("p", -1, 5), elementNode("p", 4))
	for name, want := range map[string]int{"dt": 0, "": 0, "p": 3} {
		if got := impl.PageCount(only, name); got != want {
			t.Errorf("PageCount of %q = %d, want %d", name, got, want)
		}
	}
	if got := impl.PageCount(impl.TreeNew(), ""); got != 0 {
		t.Error("PageCount of a page alone is", got)
	}
	many := manyNodes(500, belowPage)
	for i := 1; i < 500; i++ {
		many.Nodes[i].Name = strings.Repeat("n", 60)
	}
	if got := impl.PageCount(many, strings.Repeat("n", 60)); got != 499 {
		t.Error("PageCount of 499 is", got)
	}
}

// In a tree that is not right nothing is found, whatever there is in it.
func TestNothingIsFoundInAWrongTree(t *testing.T) {
	full := treeOf(pageNode(1, 3), elementNode("title", 0, 2), textNode("x", 1), link("1", 0))
	checkFoundIs(t, full, "x", "1")
	wrong := append(wrongTrees(),
		with(full, 1, func(n *impl.Node) { n.Kids = []int{2, 2} }),
		with(full, 2, func(n *impl.Node) { n.Text = "\xff" }),
		with(full, 3, func(n *impl.Node) { n.Parent = -1 }),
		with(full, 3, func(n *impl.Node) { n.Attrs = append(n.Attrs, n.Attrs[1]) }),
		with(full, 3, func(n *impl.Node) { n.Attrs[1].Value = "\xff" }),
		with(full, 0, func(n *impl.Node) { n.Kind = 0 }),
		with(full, 0, func(n *impl.Node) { n.Kids = []int{1, 3, 4} }),
		with(full, 1, func(n *impl.Node) { n.Parent, n.Kids = 1, []int{1, 2} }),
		treeOf(full.Nodes[1:]...),
	)
	for _, tree := range wrong {
		checkFound(t, tree)
		if impl.TreeOk(tree) || impl.PageTitle(tree) != "" || len(impl.PageLinks(tree)) != 0 {
			t.Errorf("in %s is found %q, %q", treeText(tree), impl.PageTitle(tree), impl.PageLinks(tree))
		}
		for _, name := range wordsOf("a title p b i u html") {
			if got := impl.PageCount(tree, name); got != 0 {
				t.Errorf("PageCount(%s, %s) = %d", treeText(tree), name, got)
			}
		}
	}
	large := manyNodes(501, belowPage)
	for i := 1; i < 501; i++ {
		large.Nodes[i].Name = "p"
	}
	if got := impl.PageCount(large, "p"); got != 0 {
		t.Error("in a tree that is too large are", got)
	}
}

func TestFoundInMadeTrees(t *testing.T) {
	for _, tree := range append(packTrees(), sampleTree(), fullTree()) {
		checkFound(t, tree)
	}
	for seed := range uint32(30) {
		b := madeBuild(manySteps(seed+500, 60))
		checkFound(t, b.Tree)
	}
}

// No call keeps anything for the next one.
func TestPagesOneBehindTheOther(t *testing.T) {
	pages := []string{"<title>", "<plaintext>", "<pre>", strings.Repeat("<div>", 39), strings.Repeat("<br>", 497), "<b><i>", strings.Repeat("x", 3001), "</body>", "\nx", ""}
	for _, first := range pages {
		for _, second := range pages {
			impl.ParsePage([]byte(first))
			got, code := impl.ParsePage([]byte(second))
			want, wantCode := impl.Tree{}, impl.PgLong
			if len(second) <= 3000 {
				want, wantCode = saidPage(runesOf(second))
			}
			if code != wantCode || !sameTree(got, want) {
				t.Errorf("%s behind %s is read as %s, %d", short(second), short(first), treeText(got), code)
			}
		}
	}
}

func TestPagesAskedByManyAtOnce(t *testing.T) {
	pages := []string{"", "<title>a&amp;</title><a href=1>x<a href=2>y", "<b>1<p>2</b>3", strings.Repeat("<div>", 39), strings.Repeat("<br>", 497), "<pre>\r\n<plaintext><"}
	var all sync.WaitGroup
	for range 8 {
		all.Go(func() {
			for _, page := range pages {
				want, wantCode := saidPage(runesOf(page))
				got, code := impl.ParsePage([]byte(page))
				if code != wantCode || !sameTree(got, want) || code == impl.PgWell && impl.PageTitle(got) != expectedTitle(want) {
					t.Errorf("%s is read as %s, %d", short(page), treeText(got), code)
				}
			}
		})
	}
	all.Wait()
}

func FuzzPage(f *testing.F) {
	for seed := range uint32(8) {
		f.Add(manySteps(seed, 60), "<title>a&amp;</title><p><b>x</p>", "a", 13, 65279)
	}
	f.Fuzz(func(t *testing.T, steps []byte, page string, name string, x int, y int) {
		if len(steps) > 200 || len(page) > 400 {
			return
		}
		checkMadePage(t, steps)
		checkBytes(t, []byte(page))
		checkPoints(t, joined(runesOf(page), []int{x, y}))
		checkPoints(t, joined([]int{x}, runesOf(page), []int{y, 10}))
		tree, _ := impl.ParsePage([]byte(page))
		if got, want := impl.PageCount(tree, name), len(expectedElements(tree, name)); got != want {
			t.Errorf("PageCount(%s, %q) = %d, want %d", treeText(tree), name, got, want)
		}
	})
}
