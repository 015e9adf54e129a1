package tests

import (
	"math"
	"slices"
	"strconv"
	"strings"
	"sync"
	"testing"

	"loop.example/g00118/impl"
)

// A taking goes by the sentences of the document, one behind the other; where something goes wrong, it stops at once.
type taking struct {
	impl.Build
}

type wentWrong struct{}

func expectedTaken(b impl.Build, token impl.Token) (after impl.Build) {
	x := &taking{cloneBuild(b)}
	if !buildFits(b) || !tokenFits(token) || b.Code != 0 {
		return x.Build
	}
	defer func() {
		if r := recover(); r != nil {
			if _, stopped := r.(wentWrong); !stopped {
				panic(r)
			}
			after = x.Build
		}
	}()
	skips := x.Skip
	x.Skip = false
	if !skips || !sameToken(token, char("\n")) {
		x.by(token)
	}
	return x.Build
}

// keyOf tells what a token is in one word: "blank", "char", "comment", "doctype", "end", "<p" or "/p".
func keyOf(token impl.Token) string {
	switch token.Kind {
	case 1:
		return "end"
	case 2:
		if strings.Contains("\t\n\f ", token.Text) {
			return "blank"
		}
		return "char"
	case 3:
		return "comment"
	case 4:
		return "doctype"
	case 5:
		return "<" + token.Name
	}
	return "/" + token.Name
}

func among(key string, words string) bool {
	return slices.Contains(wordsOf(words), key)
}

func closeBut(key string, words string) bool {
	return key[0] == '/' && !among(key, words)
}

func (x *taking) stopIfWrong() {
	if x.Code != 0 {
		panic(wentWrong{})
	}
}

func (x *taking) current() int {
	if len(x.Row) == 0 {
		return 0
	}
	return x.Row[len(x.Row)-1]
}

func (x *taking) putBelow(n impl.Node, parent int) {
	tree, at := impl.TreeAdd(x.Tree, n)
	if at == -1 {
		x.Code = 1
		x.stopIfWrong()
	}
	x.Tree = tree
	x.Build = toldToHang(x.Build, at, parent)
}

func (x *taking) put(name string, attrs []impl.Attr) {
	x.putBelow(impl.Node{Kind: 3, Name: name, Attrs: attrs}, x.current())
}

func (x *taking) putStays(name string, attrs []impl.Attr) {
	x.Build, _ = putOpen(x.Build, impl.Node{Kind: 3, Name: name, Attrs: attrs})
	x.stopIfWrong()
}

func (x *taking) putComment(token impl.Token) {
	x.putBelow(commentNode(token.Text, 0), x.current())
}

func (x *taking) write(text string) {
	tree, ok := impl.TreeWrite(x.Tree, x.current(), text)
	if !ok {
		x.Code = 1
		x.stopIfWrong()
	}
	x.Tree = tree
}

func (x *taking) rebuild() {
	x.Build = expectedRebuild(x.Build)
	x.stopIfWrong()
}

func (x *taking) adopt(name string) {
	x.Build = expectedAdopt(x.Build, name)
	x.stopIfWrong()
}

func (x *taking) scope(name string, kind int) bool {
	return expectedInScope(x.Tree, x.Row, name, kind)
}

func (x *taking) pop(but string, name string) {
	x.Row = slices.Clone(expectedPopImplied(x.Tree, x.Row, but))
	x.Row = slices.Clone(expectedPopTo(x.Tree, x.Row, name))
}

func (x *taking) lessLast() {
	if len(x.Row) > 1 {
		x.Row = x.Row[:len(x.Row)-1]
	}
}

// The first of the row stays whatever is taken from it, as a build is to stay right.
func (x *taking) lessOpen(at int) {
	if slices.Contains(x.Row, at) && x.Row[0] != at {
		x.Row = expectedFmtLess(x.Row, at)
	}
}

func (x *taking) currentIs(list string) bool {
	return len(x.Row) > 0 && listed(list, x.Tree.Nodes[x.current()].Name)
}

func (x *taking) closeP() {
	if x.scope("p", 3) {
		x.pop("p", "p")
	}
}

func (x *taking) textIn(cut int, token impl.Token) {
	x.putStays(token.Name, token.Attrs)
	x.Cut, x.Last, x.Old, x.Mode = cut, token.Name, x.Mode, 7
}

func (x *taking) goOn(mode int, token impl.Token) {
	x.Mode = mode
	x.by(token)
}

func (x *taking) by(token impl.Token) {
	key := keyOf(token)
	switch x.Mode {
	case 1:
		x.byInitial(key, token)
	case 2:
		x.byHtml(key, token)
	case 3:
		x.byHead(key, token)
	case 4:
		x.byInHead(key, token)
	case 5:
		x.byBehind(key, token)
	case 6:
		x.byBody(key, token)
	case 7:
		x.byText(key, token)
	case 8:
		x.byAfter(key, token)
	}
}

func (x *taking) byInitial(key string, token impl.Token) {
	switch key {
	case "blank":
	case "comment":
		x.putComment(token)
	case "doctype":
		x.putBelow(doctypeNode(token.Name, 0), x.current())
		x.Mode = 2
	default:
		x.goOn(2, token)
	}
}

func (x *taking) byHtml(key string, token impl.Token) {
	switch {
	case among(key, "doctype blank"), closeBut(key, "/head /body /html /br"):
	case key == "comment":
		x.putComment(token)
	case key == "<html":
		x.putStays("html", token.Attrs)
		x.Mode = 3
	default:
		x.putStays("html", nil)
		x.goOn(3, token)
	}
}

func (x *taking) byHead(key string, token impl.Token) {
	switch {
	case among(key, "doctype blank"), closeBut(key, "/head /body /html /br"):
	case key == "comment":
		x.putComment(token)
	case key == "<html":
		x.byBody(key, token)
	case key == "<head":
		x.putStays("head", token.Attrs)
		x.Head = x.current()
		x.Mode = 4
	default:
		x.putStays("head", nil)
		x.Head = x.current()
		x.goOn(4, token)
	}
}

func (x *taking) byInHead(key string, token impl.Token) {
	switch {
	case among(key, "doctype <head"), closeBut(key, "/head /body /html /br"):
	case key == "blank":
		x.write(token.Text)
	case key == "comment":
		x.putComment(token)
	case key == "<html":
		x.byBody(key, token)
	case among(key, "<base <link <meta"):
		x.put(token.Name, token.Attrs)
	case key == "<title":
		x.textIn(2, token)
	case among(key, "<noframes <script <style"):
		x.textIn(3, token)
	case key == "/head":
		x.lessLast()
		x.Mode = 5
	default:
		x.lessLast()
		x.goOn(5, token)
	}
}

func (x *taking) byBehind(key string, token impl.Token) {
	switch {
	case among(key, "doctype <head"), closeBut(key, "/body /html /br"):
	case key == "blank":
		x.write(token.Text)
	case key == "comment":
		x.putComment(token)
	case key == "<html":
		x.byBody(key, token)
	case key == "<body":
		x.putStays("body", token.Attrs)
		x.Mode = 6
	case key[0] == '<' && listed(headList, token.Name):
		if x.Head != -1 && !slices.Contains(x.Row, x.Head) {
			if len(x.Row) == 40 {
				x.Code = 2
				x.stopIfWrong()
			}
			x.Row = append(slices.Clone(x.Row), x.Head)
		}
		x.byInHead(key, token)
		x.lessOpen(x.Head)
	default:
		x.putStays("body", nil)
		x.goOn(6, token)
	}
}

func (x *taking) byText(key string, token impl.Token) {
	switch {
	case among(key, "blank char"):
		x.write(token.Text)
	case key == "end":
		x.lessLast()
		x.Cut = 1
		x.goOn(x.Old, token)
	case key[0] == '/':
		x.lessLast()
		x.Cut = 1
		x.Mode = x.Old
	}
}

func (x *taking) byAfter(key string, token impl.Token) {
	switch key {
	case "doctype", "/html", "end":
	case "blank", "<html":
		x.byBody(key, token)
	case "comment":
		x.putBelow(commentNode(token.Text, 0), x.Row[0])
	default:
		x.goOn(6, token)
	}
}

func (x *taking) byBody(key string, token impl.Token) {
	switch {
	case among(key, "blank char"):
		x.rebuild()
		x.write(token.Text)
	case key == "comment":
		x.putComment(token)
	case key[0] == '<':
		x.byOpen(key, token)
	case key[0] == '/':
		x.byClose(key, token)
	}
}

func (x *taking) addAttrs(place int, attrs []impl.Attr) {
	n := &x.Tree.Nodes[x.Row[place]]
	for _, a := range attrs {
		n.Attrs = expectedAdd(n.Attrs, a)
	}
}

func (x *taking) byOpen(key string, token impl.Token) {
	name, attrs := token.Name, token.Attrs
	switch {
	case key == "<html":
		x.addAttrs(0, attrs)
	case key == "<body":
		if len(x.Row) > 1 && x.Tree.Nodes[x.Row[1]].Name == "body" {
			x.addAttrs(1, attrs)
		}
	case key == "<head":
	case listed(headList, name):
		x.byInHead(key, token)
	case listed(blockList, name), key == "<table":
		x.closeP()
		x.putStays(name, attrs)
	case listed(headingList, name):
		x.closeP()
		if x.currentIs(headingList) {
			x.lessLast()
		}
		x.putStays(name, attrs)
	case among(key, "<pre <listing"):
		x.closeP()
		x.putStays(name, attrs)
		x.Skip = true
	case key == "<li":
		x.endItem("li")
		x.closeP()
		x.putStays(name, attrs)
	case among(key, "<dd <dt"):
		x.endItem("dd, dt")
		x.closeP()
		x.putStays(name, attrs)
	case key == "<plaintext":
		x.closeP()
		x.putStays(name, attrs)
		x.Cut = 4
	case key == "<button":
		if x.scope("button", 1) {
			x.pop("", "button")
		}
		x.rebuild()
		x.putStays(name, attrs)
	case listed(formatList, name):
		x.openFormat(key, token)
	default:
		x.byOtherOpen(key, token)
	}
}

func (x *taking) endItem(list string) {
	for _, at := range slices.Backward(slices.Clone(x.Row)) {
		name := x.Tree.Nodes[at].Name
		if listed(list, name) {
			x.pop(name, name)
			return
		}
		if expectedSpecial(name) && !listed("address, div, p", name) {
			return
		}
	}
}

func (x *taking) openFormat(key string, token impl.Token) {
	if key == "<a" {
		if place := expectedFind(x.Tree, x.Fmts, "a"); place != -1 {
			that := x.Fmts[place]
			x.adopt("a")
			x.Fmts = expectedFmtLess(x.Fmts, that)
			x.lessOpen(that)
		}
	}
	x.rebuild()
	if key == "<nobr" && x.scope("nobr", 1) {
		x.adopt("nobr")
		x.rebuild()
	}
	x.putStays(token.Name, token.Attrs)
	x.Fmts = expectedPush(x.Tree, x.Fmts, x.current())
}

func (x *taking) byOtherOpen(key string, token impl.Token) {
	name, attrs := token.Name, token.Attrs
	switch {
	case among(key, "<applet <marquee <object"):
		x.rebuild()
		x.putStays(name, attrs)
		if len(x.Fmts) < 60 {
			x.Fmts = append(slices.Clone(x.Fmts), -1)
		}
	case among(key, "<area <br <embed <img <input <wbr"):
		x.rebuild()
		x.put(name, attrs)
	case key == "<image":
		x.rebuild()
		x.put("img", attrs)
	case among(key, "<param <source <track"):
		x.put(name, attrs)
	case key == "<hr":
		x.closeP()
		x.put(name, attrs)
	case key == "<textarea":
		x.textIn(2, token)
		x.Skip = true
	case key == "<xmp":
		x.closeP()
		x.rebuild()
		x.textIn(3, token)
	case among(key, "<iframe <noembed"):
		x.textIn(3, token)
	case among(key, "<optgroup <option"):
		if x.currentIs("option") {
			x.lessLast()
		}
		x.rebuild()
		x.putStays(name, attrs)
	default:
		x.rebuild()
		x.putStays(name, attrs)
	}
}

func (x *taking) byClose(key string, token impl.Token) {
	name := token.Name
	switch {
	case among(key, "/body /html"):
		if !x.scope("body", 1) {
			return
		}
		x.Mode = 8
		if key == "/html" {
			x.goOn(8, token)
		}
	case key == "/p":
		if !x.scope("p", 3) {
			x.putStays("p", nil)
		}
		x.closeP()
	case listed(blockList, name), among(key, "/button /listing /pre"):
		if x.scope(name, 1) {
			x.pop("", name)
		}
	case key == "/li":
		if x.scope("li", 2) {
			x.pop("li", "li")
		}
	case among(key, "/dd /dt"):
		if x.scope(name, 1) {
			x.pop(name, name)
		}
	case listed(headingList, name):
		x.closeHeading()
	case listed(formatList, name):
		x.adopt(name)
	case among(key, "/applet /marquee /object"):
		if x.scope(name, 1) {
			x.pop("", name)
			x.Fmts = expectedClear(x.Fmts)
		}
	case key == "/br":
		x.by(opens("br"))
	default:
		x.Build = expectedClose(x.Build, name)
	}
}

func (x *taking) closeHeading() {
	if !slices.ContainsFunc(wordsOf("h1 h2 h3 h4 h5 h6"), func(name string) bool { return x.scope(name, 1) }) {
		return
	}
	x.Row = slices.Clone(expectedPopImplied(x.Tree, x.Row, ""))
	for !x.currentIs(headingList) {
		x.lessLast()
	}
	x.lessLast()
}

// checkTaken asks what is answered of a build and a token, and that all memory is its own.
func checkTaken(t *testing.T, b impl.Build, token impl.Token) impl.Build {
	t.Helper()
	attrs := guard(token.Attrs, fillAttr)
	given := token
	given.Attrs = attrs.arg
	after := checkTurned(t, "BuildTake of "+tokenText(token), b, expectedTaken(b, token), func(b impl.Build) impl.Build {
		return impl.BuildTake(b, given)
	})
	if !attrs.untouched() {
		t.Errorf("BuildTake of %s wrote into the token, or shares memory with it", tokenText(token))
	}
	return after
}

// takenQuickly asks the same without a look at memory, for builds by the thousand.
func takenQuickly(t *testing.T, b impl.Build, token impl.Token) impl.Build {
	t.Helper()
	got, want := impl.BuildTake(b, token), expectedTaken(b, token)
	if !sameBuild(got, want) || impl.BuildOk(got) != buildFits(b) {
		t.Errorf("BuildTake of %s and %s\n got  %s\n want %s", tokenText(token), buildText(b), buildText(got), buildText(want))
	}
	return got
}

func checkLeft(t *testing.T, b impl.Build, token impl.Token) {
	t.Helper()
	if after := checkTaken(t, b, token); !sameBuild(after, b) {
		t.Errorf("BuildTake of %s turned %s\n to %s", tokenText(token), buildText(b), buildText(after))
	}
}

// fed takes the tokens of a page, each cut by what is built so far, but not its end; each answer is asked for.
func fed(t *testing.T, b impl.Build, page string) impl.Build {
	t.Helper()
	list := runesOf(page)
	for at := 0; at < len(list); {
		token, next := impl.NextToken(list, at, b.Cut, b.Last)
		if token.Kind == impl.TkEnd {
			break
		}
		b = checkTaken(t, b, token)
		at = next
	}
	return b
}

func fedNew(t *testing.T, page string) impl.Build {
	t.Helper()
	return fed(t, impl.BuildNew(), page)
}

// openNamesOf has the names of the whole row.
func openNamesOf(b impl.Build) string {
	names := []string{}
	for _, at := range b.Row {
		names = append(names, b.Tree.Nodes[at].Name)
	}
	return strings.Join(names, " ")
}

// checkBuilt asks what a build prints as, what is open, and its mode.
func checkBuilt(t *testing.T, what string, b impl.Build, page string, row string, mode int) {
	t.Helper()
	if got := impl.PrintOf(b.Tree); got != page || openNamesOf(b) != row || b.Mode != mode || b.Code != impl.BdWell {
		t.Errorf("%s\n got  %s ; %s ; mode %d ; code %d\n want %s ; %s ; mode %d", what, got, openNamesOf(b), b.Mode, b.Code, page, row, mode)
	}
}

const bodyBegin = "<html><head></head><body>"

// checkBody feeds what stands in a body, and asks what is in it then, what is open behind it, and the formats.
func checkBody(t *testing.T, fedPage string, page string, row string, fmts string) impl.Build {
	t.Helper()
	b := fedNew(t, "<body>"+fedPage)
	got, gotRow, gotFmts := laid(b)
	if got = strings.TrimPrefix(got, bodyBegin); got != page || gotRow != row || gotFmts != fmts || b.Code != impl.BdWell {
		t.Errorf("%s\n got  %s ; %s ; %s ; code %d\n want %s ; %s ; %s", fedPage, got, gotRow, gotFmts, b.Code, page, row, fmts)
	}
	return b
}

// modeBuilds are builds that pages lead to, some in each mode.
func modeBuilds(t *testing.T) map[string]impl.Build {
	t.Helper()
	builds := map[string]impl.Build{}
	for _, page := range []string{
		"", "<!--x-->", "<!doctype html>", "</p>", "<html id=1>", "<html><!--x-->", "<head>", "<head> <link><!--x-->",
		"<head></head>", "<head><base></head> <!--x-->", "<title>", "<script>x", "</head><style>", "</head><title>x",
		"<body>", "<body class=y>x", "<p>x", "<p><b>1<i>2</p>", "<b><div><i>", "<ul><li><b>", "<dl><dd><div><p>", "<h1><span>",
		"<button><p><b>", "<a>1<object><a>2<b>", "<nobr><i>x<table><nobr>", "<object><p>", "<option>", "<optgroup><option><b>",
		"<pre>", "<plaintext>", "<textarea>", "<b><p></b><iframe>x", "<xmp>", "<h2><li><p>", "<applet><td><b>", "<dt><address><ul><li><div>",
		"</body>", "x</html>", "<b>x</body> ", "<p><b></p></body>", "<object></body>",
	} {
		builds[page] = fedNew(t, page)
	}
	return builds
}

func tokenNames() []string {
	return append(kindNames(), wordsOf("image option optgroup nobr span x-y tbody svg frameset form col xé p2 bodyy hea")...)
}

// everyToken has each kind of token, and an open and a close of each name.
func everyToken() []impl.Token {
	tokens := []impl.Token{comment(""), comment("c -- <p>"), doctype(""), doctype("html"), end()}
	tokens = append(tokens, chars("\t\n\v\f\r x\x00\u0085\u00a0é\u2028😀<&")...)
	for _, name := range tokenNames() {
		tokens = append(tokens, opens(name), opens(name, "id", "new", "q", ""), closes(name))
	}
	return append(tokens, selfClosed(opens("p")), selfClosed(opens("br", "x", "y")), selfClosed(opens("title")))
}

func TestTakeEachTokenInEachMode(t *testing.T) {
	seen := map[int]int{}
	for page, b := range modeBuilds(t) {
		if !impl.BuildOk(b) || b.Code != impl.BdWell {
			t.Fatalf("%s leads to %s", page, buildText(b))
		}
		seen[b.Mode]++
		for i, token := range everyToken() {
			if i%7 == len(page)%7 {
				checkTaken(t, b, token)
			} else {
				takenQuickly(t, b, token)
			}
		}
	}
	for mode := 1; mode <= 8; mode++ {
		if seen[mode] == 0 {
			t.Errorf("no build is in mode %d", mode)
		}
	}
}

// wrongBuilds are not BuildOk, each in one thing.
func wrongBuilds() []impl.Build {
	good := opened("html body b p", 2)
	builds := []impl.Build{{}, {Tree: impl.TreeNew()}}
	for _, turn := range []func(b *impl.Build){
		func(b *impl.Build) { b.Row = nil },
		func(b *impl.Build) { b.Row = b.Row[1:] },
		func(b *impl.Build) { b.Row = []int{1, 2, 2} },
		func(b *impl.Build) { b.Row = []int{1, 9} },
		func(b *impl.Build) { b.Fmts = []int{4} },
		func(b *impl.Build) { b.Fmts = []int{3, 3} },
		func(b *impl.Build) { b.Fmts = []int{-2} },
		func(b *impl.Build) { b.Mode = 0 },
		func(b *impl.Build) { b.Mode = 9 },
		func(b *impl.Build) { b.Mode = 1 },
		func(b *impl.Build) { b.Mode = 2 },
		func(b *impl.Build) { b.Mode, b.Old = 7, 8 },
		func(b *impl.Build) { b.Mode, b.Old = 7, 7 },
		func(b *impl.Build) { b.Mode, b.Old = 7, 3 },
		func(b *impl.Build) { b.Old = 0 },
		func(b *impl.Build) { b.Mode = math.MinInt },
		func(b *impl.Build) { b.Head = 0 },
		func(b *impl.Build) { b.Head = 5 },
		func(b *impl.Build) { b.Head = -2 },
		func(b *impl.Build) { b.Cut = 0 },
		func(b *impl.Build) { b.Cut = 5 },
		func(b *impl.Build) { b.Last = strings.Repeat("x", 61) },
		func(b *impl.Build) { b.Code = 3 },
		func(b *impl.Build) { b.Code = -1 },
		func(b *impl.Build) { b.Tree.Nodes[4].Parent = 4 },
		func(b *impl.Build) { b.Tree.Nodes[4].Name = "P" },
		func(b *impl.Build) { b.Tree.Nodes[2].Kids = append(b.Tree.Nodes[2].Kids, 0) },
		func(b *impl.Build) { *b = padded(*b, 501) },
	} {
		b := cloneBuild(good)
		turn(&b)
		builds = append(builds, b)
	}
	for _, tree := range wrongTrees() {
		builds = append(builds, bodyBuild(tree, []int{1}, nil))
	}
	return builds
}

func fewTokens() []impl.Token {
	return []impl.Token{
		end(), char("\n"), char("x"), comment("c"), doctype("html"), opens("html", "id", "1"), opens("p"), opens("b"), opens("title"),
		opens("pre"), opens("br"), closes("p"), closes("b"), closes("body"), closes("html"), closes("br"),
	}
}

func TestTakeLeavesAWrongBuildAsItIs(t *testing.T) {
	for i, b := range wrongBuilds() {
		if impl.BuildOk(b) {
			t.Fatalf("the build %d is right: %s", i, buildText(b))
		}
		for _, skip := range []bool{false, true} {
			b.Skip = skip
			for _, token := range fewTokens() {
				checkLeft(t, b, token)
			}
			checkLeft(t, b, impl.Token{})
		}
	}
}

// wrongTokens are not TokenOk, each in one thing.
func wrongTokens() []impl.Token {
	long := strings.Repeat("x", 61)
	tokens := []impl.Token{
		{}, {Kind: 7, Name: "p"}, {Kind: -5, Name: "p"}, {Kind: 5 + 1<<32, Name: "p"}, {Kind: math.MaxInt}, {Kind: math.MinInt},
		char(""), char("ab"), char("\n\n"), char("\n "), char("x\n"), char(strings.Repeat("x", 3000)),
		{Kind: impl.TkChar, Text: "\n", Name: "x"}, {Kind: impl.TkChar, Text: "\n", Self: true}, {Kind: impl.TkChar, Text: "x", Attrs: named("a")},
		comment(strings.Repeat("c", 3001)), {Kind: impl.TkComment, Name: "c"}, {Kind: impl.TkComment, Self: true},
		doctype(long), doctype("\xff"), {Kind: impl.TkDoctype, Name: "html", Text: "x"}, {Kind: impl.TkDoctype, Name: "html", Attrs: named("a")},
		opens(""), opens("P"), opens("b "), opens("1"), opens(long), opens("p\x00"), opens("p\xff"),
		{Kind: impl.TkOpen, Name: "p", Text: "x"}, {Kind: impl.TkOpen, Name: "p", Attrs: named("a", "a")}, {Kind: impl.TkOpen, Name: "p", Attrs: named("")},
		{Kind: impl.TkOpen, Name: "html", Attrs: manyAttrs(21)}, {Kind: impl.TkOpen, Name: "p", Attrs: named(long)}, {Kind: impl.TkOpen, Name: "p", Attrs: named("\xff")},
		opens("html", "a", strings.Repeat("v", 3001)), opens("body", "a", "\xff"),
		closes(""), closes("P"), closes("p "), closes(long), {Kind: impl.TkClose, Name: "p", Self: true}, {Kind: impl.TkClose, Name: "p", Attrs: named("a")},
		{Kind: impl.TkClose, Name: "p", Text: "p"}, {Kind: impl.TkEnd, Name: "p"}, {Kind: impl.TkEnd, Text: "x"}, {Kind: impl.TkEnd, Self: true},
		{Kind: impl.TkEnd, Attrs: named("a")},
	}
	for _, s := range badTexts {
		tokens = append(tokens, char(s), comment(s))
	}
	return tokens
}

func TestTakeLeavesAWrongTokenOut(t *testing.T) {
	for _, token := range wrongTokens() {
		if impl.TokenOk(token) {
			t.Fatalf("the token %s is right", tokenText(token))
		}
	}
	for _, page := range []string{"", "<!doctype html>", "<html>", "<head>", "<head></head>", "<p><b>x", "<p><b></p>", "<title>x", "<body></body>"} {
		b := fedNew(t, page)
		for _, skip := range []bool{false, true} {
			b.Skip = skip
			for _, token := range wrongTokens() {
				checkLeft(t, b, token)
			}
		}
	}
}

// Behind what went wrong nothing is done: a line's end is still left out next.
func TestTakeNothingBehindWhatWentWrong(t *testing.T) {
	for page, b := range modeBuilds(t) {
		for _, code := range []int{impl.BdLarge, impl.BdDeep} {
			b.Code = code
			b.Skip = code == impl.BdDeep || len(page)%2 == 0
			for _, token := range fewTokens() {
				checkLeft(t, b, token)
			}
		}
	}
}

func TestTakeSkipsALinesEnd(t *testing.T) {
	for page, b := range modeBuilds(t) {
		plain := b
		plain.Skip = false
		b.Skip = true
		if after := checkTaken(t, b, char("\n")); !sameBuild(after, plain) {
			t.Errorf("behind %s the line's end is not left out alone: %s", page, buildText(after))
		}
		for i, token := range everyToken() {
			if sameToken(token, char("\n")) {
				continue
			}
			with, without := takenQuickly(t, b, token), takenQuickly(t, plain, token)
			if i%16 == 0 {
				checkTaken(t, b, token)
			}
			if !sameBuild(with, without) {
				t.Errorf("behind %s Skip is seen in what %s does", page, tokenText(token))
			}
			if with.Skip && !among(keyOf(token), "<pre <listing <textarea") {
				t.Errorf("behind %s Skip stays with %s", page, tokenText(token))
			}
		}
	}
	checkBody(t, "<pre>\nx", "<pre>x</pre>", "pre", "")
	checkBody(t, "<pre>\n\nx", "<pre>\nx</pre>", "pre", "")
	checkBody(t, "<pre>x\n", "<pre>x\n</pre>", "pre", "")
	checkBody(t, "<listing>\n \n", "<listing> \n</listing>", "listing", "")
	checkBody(t, "<pre><b>\nx", "<pre><b>\nx</b></pre>", "pre b", "b1")
	checkBody(t, "<pre><!--c-->\n", "<pre><!--c-->\n</pre>", "pre", "")
	checkBody(t, "<pre></pre>\n", "<pre></pre>\n", "", "")
	checkBody(t, "<pre><pre>\n\n", "<pre><pre>\n</pre></pre>", "pre pre", "")
	checkBody(t, "<textarea>\n\nx</textarea>\n", "<textarea>\nx</textarea>\n", "", "")
	checkBody(t, "<p>\nx", "<p>\nx</p>", "p", "")
	b := fedNew(t, "<body><pre>")
	if !b.Skip {
		t.Error("a pre does not ask for Skip")
	}
	for _, token := range []impl.Token{end(), doctype("x"), closes("x"), opens("head"), char("\r"), char("\t")} {
		if after := checkTaken(t, b, token); after.Skip {
			t.Errorf("behind %s Skip is still true", tokenText(token))
		}
	}
}

// leftOut tells by the document which tokens turn nothing in a mode, but MdBody; an open html has no Attrs here.
func leftOut(mode int, key string) bool {
	switch mode {
	case impl.MdInitial:
		return key == "blank"
	case impl.MdHtml:
		return among(key, "blank doctype") || closeBut(key, "/head /body /html /br")
	case impl.MdHead:
		return among(key, "blank doctype <html") || closeBut(key, "/head /body /html /br")
	case impl.MdInHead:
		return among(key, "doctype <head <html") || closeBut(key, "/head /body /html /br")
	case impl.MdBehind:
		return among(key, "doctype <head <html") || closeBut(key, "/body /html /br")
	case impl.MdText:
		return among(key, "comment doctype") || key[0] == '<'
	}
	// A close of body goes on in MdBody, and comes back.
	return among(key, "doctype end <html /html /body")
}

func TestTakeLeavesOutWhatIsNotNamed(t *testing.T) {
	for _, page := range []string{"", "<!doctype html>", "<html>", "<head>", "<head></head>", "<title>", "</head><script>", "<body><xmp>", "<body></body>"} {
		b := fedNew(t, page)
		for _, token := range everyToken() {
			if len(token.Attrs) > 0 && token.Name == "html" {
				continue
			}
			after := checkTaken(t, b, token)
			if same := sameBuild(after, b); same != leftOut(b.Mode, keyOf(token)) {
				t.Errorf("behind %q %s is left out: %v", page, tokenText(token), same)
			}
			b.Skip = true
			after = checkTaken(t, b, token)
			b.Skip = false
			if leftOut(b.Mode, keyOf(token)) && !sameBuild(after, b) {
				t.Errorf("behind %q %s turned more than Skip", page, tokenText(token))
			}
		}
	}
	body := fedNew(t, "<body>x")
	for _, token := range []impl.Token{
		doctype("html"), end(), opens("head"), opens("html"), opens("body"), closes("div"), closes("button"), closes("li"), closes("dd"), closes("h1"),
		closes("b"), closes("a"), closes("applet"), closes("span"), closes("head"), closes("title"), closes("table"), closes("img"),
	} {
		checkLeft(t, body, token)
	}
}

func modeName(mode int) string {
	return []string{"", "MdInitial", "MdHtml", "MdHead", "MdInHead", "MdBehind", "MdBody", "MdText", "MdAfter"}[mode]
}

func TestTakeGoesOnByOneToken(t *testing.T) {
	const whole = "<html><head></head><body></body></html>"
	for _, x := range []struct {
		token impl.Token
		page  string
		row   string
		mode  int
	}{
		{char("x"), bodyBegin + "x</body></html>", "html body", impl.MdBody},
		{char("\r"), bodyBegin + "\r</body></html>", "html body", impl.MdBody},
		{char("\u00a0"), bodyBegin + "&nbsp;</body></html>", "html body", impl.MdBody},
		{char("\t"), "", "", impl.MdInitial},
		{char("\n"), "", "", impl.MdInitial},
		{char("\f"), "", "", impl.MdInitial},
		{char(" "), "", "", impl.MdInitial},
		{comment("c"), "<!--c-->", "", impl.MdInitial},
		{doctype("html"), "<!DOCTYPE html>", "", impl.MdHtml},
		{doctype(""), "<!DOCTYPE >", "", impl.MdHtml},
		{end(), whole, "html body", impl.MdBody},
		{opens("html", "id", "1"), `<html id="1"></html>`, "html", impl.MdHead},
		{opens("head", "id", "1"), `<html><head id="1"></head></html>`, "html head", impl.MdInHead},
		{opens("body", "id", "1"), `<html><head></head><body id="1"></body></html>`, "html body", impl.MdBody},
		{opens("p", "id", "1"), bodyBegin + `<p id="1"></p></body></html>`, "html body p", impl.MdBody},
		{opens("br"), bodyBegin + "<br></body></html>", "html body", impl.MdBody},
		{opens("textarea"), bodyBegin + "<textarea></textarea></body></html>", "html body textarea", impl.MdText},
		{opens("link", "id", "1"), `<html><head><link id="1"></head></html>`, "html head", impl.MdInHead},
		{opens("base"), `<html><head><base></head></html>`, "html head", impl.MdInHead},
		{opens("title"), "<html><head><title></title></head></html>", "html head title", impl.MdText},
		{opens("style", "x", "y"), `<html><head><style x="y"></style></head></html>`, "html head style", impl.MdText},
		{closes("head"), "<html><head></head></html>", "html", impl.MdBehind},
		{closes("body"), whole, "html body", impl.MdAfter},
		{closes("html"), whole, "html body", impl.MdAfter},
		{closes("br"), bodyBegin + "<br></body></html>", "html body", impl.MdBody},
		{closes("p"), "", "", impl.MdHtml},
		{closes("title"), "", "", impl.MdHtml},
		{closes("b"), "", "", impl.MdHtml},
	} {
		after := checkTaken(t, impl.BuildNew(), x.token)
		checkBuilt(t, tokenText(x.token), after, x.page, x.row, x.mode)
		if x.mode == impl.MdText && after.Old != impl.MdInHead && after.Old != impl.MdBody {
			t.Errorf("%s leads to MdText from %d", tokenText(x.token), after.Old)
		}
	}
}

// From each mode the same end is come to, whichever of them the page has been through.
func TestTakeGoesOnFromEachMode(t *testing.T) {
	for _, begin := range []string{"", "<!doctype html>", "<html>", "<head>", "<head></head>", "<body>"} {
		kept := ""
		if begin == "<!doctype html>" {
			kept = "<!DOCTYPE html>"
		}
		b := fedNew(t, begin)
		for _, x := range []struct {
			token impl.Token
			page  string
			row   string
			mode  int
		}{
			{char("x"), "x", "html body", impl.MdBody},
			{char("é"), "é", "html body", impl.MdBody},
			{end(), "", "html body", impl.MdBody},
			{opens("p"), "<p></p>", "html body p", impl.MdBody},
			{opens("b", "id", "1"), `<b id="1"></b>`, "html body b", impl.MdBody},
			{opens("hr"), "<hr>", "html body", impl.MdBody},
			{opens("table"), "<table></table>", "html body table", impl.MdBody},
			{closes("body"), "", "html body", impl.MdAfter},
			{closes("html"), "", "html body", impl.MdAfter},
			{closes("br"), "<br>", "html body", impl.MdBody},
		} {
			after := checkTaken(t, b, x.token)
			checkBuilt(t, begin+" "+tokenText(x.token), after, kept+bodyBegin+x.page+"</body></html>", x.row, x.mode)
			if after.Head != 1+len(kept)/15+1 || after.Tree.Nodes[after.Head].Name != "head" {
				t.Errorf("%s %s: the head is %d", begin, tokenText(x.token), after.Head)
			}
		}
		for _, name := range []string{"title", "div", "span", "b", "script", "table", "x"} {
			after := checkTaken(t, b, closes(name))
			b2 := b
			if b.Mode == impl.MdInitial {
				b2.Mode = impl.MdHtml
			}
			if !sameBuild(after, b2) {
				t.Errorf("behind %s a close of %s turns %s", begin, name, buildText(after))
			}
		}
	}
}

func TestTakeInitialAndHtml(t *testing.T) {
	for _, x := range []struct {
		fed  string
		page string
		row  string
		mode int
	}{
		{" \t\n\f", "", "", impl.MdInitial},
		{"<!--1--> <!--2-->", "<!--1--><!--2-->", "", impl.MdInitial},
		{"<!--1--><!doctype A b><!--2--> <!doctype c>", "<!--1--><!DOCTYPE a><!--2-->", "", impl.MdHtml},
		{"<!doctype x> <html id=1><!--3-->", `<!DOCTYPE x><html id="1"><!--3--></html>`, "html", impl.MdHead},
		{"</x><!doctype x><!--3-->", "<!--3-->", "", impl.MdHtml},
		{"<html id=1 id=2 class=a>", `<html id="1" class="a"></html>`, "html", impl.MdHead},
		{"<html> <!doctype x>\n</title></p></div>", "<html></html>", "html", impl.MdHead},
		{"<html id=1><html id=2 class=b>", `<html id="1" class="b"></html>`, "html", impl.MdHead},
		{"<html><head a=b><html c=d>", `<html c="d"><head a="b"></head></html>`, "html head", impl.MdInHead},
		{"<html></head>", "<html><head></head></html>", "html", impl.MdBehind},
		{"<html><base><!--x-->", "<html><head><base><!--x--></head></html>", "html head", impl.MdInHead},
		{"<html>x", bodyBegin + "x</body></html>", "html body", impl.MdBody},
	} {
		checkBuilt(t, x.fed, fedNew(t, x.fed), x.page, x.row, x.mode)
	}
}

func TestTakeInHead(t *testing.T) {
	for _, x := range []struct {
		fed  string
		page string
		row  string
		mode int
	}{
		{"<head> \n\t\f", "<html><head> \n\t\f</head></html>", "html head", impl.MdInHead},
		{"<head><!--x--><!doctype y><head id=1>", "<html><head><!--x--></head></html>", "html head", impl.MdInHead},
		{"<head><base id=1><link><meta/>", `<html><head><base id="1"><link><meta></head></html>`, "html head", impl.MdInHead},
		{"<head></title></p></base></x>", "<html><head></head></html>", "html head", impl.MdInHead},
		{"<head></head>", "<html><head></head></html>", "html", impl.MdBehind},
		{"<head><title>a<b>&amp;</title>", "<html><head><title>a&lt;b&gt;&amp;</title></head></html>", "html head", impl.MdInHead},
		{"<head><script>a<b>&amp;</script>", "<html><head><script>a<b>&amp;</script></head></html>", "html head", impl.MdInHead},
		{"<head><style>x</STYLE >", "<html><head><style>x</style></head></html>", "html head", impl.MdInHead},
		{"<head><noframes><p></noframes>", "<html><head><noframes><p></noframes></head></html>", "html head", impl.MdInHead},
		{"<head>x", bodyBegin + "x</body></html>", "html body", impl.MdBody},
		{"<head> x", "<html><head> </head><body>x</body></html>", "html body", impl.MdBody},
		{"<head><body id=1>", `<html><head></head><body id="1"></body></html>`, "html body", impl.MdBody},
		{"<head></body>", bodyBegin + "</body></html>", "html body", impl.MdAfter},
		{"<head></html>", bodyBegin + "</body></html>", "html body", impl.MdAfter},
		{"<head></br>", bodyBegin + "<br></body></html>", "html body", impl.MdBody},
	} {
		checkBuilt(t, x.fed, fedNew(t, x.fed), x.page, x.row, x.mode)
	}
}

// inHead is a build in that mode, whose head is the one at that place of the row.
func inHead(mode int, words string, place int) impl.Build {
	b := opened(words)
	b.Mode = mode
	if place >= 0 {
		b.Head = b.Row[place]
	}
	return b
}

func TestTakeCloseHeadWithAnyRow(t *testing.T) {
	for _, x := range []struct{ words, left string }{
		{"html", "html"}, {"html head", "html"}, {"html head x", "html head"}, {"html x y z", "html x y"}, {"html html", "html"},
	} {
		after := checkTaken(t, inHead(impl.MdInHead, x.words, 0), closes("head"))
		if openNamesOf(after) != x.left || after.Mode != impl.MdBehind {
			t.Errorf("a close of head leaves %s of %s", openNamesOf(after), x.words)
		}
		after = checkTaken(t, inHead(impl.MdInHead, x.words, 0), opens("body"))
		if openNamesOf(after) != x.left+" body" || after.Mode != impl.MdBody {
			t.Errorf("an open body leaves %s of %s", openNamesOf(after), x.words)
		}
		after = checkTaken(t, inHead(impl.MdInHead, x.words, 0), char("x"))
		if openNamesOf(after) != x.left+" body" || after.Mode != impl.MdBody {
			t.Errorf("a char leaves %s of %s", openNamesOf(after), x.words)
		}
		after = checkTaken(t, inHead(impl.MdInHead, x.words, 0), closes("body"))
		if openNamesOf(after) != x.left+" body" || after.Mode != impl.MdAfter {
			t.Errorf("a close of body leaves %s of %s", openNamesOf(after), x.words)
		}
	}
}

func TestTakeTextElements(t *testing.T) {
	for _, x := range []struct {
		name string
		cut  int
		head bool
	}{
		{"title", impl.CutRcdata, true}, {"script", impl.CutRaw, true}, {"style", impl.CutRaw, true}, {"noframes", impl.CutRaw, true},
		{"textarea", impl.CutRcdata, false}, {"xmp", impl.CutRaw, false}, {"iframe", impl.CutRaw, false}, {"noembed", impl.CutRaw, false},
	} {
		for begin, mode := range map[string]int{"<head>": impl.MdInHead, "<head></head>": impl.MdBehind, "<body>": impl.MdBody, "<body></body>": impl.MdBody} {
			if mode != impl.MdBody && !x.head {
				continue
			}
			b := fedNew(t, begin)
			after := checkTaken(t, b, opens(x.name, "id", "1"))
			at := after.Row[len(after.Row)-1]
			if after.Mode != impl.MdText || after.Old != mode || after.Cut != x.cut || after.Last != x.name || after.Tree.Nodes[at].Name != x.name ||
				!slices.Equal(after.Tree.Nodes[at].Attrs, opens("", "id", "1").Attrs) || after.Skip != (x.name == "textarea") {
				t.Errorf("behind %s %s leads to %s", begin, x.name, buildText(after))
			}
			closed := checkTaken(t, after, closes(x.name))
			if closed.Mode != mode || closed.Cut != impl.CutData || len(closed.Row) != len(after.Row)-1 || closed.Last != x.name || closed.Old != mode {
				t.Errorf("behind %s the close of %s leads to %s", begin, x.name, buildText(closed))
			}
		}
	}
}

func TestTakeBehindTheHead(t *testing.T) {
	for _, x := range []struct {
		fed  string
		page string
		row  string
		mode int
	}{
		{"</head> \t<!--x--><!doctype y><head id=1>", "<html><head></head> \t<!--x--></html>", "html", impl.MdBehind},
		{"</head></head></p></title></x>", "<html><head></head></html>", "html", impl.MdBehind},
		{"</head><html id=1>", `<html id="1"><head></head></html>`, "html", impl.MdBehind},
		{"</head><link id=1> <base>", `<html><head><link id="1"><base></head> </html>`, "html", impl.MdBehind},
		{"</head><title>x", "<html><head><title>x</title></head></html>", "html title", impl.MdText},
		{"</head><title>x</title>", "<html><head><title>x</title></head></html>", "html", impl.MdBehind},
		{"</head> <script>x</script> <style></style><meta>", "<html><head><script>x</script><style></style><meta></head>  </html>", "html", impl.MdBehind},
		{"</head><title>x</title>y", "<html><head><title>x</title></head><body>y</body></html>", "html body", impl.MdBody},
		{"</head><body id=1><title>x</title>y", `<html><head></head><body id="1"><title>x</title>y</body></html>`, "html body", impl.MdBody},
		{"</head><p>", bodyBegin + "<p></p></body></html>", "html body p", impl.MdBody},
		{"</head></br>", bodyBegin + "<br></body></html>", "html body", impl.MdBody},
		{"</head></html>", bodyBegin + "</body></html>", "html body", impl.MdAfter},
	} {
		checkBuilt(t, x.fed, fedNew(t, x.fed), x.page, x.row, x.mode)
	}
	after := fedNew(t, "</head><title>")
	if after.Row[1] != after.Tree.Nodes[after.Head].Kids[0] {
		t.Error("the title is not the one that is open:", buildText(after))
	}
}

func TestTakeBehindWithAnyHead(t *testing.T) {
	for _, x := range []struct {
		words  string
		place  int
		parent int // of what is put in, in the row as it was; -1: the head
		left   string
	}{
		{"html", -1, 0, "html"},
		{"html x", -1, 1, "html x"},
		{"html head", 1, 1, "html"},
		{"html head x", 1, 2, "html x"},
		{"html x head y z", 2, 4, "html x y z"},
		{"html x head", 2, 2, "html x"},
		{"html", 0, 0, "html"}, // the first of the row stays
		{"html x", 0, 1, "html x"},
	} {
		b := inHead(impl.MdBehind, x.words, x.place)
		count := len(b.Tree.Nodes)
		after := checkTaken(t, b, opens("link"))
		if openNamesOf(after) != x.left || after.Mode != impl.MdBehind || after.Tree.Nodes[count].Parent != b.Row[x.parent] {
			t.Errorf("%s, a head at %d: a link leads to %s", x.words, x.place, buildText(after))
		}
		after = checkTaken(t, b, opens("title"))
		if openNamesOf(after) != x.left+" title" || after.Mode != impl.MdText || after.Old != impl.MdBehind || after.Tree.Nodes[count].Parent != b.Row[x.parent] {
			t.Errorf("%s, a head at %d: a title leads to %s", x.words, x.place, buildText(after))
		}
		checkTaken(t, b, opens("p"))
		checkTaken(t, b, closes("body"))
	}
	away := inHead(impl.MdBehind, "html head x", 1)
	away.Row = []int{1, 3}
	for _, token := range []impl.Token{opens("meta"), opens("script")} {
		after := checkTaken(t, away, token)
		if after.Tree.Nodes[4].Parent != 2 || slices.Contains(after.Row, 2) || !slices.Equal(after.Row[:2], away.Row) {
			t.Errorf("%s is not put below the head: %s", tokenText(token), buildText(after))
		}
	}
}

func TestTakeBehindWithAFullRow(t *testing.T) {
	full := inHead(impl.MdBehind, "html"+strings.Repeat(" x", 39), -1)
	count := len(full.Tree.Nodes)
	if after := checkTaken(t, full, opens("link")); after.Code != impl.BdWell || len(after.Row) != 40 || after.Tree.Nodes[count].Parent != full.Row[39] {
		t.Error("no head, and a link:", buildText(after))
	}
	if after := checkTaken(t, full, opens("title")); after.Code != impl.BdDeep || len(after.Row) != 40 || len(after.Tree.Nodes) != count+1 || after.Mode != impl.MdBehind {
		t.Error("no head, and a title:", buildText(after))
	}
	within := full
	within.Head = full.Row[20]
	if after := checkTaken(t, within, opens("link")); after.Code != impl.BdWell || len(after.Row) != 39 || slices.Contains(after.Row, within.Head) {
		t.Error("a head in the row, and a link:", buildText(after))
	}
	if after := checkTaken(t, within, opens("title")); after.Code != impl.BdDeep || !slices.Equal(after.Row, within.Row) || len(after.Tree.Nodes) != count+1 {
		t.Error("a head in the row, and a title:", buildText(after))
	}
	away := inHead(impl.MdBehind, "html"+strings.Repeat(" x", 39), -1)
	away.Tree.Nodes = append(away.Tree.Nodes, elementNode("head", -1))
	away.Head = count
	for _, token := range []impl.Token{opens("link"), opens("title"), opens("script")} {
		after := checkTaken(t, away, token)
		want := away
		want.Code = impl.BdDeep
		if !sameBuild(after, want) {
			t.Errorf("a head that has no room in the row, and %s: %s", tokenText(token), buildText(after))
		}
	}
	away.Row = away.Row[:39]
	if after := checkTaken(t, away, opens("link")); after.Code != impl.BdWell || !slices.Equal(after.Row, away.Row) || after.Tree.Nodes[count+1].Parent != count {
		t.Error("a head that just has room, and a link:", buildText(after))
	}
	// Nothing else is done behind what went wrong: the head is not taken from the row any more.
	if after := checkTaken(t, away, opens("title")); after.Code != impl.BdDeep || len(after.Row) != 40 || after.Row[39] != count || after.Mode != impl.MdBehind {
		t.Error("a head that just has room, and a title:", buildText(after))
	}
	if after := checkTaken(t, padded(away, 500), opens("link")); after.Code != impl.BdLarge || len(after.Row) != 40 || after.Row[39] != count {
		t.Error("a head in a full tree, and a link:", buildText(after))
	}
}

func TestTakeText(t *testing.T) {
	for _, old := range []int{impl.MdInHead, impl.MdBehind, impl.MdBody} {
		for _, words := range []string{"html", "html x", "html x y"} {
			b := opened(words)
			b.Mode, b.Old, b.Cut, b.Last = impl.MdText, old, impl.CutRaw, "x"
			for _, token := range []impl.Token{comment("c"), doctype("x"), opens("p"), opens("html", "a", "b"), opens("title"), opens("x")} {
				checkLeft(t, b, token)
			}
			for _, s := range []string{"x", "\n", " ", "<", "😀"} {
				after := checkTaken(t, b, char(s))
				text := after.Tree.Nodes[len(after.Tree.Nodes)-1]
				if text.Text != s || text.Parent != b.Row[len(b.Row)-1] || after.Mode != impl.MdText || !slices.Equal(after.Row, b.Row) {
					t.Errorf("%s, and %q: %s", words, s, buildText(after))
				}
			}
			left := b.Row[:max(1, len(b.Row)-1)]
			for _, name := range []string{"x", "y", "html", "p", "br", "b"} {
				want := b
				want.Row, want.Mode, want.Cut = left, old, impl.CutData
				if after := checkTaken(t, b, closes(name)); !sameBuild(after, want) {
					t.Errorf("%s, and a close of %s: %s", words, name, buildText(after))
				}
			}
			after := checkTaken(t, b, end())
			if after.Mode != impl.MdBody || after.Cut != impl.CutData || after.Last != "x" || after.Old != old {
				t.Errorf("%s from %s, and the end: %s", words, modeName(old), buildText(after))
			}
			if want := map[int]int{impl.MdInHead: max(1, len(left)-1) + 1, impl.MdBehind: len(left) + 1, impl.MdBody: len(left)}[old]; len(after.Row) != want {
				t.Errorf("%s from %s, and the end: a row of %d, want %d", words, modeName(old), len(after.Row), want)
			}
		}
	}
	b := fedNew(t, "<title>x")
	checkBuilt(t, "<title>x", checkTaken(t, b, end()), "<html><head><title>x</title></head><body></body></html>", "html body", impl.MdBody)
	b = fedNew(t, "</head><script>x")
	checkBuilt(t, "</head><script>x", checkTaken(t, b, end()), "<html><head><script>x</script></head><body></body></html>", "html body", impl.MdBody)
	b = fedNew(t, "<p><xmp>x")
	checkBuilt(t, "<p><xmp>x", checkTaken(t, b, end()), bodyBegin+"<p></p><xmp>x</xmp></body></html>", "html body", impl.MdBody)
}

func TestTakeAfterTheBody(t *testing.T) {
	for _, x := range []struct {
		fed  string
		page string
		row  string
		mode int
	}{
		{"</body>", bodyBegin + "</body></html>", "html body", impl.MdAfter},
		{"x</body> \n", bodyBegin + "x \n</body></html>", "html body", impl.MdAfter},
		{"<p>x</body> ", bodyBegin + "<p>x </p></body></html>", "html body p", impl.MdAfter},
		{"<p><b></p></body> ", bodyBegin + "<p><b></b></p><b> </b></body></html>", "html body b", impl.MdAfter},
		{"</body><!--1--></html><!--2-->", bodyBegin + "</body><!--1--><!--2--></html>", "html body", impl.MdAfter},
		{"<p></body><!--1-->", bodyBegin + "<p></p></body><!--1--></html>", "html body p", impl.MdAfter},
		{"</body><!doctype x></html><html id=1>", `<html id="1"><head></head><body></body></html>`, "html body", impl.MdAfter},
		{"</body></body></html></body>", bodyBegin + "</body></html>", "html body", impl.MdAfter},
		{"<p>x</body>y", bodyBegin + "<p>xy</p></body></html>", "html body p", impl.MdBody},
		{"<p>x</html>y", bodyBegin + "<p>xy</p></body></html>", "html body p", impl.MdBody},
		{"</body><p>", bodyBegin + "<p></p></body></html>", "html body p", impl.MdBody},
		{"</body><body id=1>", `<html><head></head><body id="1"></body></html>`, "html body", impl.MdBody},
		{"</body><head>", bodyBegin + "</body></html>", "html body", impl.MdBody},
		{"</body></p>", bodyBegin + "<p></p></body></html>", "html body", impl.MdBody},
		{"</body></x>", bodyBegin + "</body></html>", "html body", impl.MdBody},
		{"</body></br>", bodyBegin + "<br></body></html>", "html body", impl.MdBody},
		{"</body><title>x", bodyBegin + "<title>x</title></body></html>", "html body title", impl.MdText},
	} {
		checkBuilt(t, x.fed, fedNew(t, x.fed), x.page, x.row, x.mode)
	}
	checkLeft(t, fedNew(t, "<p>x</body>"), end())
	checkLeft(t, fedNew(t, "<p>x</html>"), end())
	for _, words := range []string{"html", "html x", "html body table", "html object p"} {
		b := opened(words)
		b.Mode = impl.MdAfter
		for _, token := range everyToken() {
			takenQuickly(t, b, token)
		}
		if after := checkTaken(t, b, comment("c")); after.Tree.Nodes[len(after.Tree.Nodes)-1].Parent != b.Row[0] || after.Mode != impl.MdAfter {
			t.Errorf("%s, and a comment: %s", words, buildText(after))
		}
		if after := checkTaken(t, b, closes("body")); after.Mode != impl.MdBody || !slices.Equal(after.Row, b.Row) {
			t.Errorf("%s, and a close of body: %s", words, buildText(after))
		}
	}
}

func TestTakeBodyCharsAndComments(t *testing.T) {
	checkBody(t, "x", "x", "", "")
	checkBody(t, " x\n", " x\n", "", "")
	checkBody(t, "<p><b>1</p>2", "<p><b>1</b></p><b>2</b>", "b", "b0")
	checkBody(t, "<p><b>1</p> ", "<p><b>1</b></p><b> </b>", "b", "b0")
	checkBody(t, "<p><b><i>1</p>2", "<p><b><i>1</i></b></p><b><i>2</i></b>", "b i", "b0 i1")
	checkBody(t, "<p><b>1</p><!--c-->", "<p><b>1</b></p><!--c-->", "", "b")
	checkBody(t, "<p>1<!--c-->2", "<p>1<!--c-->2</p>", "p", "")
	checkBody(t, "x<!doctype y>z", "xz", "", "")
	checkLeft(t, fedNew(t, "<p><b>1</p>"), end())
	checkLeft(t, fedNew(t, "<p><b>1</p>"), doctype("html"))
}

func attrsOfRow(b impl.Build, place int) string {
	return attrsText(b.Tree.Nodes[b.Row[place]].Attrs)
}

func TestTakeOpenHtmlAndBodyAddAttrs(t *testing.T) {
	for _, page := range []string{"<html a=1 b=2><p>", "<html a=1 b=2>", "<html a=1 b=2><head>", "<html a=1 b=2></head>", "<html a=1 b=2></body>"} {
		b := fedNew(t, page)
		for _, x := range []struct {
			attrs []string
			want  string
		}{
			{nil, `["a"="1" "b"="2"]`},
			{[]string{"a", "3"}, `["a"="1" "b"="2"]`},
			{[]string{"b", "", "a", ""}, `["a"="1" "b"="2"]`},
			{[]string{"c", "3"}, `["a"="1" "b"="2" "c"="3"]`},
			{[]string{"d", "4", "b", "0", "c", ""}, `["a"="1" "b"="2" "d"="4" "c"=""]`},
		} {
			after := checkTaken(t, b, opens("html", x.attrs...))
			if got := attrsOfRow(after, 0); got != x.want || after.Mode != b.Mode || !slices.Equal(after.Row, b.Row) || len(after.Tree.Nodes) != len(b.Tree.Nodes) {
				t.Errorf("behind %s html %v leads to %s, want %s", page, x.attrs, got, x.want)
			}
		}
	}
	for _, page := range []string{"<body a=1 b=2><p>", "<body a=1 b=2>"} {
		after := checkTaken(t, fedNew(t, page), opens("body", "b", "3", "c", "4"))
		if got := attrsOfRow(after, 1); got != `["a"="1" "b"="2" "c"="4"]` || attrsOfRow(after, 0) != "[]" {
			t.Errorf("behind %s body leads to %s", page, got)
		}
	}
}

func TestTakeMoreAttrsThanThereMayBe(t *testing.T) {
	for _, there := range []int{0, 1, 18, 19, 20} {
		for _, name := range []string{"html", "body"} {
			b := opened("html body p")
			place := slices.Index([]string{"html", "body"}, name)
			b.Tree.Nodes[1+place].Attrs = manyAttrs(there)
			token := impl.Token{Kind: impl.TkOpen, Name: name, Attrs: named("x", "n0", "y", "z")}
			after := checkTaken(t, b, token)
			want := slices.Concat(manyAttrs(there), named("x", "n0", "y", "z"))
			if there > 0 {
				want = slices.Delete(want, there+1, there+2)
			}
			want = want[:min(20, len(want))]
			if got := after.Tree.Nodes[1+place].Attrs; !slices.Equal(got, want) || after.Code != impl.BdWell {
				t.Errorf("%s with %d attrs has %s then, want %s", name, there, attrsText(got), attrsText(want))
			}
		}
	}
}

func TestTakeOpenBodyWhereTheSecondIsNone(t *testing.T) {
	for _, words := range []string{"html", "html x", "html x body", "html head body", "html p", "html html body", "html bodyy"} {
		checkLeft(t, opened(words), opens("body", "a", "1"))
		checkLeft(t, opened(words), opens("body"))
		checkLeft(t, opened(words), opens("head", "a", "1"))
	}
	b := opened("html body body")
	after := checkTaken(t, b, opens("body", "a", "1"))
	if attrsOfRow(after, 1) != `["a"="1"]` || attrsOfRow(after, 2) != "[]" {
		t.Error("two bodies:", buildText(after))
	}
}

func TestTakeOpenOfTheHeadInTheBody(t *testing.T) {
	for _, name := range strings.Split(headList, ", ") {
		void := listed("base, link, meta", name)
		want, row := "<p><b></b></p><"+name+` id="1">`, ""
		if !void {
			want, row = want+"</"+name+">", name
		}
		b := checkBody(t, "<p><b></p><"+name+" id=1>", want, row, "b")
		if void != (b.Mode == impl.MdBody) || !void && b.Old != impl.MdBody {
			t.Errorf("%s leads to %s", name, buildText(b))
		}
		if after := fed(t, b, "</"+name+">"); after.Mode != impl.MdBody || len(after.Row) != 2 {
			t.Errorf("the close of %s leads to %s", name, buildText(after))
		}
	}
	checkBody(t, "<p>1<script><b></script>2", "<p>1<script><b></script>2</p>", "p", "")
	checkBody(t, "<p><title>1</title><style>", "<p><title>1</title><style></style></p>", "p style", "")
}

func TestTakeOpenBlocks(t *testing.T) {
	for _, name := range append(strings.Split(blockList, ", "), "table", "pre", "listing", "plaintext", "li", "dd", "dt", "h1", "h6") {
		open, shut := "<"+name+">", "</"+name+">"
		checkBody(t, "<p>x"+open, "<p>x</p>"+open+shut, name, "")
		checkBody(t, "<p><span><option>"+open, "<p><span><option></option></span></p>"+open+shut, name, "")
		checkBody(t, open, open+shut, name, "")
		checkBody(t, "<p><button>"+open, "<p><button>"+open+shut+"</button></p>", "p button "+name, "")
		checkBody(t, "<p><object>"+open, "<p><object>"+open+shut+"</object></p>", "p object "+name, "|")
		checkBody(t, "<p><td>"+open, "<p><td>"+open+shut+"</td></p>", "p td "+name, "")
		checkBody(t, "<p><b>"+open, "<p><b></b></p>"+open+shut, name, "b")
		checkBody(t, "<span>"+open, "<span>"+open+shut+"</span>", "span "+name, "")
	}
	checkBody(t, "<div><p>1<div id=2>3", `<div><p>1</p><div id="2">3</div></div>`, "div div", "")
	checkBody(t, "<p>1<p>2<p>3", "<p>1</p><p>2</p><p>3</p>", "p", "")
	checkBody(t, "<p><b>1<p>2", "<p><b>1</b></p><p><b>2</b></p>", "p b", "b1")
	checkBody(t, "<p><dialog><p>", "<p></p><dialog><p></p></dialog>", "dialog p", "")
	checkBody(t, "<div/>x", "<div>x</div>", "div", "")
}

func TestTakeOpenHeadings(t *testing.T) {
	checkBody(t, "<h1>a<h2>b", "<h1>a</h1><h2>b</h2>", "h2", "")
	checkBody(t, "<h1>a<h1>b", "<h1>a</h1><h1>b</h1>", "h1", "")
	checkBody(t, "<h1><span><h2>b", "<h1><span><h2>b</h2></span></h1>", "h1 span h2", "")
	checkBody(t, "<h1><div><h2>", "<h1><div><h2></h2></div></h1>", "h1 div h2", "")
	checkBody(t, "<h1><p>a<h2>b", "<h1><p>a</p></h1><h2>b</h2>", "h2", "")
	checkBody(t, "<p><h3>", "<p></p><h3></h3>", "h3", "")
	checkBody(t, "<h1><b><h2>x", "<h1><b><h2>x</h2></b></h1>", "h1 b h2", "b1")
	checkBody(t, "<h1><span><h2><h3>", "<h1><span><h2></h2><h3></h3></span></h1>", "h1 span h3", "")
	for _, name := range strings.Split(headingList, ", ") {
		for _, other := range strings.Split(headingList, ", ") {
			checkBody(t, "<"+name+">1<"+other+">2", "<"+name+">1</"+name+"><"+other+">2</"+other+">", other, "")
		}
	}
	checkBody(t, "<h7>1<h7>2", "<h7>1<h7>2</h7></h7>", "h7 h7", "")
}

func TestTakeOpenPreAndPlaintext(t *testing.T) {
	for _, name := range []string{"pre", "listing"} {
		b := checkBody(t, "<p><"+name+" id=1>", "<p></p><"+name+` id="1"></`+name+">", name, "")
		if !b.Skip || b.Mode != impl.MdBody || b.Cut != impl.CutData {
			t.Errorf("%s leads to %s", name, buildText(b))
		}
	}
	b := checkBody(t, "<p>x<plaintext>y</plaintext><b>", "<p>x</p><plaintext>y</plaintext><b></plaintext>", "plaintext", "")
	if b.Cut != impl.CutPlain || b.Mode != impl.MdBody || b.Skip {
		t.Error("plaintext leads to", buildText(b))
	}
	checkBody(t, "<p><b></p><plaintext>y", "<p><b></b></p><plaintext><b>y</b></plaintext>", "plaintext b", "b1")
}

func TestTakeOpenItems(t *testing.T) {
	checkBody(t, "<ul><li>a<li>b", "<ul><li>a</li><li>b</li></ul>", "ul li", "")
	checkBody(t, "<li><li>", "<li></li><li></li>", "li", "")
	checkBody(t, "<ul><li>a<ul><li>b<li>c", "<ul><li>a<ul><li>b</li><li>c</li></ul></li></ul>", "ul li ul li", "")
	checkBody(t, "<li><ol><li>", "<li><ol><li></li></ol></li>", "li ol li", "")
	checkBody(t, "<p><li>", "<p></p><li></li>", "li", "")
	checkBody(t, "<li><b>1<li>2", "<li><b>1</b></li><li><b>2</b></li>", "li b", "b1")
	checkBody(t, "<dd><li>", "<dd><li></li></dd>", "dd li", "")
	checkBody(t, "<li><dd>", "<li><dd></dd></li>", "li dd", "")
	checkBody(t, "<dl><dt>a<dd>b<dt>c<dt>d<dd>e<dd>f", "<dl><dt>a</dt><dd>b</dd><dt>c</dt><dt>d</dt><dd>e</dd><dd>f</dd></dl>", "dl dd", "")
	checkBody(t, "<dd><dl><dt>", "<dd><dl><dt></dt></dl></dd>", "dd dl dt", "")
	checkBody(t, "<dt><p><dd>", "<dt><p></p></dt><dd></dd>", "dd", "")
	checkBody(t, "<dt><dd><dt>", "<dt></dt><dd></dd><dt></dt>", "dt", "")
	checkBody(t, "<p><dt>", "<p></p><dt></dt>", "dt", "")
	pairs := map[string]string{"li": "li", "dd": "dt", "dt": "dd"}
	for first, second := range pairs {
		for _, name := range tokenNames() {
			b := opened("html body " + first + " " + name + " option")
			after := checkTaken(t, b, opens(second))
			ends := expectedSpecial(name) && !listed("address, div, p", name)
			want := []int{1, 2}
			switch {
			case name == first, ends && (name == "dd" || name == "dt") && first != "li":
				want = []int{1, 2, 3}
			case ends:
				want = b.Row
			}
			if got := after.Row[:len(after.Row)-1]; !slices.Equal(got, want) {
				t.Errorf("%s over %s leaves %v of %s", second, name, got, rowNames(b.Tree, b.Row))
			}
		}
		b := opened("html body " + first + " address div p span div p address b")
		if after := checkTaken(t, b, opens(second)); len(after.Row) != 3 {
			t.Errorf("%s over many leads to %s", second, openNamesOf(after))
		}
	}
}

func TestTakeOpenButtonsAndOptions(t *testing.T) {
	checkBody(t, "<button>a<button>b", "<button>a</button><button>b</button>", "button", "")
	checkBody(t, "<button><p><span>a<button>b", "<button><p><span>a</span></p></button><button>b</button>", "button", "")
	checkBody(t, "<button><object><button>", "<button><object><button></button></object></button>", "button object button", "|")
	checkBody(t, "<p><b></p><button>x", "<p><b></b></p><b><button>x</button></b>", "b button", "b0")
	checkBody(t, "<button><b><button>x", "<button><b></b></button><b><button>x</button></b>", "b button", "b0")
	checkBody(t, "<p><button>", "<p><button></button></p>", "p button", "")
	checkBody(t, "<option>a<option>b", "<option>a</option><option>b</option>", "option", "")
	checkBody(t, "<option>a<optgroup>b", "<option>a</option><optgroup>b</optgroup>", "optgroup", "")
	checkBody(t, "<optgroup><option><optgroup>", "<optgroup><option></option><optgroup></optgroup></optgroup>", "optgroup optgroup", "")
	checkBody(t, "<optgroup><option>", "<optgroup><option></option></optgroup>", "optgroup option", "")
	checkBody(t, "<option><b>a<option>b", "<option><b>a<option>b</option></b></option>", "option b option", "b1")
	checkBody(t, "<p><b></p><option>x", "<p><b></b></p><b><option>x</option></b>", "b option", "b0")
	checkBody(t, "<option><p><option>", "<option><p><option></option></p></option>", "option p option", "")
}

func TestTakeOpenLinks(t *testing.T) {
	checkBody(t, "<a>1<a>2", "<a>1</a><a>2</a>", "a", "a0")
	checkBody(t, "<a href=1>1<a href=2>2", `<a href="1">1</a><a href="2">2</a>`, "a", "a0")
	checkBody(t, "<a href=1>1<p>2<a>3", `<a href="1">1</a><p><a href="1">2</a><a>3</a></p>`, "p a", "a1")
	checkBody(t, "<a>1<b>2<a>3", "<a>1<b>2</b></a><b><a>3</a></b>", "b a", "b0 a1")
	checkBody(t, "<p><a></p><a>x", "<p><a></a></p><a>x</a>", "a", "a0")
	checkBody(t, "<p><a></p><b><a>x", "<p><a></a></p><a><b></b></a><b><a>x</a></b>", "b a", "b0 a1")
	checkBody(t, "<a><object><a>", "<a><object><a></a></object></a>", "a object a", "a0 | a2")
	checkBody(t, "<a><table><a>x", "<a><table><a>x</a></table></a>", "table a", "a1")
	checkBody(t, "<a><td><b><a>x", "<a><td><b><a>x</a></b></td></a>", "td b a", "b1 a2")
	checkBody(t, "<b><p><b></b></b><a>1<a>2", "<b></b><p><b><b></b></b><a>1</a><a>2</a></p>", "p a", "a1")
	// The second link stands in the row alone: BuildAdopt takes it away, and the first one goes from both lists behind it.
	b := opened("html body a x a", 2)
	after := checkTaken(t, b, opens("a"))
	if !slices.Equal(after.Row, []int{1, 2, 4, 6}) || !slices.Equal(after.Fmts, []int{6}) || after.Tree.Nodes[6].Parent != 4 {
		t.Error("a link that is no format:", buildText(after))
	}
	b = opened("html a", 1)
	after = checkTaken(t, b, opens("a"))
	if !slices.Equal(after.Row, []int{1, 3}) || !slices.Equal(after.Fmts, []int{3}) {
		t.Error("a link right behind html:", buildText(after))
	}
}

func TestTakeOpenNobr(t *testing.T) {
	checkBody(t, "<nobr>1<nobr>2", "<nobr>1</nobr><nobr>2</nobr>", "nobr", "nobr0")
	checkBody(t, "<nobr>1<i>2<nobr>3", "<nobr>1<i>2</i></nobr><i><nobr>3</nobr></i>", "i nobr", "i0 nobr1")
	checkBody(t, "<nobr><object><nobr>", "<nobr><object><nobr></nobr></object></nobr>", "nobr object nobr", "nobr0 | nobr2")
	checkBody(t, "<nobr><table><nobr>", "<nobr><table><nobr></nobr></table></nobr>", "nobr table nobr", "nobr0 nobr2")
	checkBody(t, "<p><nobr>1</p><nobr>2", "<p><nobr>1</nobr></p><nobr></nobr><nobr>2</nobr>", "nobr", "nobr0")
	checkBody(t, "<p><b></p><nobr>2", "<p><b></b></p><b><nobr>2</nobr></b>", "b nobr", "b0 nobr1")
	checkBody(t, "<nobr>1<div>2<nobr>3", "<nobr>1</nobr><div><nobr>2</nobr><nobr>3</nobr></div>", "div nobr", "nobr1")
}

func TestTakeOpenFormats(t *testing.T) {
	for _, name := range strings.Split(formatList, ", ") {
		open, shut := "<"+name+` id="1">`, "</"+name+">"
		checkBody(t, "<p>"+open+"x</p>y", "<p>"+open+"x"+shut+"</p>"+open+"y"+shut, name, name+"0")
		checkBody(t, "<p><tt></p>"+open, "<p><tt></tt></p><tt>"+open+shut+"</tt>", "tt "+name, "tt0 "+name+"1")
		if name == "a" || name == "nobr" {
			continue
		}
		for n := 1; n <= 6; n++ {
			fmts := []string{}
			for place := max(0, n-3); place < n; place++ {
				fmts = append(fmts, name+strconv.Itoa(place))
			}
			row := strings.TrimSpace(strings.Repeat(name+" ", n))
			checkBody(t, strings.Repeat(open, n), strings.Repeat(open, n)+strings.Repeat(shut, n), row, strings.Join(fmts, " "))
		}
	}
	checkBody(t, "<b><b><b><b>", "<b><b><b><b></b></b></b></b>", "b b b b", "b1 b2 b3")
	checkBody(t, "<b><b id=1><b><b>", `<b><b id="1"><b><b></b></b></b></b>`, "b b b b", "b0 b1 b2 b3")
	checkBody(t, "<b x=1 y=2><b y=2 x=1><b x=1 y=2><b x=1 y=2>", `<b x="1" y="2"><b y="2" x="1"><b x="1" y="2"><b x="1" y="2"></b></b></b></b>`, "b b b b", "b1 b2 b3")
	checkBody(t, "<b><b><b><object><b>", "<b><b><b><object><b></b></object></b></b></b>", "b b b object b", "b0 b1 b2 | b4")
	checkBody(t, "<p><b><b><b><b><p>x", "<p><b><b><b><b></b></b></b></b></p><p><b><b><b>x</b></b></b></p>", "p b b b", "b1 b2 b3")
	checkBody(t, "<b/>x", "<b>x</b>", "b", "b0")
}

// fullFormats has a row of html and body, and n formats that are open beside it, no two alike.
func fullFormats(n int) impl.Build {
	b := opened("html body")
	for i := range n {
		at := len(b.Tree.Nodes)
		b.Tree.Nodes = append(b.Tree.Nodes, formatNode("u:id="+strconv.Itoa(i), -1))
		b.Fmts = append(b.Fmts, at)
	}
	b.Fmts = append(b.Fmts[:max(0, n-1)], -1)
	return b
}

func TestTakeWithFullFormats(t *testing.T) {
	for _, n := range []int{1, 57, 58, 59, 60} {
		b := fullFormats(n)
		checkBuildOk(t, b, true)
		for _, name := range []string{"applet", "marquee", "object"} {
			after := checkTaken(t, b, opens(name))
			want := b.Fmts
			if n < 60 {
				want = append(slices.Clone(b.Fmts), -1)
			}
			if !slices.Equal(after.Fmts, want) || after.Code != impl.BdWell || openNamesOf(after) != "html body "+name {
				t.Errorf("%s with %d formats: %s", name, n, buildText(after))
			}
		}
		for _, name := range []string{"b", "a", "nobr"} {
			after := checkTaken(t, b, opens(name))
			want := b.Fmts
			if n < 60 {
				want = append(slices.Clone(b.Fmts), after.Row[2])
			}
			if !slices.Equal(after.Fmts, want) || after.Code != impl.BdWell || openNamesOf(after) != "html body "+name {
				t.Errorf("%s with %d formats: %s", name, n, buildText(after))
			}
		}
	}
}

func TestTakeOpenOfBounds(t *testing.T) {
	for _, name := range []string{"applet", "marquee", "object"} {
		open, shut := "<"+name+">", "</"+name+">"
		checkBody(t, "<p>"+open, "<p>"+open+shut+"</p>", "p "+name, "|")
		checkBody(t, "<p><b></p>"+open+"x", "<p><b></b></p><b>"+open+"x"+shut+"</b>", "b "+name, "b0 |")
		checkBody(t, "<b>"+open+"<i>x<p>y</p>", "<b>"+open+"<i>x<p>y</p></i>"+shut+"</b>", "b "+name+" i", "b0 | i2")
		checkBody(t, "<b>"+open+"</b>", "<b>"+open+shut+"</b>", "b "+name, "b0 |")
	}
	for _, name := range []string{"td", "th", "tr", "tbody", "span", "svg", "html5", "x-y", "ruby", "form", "frameset"} {
		open, shut := "<"+name+">", "</"+name+">"
		checkBody(t, "<p><b></p>"+open+"x", "<p><b></b></p><b>"+open+"x"+shut+"</b>", "b "+name, "b0")
		checkBody(t, "<p>"+open, "<p>"+open+shut+"</p>", "p "+name, "")
	}
	checkBody(t, "<p><table><tr><td>1<td>2", "<p></p><table><tr><td>1<td>2</td></td></tr></table>", "table tr td td", "")
	checkBody(t, "<p><b></p><table>x", "<p><b></b></p><table><b>x</b></table>", "table b", "b1")
}

func TestTakeOpenOfWhatDoesNotStayOpen(t *testing.T) {
	for _, name := range []string{"area", "br", "embed", "img", "input", "wbr"} {
		checkBody(t, "<p><b></p><"+name+" x=y>z", "<p><b></b></p><b><"+name+` x="y">z</b>`, "b", "b0")
		checkBody(t, "<p><"+name+"/>z", "<p><"+name+">z</p>", "p", "")
	}
	checkBody(t, "<p><b></p><image x=y>z", `<p><b></b></p><b><img x="y">z</b>`, "b", "b0")
	checkBody(t, "<image>", "<img>", "", "")
	for _, name := range []string{"param", "source", "track"} {
		checkBody(t, "<p><b></p><"+name+" x=y>z", "<p><b></b></p><"+name+` x="y"><b>z</b>`, "b", "b0")
		checkBody(t, "<p><"+name+">z", "<p><"+name+">z</p>", "p", "")
	}
	checkBody(t, "<p>1<hr x=y>2", `<p>1</p><hr x="y">2`, "", "")
	checkBody(t, "<p><b>1<hr>2", "<p><b>1</b></p><hr><b>2</b>", "b", "b0")
	checkBody(t, "<p><object><hr>", "<p><object><hr></object></p>", "p object", "|")
}

func TestTakeOpenOfTexts(t *testing.T) {
	checkBody(t, "<textarea>\n<p>&amp;</textarea>x", "<textarea>&lt;p&gt;&amp;</textarea>x", "", "")
	checkBody(t, "<p><b></p><textarea>", "<p><b></b></p><textarea></textarea>", "textarea", "b")
	checkBody(t, "<p><textarea></textarea>x", "<p><textarea></textarea>x</p>", "p", "")
	checkBody(t, "<p><b><xmp>\n<i></xmp>x", "<p><b></b></p><b><xmp>\n<i></xmp>x</b>", "b", "b0")
	checkBody(t, "<p>1<xmp>2</xmp>3", "<p>1</p><xmp>2</xmp>3", "", "")
	for _, name := range []string{"iframe", "noembed"} {
		checkBody(t, "<p><b>1</p><"+name+"><i>&amp;</"+name+">2", "<p><b>1</b></p><"+name+"><i>&amp;</"+name+"><b>2</b>", "b", "b0")
		checkBody(t, "<p>1<"+name+">2</"+name+">3", "<p>1<"+name+">2</"+name+">3</p>", "p", "")
	}
	checkBody(t, "<noscript><select>x", "<noscript><select>x</select></noscript>", "noscript select", "")
}

func TestTakeCloseBodyAndHtml(t *testing.T) {
	for _, name := range []string{"body", "html"} {
		for _, words := range []string{"html body", "html body p b", "html x body", "html body ul button"} {
			b := opened(words)
			want := b
			want.Mode = impl.MdAfter
			if after := checkTaken(t, b, closes(name)); !sameBuild(after, want) {
				t.Errorf("a close of %s in %s leads to %s", name, words, buildText(after))
			}
		}
		for _, words := range []string{"html", "html x", "html body table", "html body object p", "html body td b", "html body html"} {
			checkLeft(t, opened(words), closes(name))
		}
	}
}

func TestTakeCloseBlocks(t *testing.T) {
	for _, name := range append(strings.Split(blockList, ", "), "button", "listing", "pre") {
		if name == "p" {
			continue
		}
		open, shut := "<"+name+">", "</"+name+">"
		checkBody(t, open+"<p><span>1"+shut+"2", open+"<p><span>1</span></p>"+shut+"2", "", "")
		checkBody(t, "<span>"+open+"<dd><option>"+shut+"2", "<span>"+open+"<dd><option></option></dd>"+shut+"2</span>", "span", "")
		if name != "button" {
			checkBody(t, "<x>"+open+open+shut, "<x>"+open+open+shut+shut+"</x>", "x "+name, "")
		}
		checkBody(t, "<span>"+shut, "<span></span>", "span", "")
		checkBody(t, open+"<object>"+shut, open+"<object></object>"+shut, name+" object", "|")
		checkBody(t, open+"<td><p>"+shut, open+"<td><p></p></td>"+shut, name+" td p", "")
		checkBody(t, open+"<b>1"+shut+"2", open+"<b>1</b>"+shut+"<b>2</b>", "b", "b0")
	}
	checkBody(t, "<button><button></button>", "<button></button><button></button>", "", "")
	checkBody(t, "<div><ul><button></div>", "<div><ul><button></button></ul></div>", "", "")
}

func TestTakeCloseP(t *testing.T) {
	checkBody(t, "<p>1</p>2", "<p>1</p>2", "", "")
	checkBody(t, "</p>", "<p></p>", "", "")
	checkBody(t, "<div></p>x", "<div><p></p>x</div>", "div", "")
	checkBody(t, "<p><span><option>1</p>2", "<p><span><option>1</option></span></p>2", "", "")
	checkBody(t, "<p><button></p>", "<p><button><p></p></button></p>", "p button", "")
	checkBody(t, "<p><object></p>", "<p><object><p></p></object></p>", "p object", "|")
	checkBody(t, "<p><ul></p>", "<p></p><ul><p></p></ul>", "ul", "")
	checkBody(t, "<p><b>1</p></p>2", "<p><b>1</b></p><p></p><b>2</b>", "b", "b0")
	checkBody(t, "<h1></p>", "<h1><p></p></h1>", "h1", "")
}

func TestTakeCloseItems(t *testing.T) {
	checkBody(t, "<ul><li>1</li>2", "<ul><li>1</li>2</ul>", "ul", "")
	checkBody(t, "<li><p><span>1</li>2", "<li><p><span>1</span></p></li>2", "", "")
	checkBody(t, "<li><ul></li>", "<li><ul></ul></li>", "li ul", "")
	checkBody(t, "<li><ol><span></li>", "<li><ol><span></span></ol></li>", "li ol span", "")
	checkBody(t, "<li><object></li>", "<li><object></object></li>", "li object", "|")
	checkBody(t, "<li><button></li>", "<li><button></button></li>", "", "")
	checkBody(t, "<span></li></dd></dt>", "<span></span>", "span", "")
	for _, name := range []string{"dd", "dt"} {
		open, shut := "<"+name+">", "</"+name+">"
		checkBody(t, open+"1"+shut+"2", open+"1"+shut+"2", "", "")
		checkBody(t, open+"<ul><li><p>1"+shut+"2", open+"<ul><li><p>1</p></li></ul>"+shut+"2", "", "")
		checkBody(t, open+"<table>"+shut, open+"<table></table>"+shut, name+" table", "")
	}
	checkBody(t, "<dd></dt>", "<dd></dd>", "dd", "")
	checkBody(t, "<dd><dl><dt></dd>", "<dd><dl><dt></dt></dl></dd>", "", "")
}

func TestTakeCloseHeadings(t *testing.T) {
	for _, name := range strings.Split(headingList, ", ") {
		for _, other := range strings.Split(headingList, ", ") {
			open, shut := "<"+name+">", "</"+name+">"
			checkBody(t, open+"1</"+other+">2", open+"1"+shut+"2", "", "")
			checkBody(t, open+"<span><p>1</"+other+">2", open+"<span><p>1</p></span>"+shut+"2", "", "")
			checkBody(t, open+"<object></"+other+">", open+"<object></object>"+shut, name+" object", "|")
			checkBody(t, open+"<span><h4>1</"+other+">2", open+"<span><h4>1</h4>2</span>"+shut, name+" span", "")
		}
		checkBody(t, "<span></"+name+">", "<span></span>", "span", "")
	}
	checkBody(t, "<h1><b>1</h1>2", "<h1><b>1</b></h1><b>2</b>", "b", "b0")
	checkBody(t, "<h1><object><h2><li></h3>", "<h1><object><h2><li></li></h2></object></h1>", "h1 object", "|")
	checkBody(t, "<h1></h7>", "<h1></h1>", "h1", "")
}

func TestTakeCloseFormats(t *testing.T) {
	for _, name := range strings.Split(formatList, ", ") {
		open, shut := "<"+name+">", "</"+name+">"
		checkBody(t, open+"1"+shut+"2", open+"1"+shut+"2", "", "")
		checkBody(t, open+"1<p>2"+shut+"3", open+"1"+shut+"<p>"+open+"2"+shut+"3</p>", "p", "")
		checkBody(t, "<p>"+open+"1</p>"+shut+"2", "<p>"+open+"1"+shut+"</p>2", "", "")
		checkBody(t, open+"<table>"+shut, open+"<table></table>"+shut, name+" table", name+"0")
		checkBody(t, "<span>"+shut, "<span></span>", "span", "")
	}
	checkBody(t, "<b>1<i>2</b>3</i>4", "<b>1<i>2</i></b><i>3</i>4", "", "")
	checkBody(t, "<p>1<b>2<i>3</p>4", "<p>1<b>2<i>3</i></b></p><b><i>4</i></b>", "b i", "b0 i1")
}

func TestTakeCloseOfBounds(t *testing.T) {
	for _, name := range []string{"applet", "marquee", "object"} {
		open, shut := "<"+name+">", "</"+name+">"
		checkBody(t, "<b>"+open+"<i>1"+shut+"2", "<b>"+open+"<i>1</i>"+shut+"2</b>", "b", "b0")
		checkBody(t, open+"<i><u><p>1"+shut+"2", open+"<i><u><p>1</p></u></i>"+shut+"2", "", "")
		checkBody(t, "<b></b>"+shut+"2", "<b></b>2", "", "")
		checkBody(t, "<b>"+shut+"2", "<b>2</b>", "b", "b0")
		checkBody(t, open+"<table><i>"+shut, open+"<table><i></i></table>"+shut, name+" table i", "| i2")
		checkBody(t, open+"<li><option>"+shut, open+"<li><option></option></li>"+shut, "", "")
		without := opened("html body b "+name+" i", 2, 4)
		if after := checkTaken(t, without, closes(name)); len(after.Fmts) != 0 || len(after.Row) != 3 {
			t.Errorf("without a bar the close of %s leads to %s", name, buildText(after))
		}
		two := opened("html body b "+name+" i", -1, 2, -1, 4)
		if after := checkTaken(t, two, closes(name)); !slices.Equal(after.Fmts, []int{-1, 3}) {
			t.Errorf("with two bars the close of %s leads to %s", name, buildText(after))
		}
	}
	checkBody(t, "<applet></object>", "<applet></applet>", "applet", "|")
}

func TestTakeCloseBrAndOthers(t *testing.T) {
	checkBody(t, "</br>", "<br>", "", "")
	checkBody(t, "<p><b></p></br>", "<p><b></b></p><b><br></b>", "b", "b0")
	checkBody(t, "<p></br></br>", "<p><br><br></p>", "p", "")
	checkBody(t, "<span>1</span>2", "<span>1</span>2", "", "")
	checkBody(t, "<span><x><option>1</span>2", "<span><x><option>1</option></x></span>2", "", "")
	checkBody(t, "<span><div></span>", "<span><div></div></span>", "span div", "")
	checkBody(t, "<table><tr><td>1</table>2", "<table><tr><td>12</td></tr></table>", "table tr td", "")
	checkBody(t, "<table><x>1</table>2", "<table><x>1</x></table>2", "", "")
	checkBody(t, "<option>1</option>2</optgroup>", "<option>1</option>2", "", "")
	checkBody(t, "<span></head></title></img></image></hr>", "<span></span>", "span", "")
	checkBody(t, "<span><b>1</span>2", "<span><b>1</b></span><b>2</b>", "b", "b0")
	checkBody(t, "<textarea></textarea></textarea>", "<textarea></textarea>", "", "")
}

// needsRoom has tokens of the body that put something in, and how many nodes they take behind "<p><b><i>x</p>".
func needsRoom() map[string]int {
	return map[string]int{
		"x": 3, " ": 3, "<!--c-->": 1, "<link>": 1, "<title>": 1, "<script>": 1, "<div>": 1, "<h1>": 1, "<pre>": 1, "<li>": 1, "<dd>": 1,
		"<plaintext>": 1, "<button>": 3, "<a>": 3, "<nobr>": 3, "<u>": 3, "<applet>": 3, "<table>": 1, "<br>": 3, "<image>": 3, "<param>": 1, "<hr>": 1,
		"<textarea>": 1, "<xmp>": 3, "<iframe>": 1, "<option>": 3, "<optgroup>": 3, "<span>": 3, "</p>": 1, "</br>": 3,
		"<html a=1>": 0, "<body a=1>": 0, "<head>": 0, "</body>": 0, "</b>": 0, "</span>": 0, "<!doctype x>": 0,
	}
}

func TestTakeInATreeWithoutRoom(t *testing.T) {
	begun := fedNew(t, "<p><b><i>x</p>")
	for page, need := range needsRoom() {
		token := impl.Tokens(runesOf(page))[0]
		for room := range 5 {
			b := padded(begun, 500-room)
			after := checkTaken(t, b, token)
			code := impl.BdWell
			if room < need {
				code = impl.BdLarge
			}
			if added := min(need, room); after.Code != code || len(after.Tree.Nodes) != 500-room+added {
				t.Errorf("%s with room for %d: code %d, %d nodes more", page, room, after.Code, len(after.Tree.Nodes)-500+room)
			}
			b.Code = impl.BdLarge
			if room == 0 && need > 0 && !sameBuild(after, b) {
				t.Errorf("%s without room leads to %s", page, buildText(after))
			}
			if room < need {
				checkLeft(t, after, token)
			}
		}
	}
}

// What is closed ahead of an element that has no room stays closed.
func TestTakeWithoutRoomBehindAClose(t *testing.T) {
	for _, x := range []struct{ fed, row string }{
		{"<p><div>", "html body"}, {"<h1><h2>", "html body"}, {"<li><li>", "html body"}, {"<dd><dt>", "html body"}, {"<p><pre>", "html body"},
		{"<p><plaintext>", "html body"}, {"<button><button>", "html body"}, {"<option><option>", "html body"}, {"<p><table>", "html body"},
		{"<p><hr>", "html body"}, {"<p><xmp>", "html body"}, {"<a><a>", "html body"}, {"<nobr><nobr>", "html body"}, {"<ul><p><li>", "html body ul"},
	} {
		at := strings.LastIndex(x.fed, "<")
		b := padded(fedNew(t, "<body>"+x.fed[:at]), 500)
		after := fed(t, b, x.fed[at:])
		if after.Code != impl.BdLarge || openNamesOf(after) != x.row || after.Skip || after.Cut != impl.CutData || after.Mode != impl.MdBody || len(after.Fmts) != 0 {
			t.Errorf("%s without room leads to %s", x.fed, buildText(after))
		}
	}
	b := fedNew(t, "<a>1<p>2")
	for room := range 4 {
		after := checkTaken(t, padded(b, 500-room), opens("a"))
		if code := map[bool]int{true: impl.BdLarge, false: impl.BdWell}[room < 2]; after.Code != code {
			t.Errorf("a link within a link with room for %d: code %d", room, after.Code)
		}
		if link := b.Row[2]; room == 0 && (!slices.Contains(after.Row, link) || !slices.Contains(after.Fmts, link)) {
			t.Errorf("a link that can't be adopted is taken away: %s", buildText(after))
		}
	}
}

func TestTakeAheadOfTheBodyWithoutRoom(t *testing.T) {
	for _, x := range []struct {
		token impl.Token
		modes []int // by how many nodes there is room for
		codes []int
	}{
		{comment("c"), []int{1, 1}, []int{1, 0}},
		{doctype("html"), []int{1, 2}, []int{1, 0}},
		{char("x"), []int{2, 3, 5, 6, 6}, []int{1, 1, 1, 1, 0}},
		{opens("p"), []int{2, 3, 5, 6, 6}, []int{1, 1, 1, 1, 0}},
		{end(), []int{2, 3, 5, 6}, []int{1, 1, 1, 0}},
		{closes("html"), []int{2, 3, 5, 8}, []int{1, 1, 1, 0}},
		{opens("html"), []int{2, 3}, []int{1, 0}},
		{opens("head"), []int{2, 3, 4}, []int{1, 1, 0}},
		{opens("body"), []int{2, 3, 5, 6}, []int{1, 1, 1, 0}},
		{opens("link"), []int{2, 3, 4, 4}, []int{1, 1, 1, 0}},
		{opens("title"), []int{2, 3, 4, 7}, []int{1, 1, 1, 0}},
		{closes("head"), []int{2, 3, 5}, []int{1, 1, 0}},
		{closes("p"), []int{2}, []int{0}},
	} {
		for room := range x.modes {
			after := checkTaken(t, padded(impl.BuildNew(), 500-room), x.token)
			if after.Mode != x.modes[room] || after.Code != x.codes[room] {
				t.Errorf("%s with room for %d: mode %d, code %d", tokenText(x.token), room, after.Mode, after.Code)
			}
			if head := []int{-1, -1, 501 - room}[min(2, room)]; x.modes[room] > 3 && after.Head != head {
				t.Errorf("%s with room for %d: the head is %d", tokenText(x.token), room, after.Head)
			}
		}
	}
}

func TestTakeInAFullRow(t *testing.T) {
	for _, name := range []string{
		"title", "script", "div", "p", "h1", "pre", "listing", "li", "dd", "dt", "plaintext", "button", "a", "nobr", "b", "applet", "object", "table", "textarea",
		"xmp", "iframe", "noembed", "option", "optgroup", "span", "td",
	} {
		b := opened("html body" + strings.Repeat(" x", 38))
		b.Fmts = []int{-1}
		after := checkTaken(t, b, opens(name, "q", "1"))
		count := len(b.Tree.Nodes)
		put := after.Tree.Nodes[len(after.Tree.Nodes)-1]
		if after.Code != impl.BdDeep || len(after.Tree.Nodes) != count+1 || put.Name != name || len(put.Attrs) != 1 || put.Parent != b.Row[39] {
			t.Errorf("%s in a full row: code %d, %s", name, after.Code, nodeText(put))
		}
		after.Code, after.Tree = impl.BdWell, b.Tree
		if !sameBuild(after, b) {
			t.Errorf("%s in a full row turned more: %s", name, buildText(after))
		}
		b.Row = b.Row[:39]
		after = checkTaken(t, b, opens(name))
		if after.Code != impl.BdWell || len(after.Row) != 40 || after.Row[39] != count {
			t.Errorf("%s in a row with room for one: %s", name, buildText(after))
		}
	}
	full := opened("html body" + strings.Repeat(" x", 38))
	for _, token := range []impl.Token{opens("br"), opens("hr"), opens("param"), opens("link"), char("x"), comment("c"), closes("br")} {
		after := checkTaken(t, full, token)
		if after.Code != impl.BdWell || !slices.Equal(after.Row, full.Row) || len(after.Tree.Nodes) != len(full.Tree.Nodes)+1 {
			t.Errorf("%s in a full row leads to %s", tokenText(token), buildText(after))
		}
	}
	after := checkTaken(t, full, closes("p"))
	if after.Code != impl.BdDeep || !slices.Equal(after.Row, full.Row) || after.Tree.Nodes[len(full.Tree.Nodes)].Name != "p" {
		t.Error("a close of p in a full row leads to", buildText(after))
	}
	// What is closed first makes room.
	for fedRow, name := range map[string]string{"p": "div", "li": "li", "h2": "h3", "button": "button", "option": "option", "dd": "dt"} {
		b := opened("html body" + strings.Repeat(" x", 37) + " " + fedRow)
		if after := checkTaken(t, b, opens(name)); after.Code != impl.BdWell || len(after.Row) != 40 {
			t.Errorf("%s behind %s: %s", name, fedRow, buildText(after))
		}
	}
}

func TestTakeInAFullRowWithFormatsToBeginAnew(t *testing.T) {
	for _, n := range []int{37, 38, 39, 40} {
		for _, page := range []string{"x", "<br>", "<u>", "<span>", "<object>", "<xmp>", "<a>", "<nobr>", "<button>", "<option>"} {
			b := deep(n, "b i")
			after := fed(t, b, page)
			need := map[string]int{"x": 2, "<br>": 2}[page]
			if need == 0 {
				need = 3
			}
			code := impl.BdWell
			if n+need > 40 {
				code = impl.BdDeep
			}
			if after.Code != code || len(after.Row) != min(40, n+need) || after.Mode != impl.MdBody && code == impl.BdDeep {
				t.Errorf("%s in a row of %d: code %d, a row of %d", page, n, after.Code, len(after.Row))
			}
		}
	}
}

// A Row of MaxStack ahead of the body: a build may be so, though no page leads there.
func TestTakeAheadOfTheBodyInAFullRow(t *testing.T) {
	for _, mode := range []int{impl.MdHead, impl.MdInHead, impl.MdBehind, impl.MdText, impl.MdAfter} {
		b := opened("html" + strings.Repeat(" x", 39))
		b.Mode, b.Old = mode, impl.MdBehind
		for _, token := range everyToken() {
			takenQuickly(t, b, token)
			takenQuickly(t, padded(b, 500), token)
		}
	}
	head := opened("html" + strings.Repeat(" x", 39))
	head.Mode = impl.MdHead
	for _, token := range []impl.Token{opens("head", "a", "1"), char("x"), opens("link"), end(), closes("head")} {
		after := checkTaken(t, head, token)
		if after.Code != impl.BdDeep || after.Head != -1 || after.Mode != impl.MdHead || !slices.Equal(after.Row, head.Row) || after.Tree.Nodes[41].Parent != 40 {
			t.Errorf("%s where the head does not stay open: %s", tokenText(token), buildText(after))
		}
	}
	behind := head
	behind.Mode = impl.MdBehind
	for _, token := range []impl.Token{opens("body"), char("x"), end(), closes("body"), opens("p")} {
		after := checkTaken(t, behind, token)
		if after.Code != impl.BdDeep || after.Mode != impl.MdBehind || !slices.Equal(after.Row, head.Row) || after.Tree.Nodes[41].Name != "body" {
			t.Errorf("%s where the body does not stay open: %s", tokenText(token), buildText(after))
		}
	}
}

func TestTakeTextsThatGetTooLong(t *testing.T) {
	for _, mode := range []int{impl.MdInHead, impl.MdBehind, impl.MdBody, impl.MdText, impl.MdAfter} {
		for _, size := range []int{1, 2995, 2996, 2997, 2998, 2999, 3000} {
			for _, piece := range []string{" ", "x", "é", "€", "😀"} {
				if piece != " " && mode != impl.MdBody && mode != impl.MdText {
					continue
				}
				b := opened("html body")
				b.Tree.Nodes = append(b.Tree.Nodes, textNode(strings.Repeat("y", size), 2))
				b.Tree.Nodes[2].Kids = []int{3}
				b.Mode, b.Old = mode, impl.MdBody
				after := checkTaken(t, b, char(piece))
				fits := size+len(piece) <= 3000
				if fits != (after.Code == impl.BdWell) || !fits && after.Code != impl.BdLarge || len(after.Tree.Nodes) != 4 {
					t.Errorf("%q behind %d bytes: code %d, %d nodes", piece, size, after.Code, len(after.Tree.Nodes))
				}
				b.Code = impl.BdLarge
				if !fits && !sameBuild(after, b) {
					t.Errorf("%q behind %d bytes turned more", piece, size)
				}
				b.Code = impl.BdWell
				b.Tree.Nodes = append(b.Tree.Nodes, commentNode("c", 2))
				b.Tree.Nodes[2].Kids = []int{3, 4}
				if after := checkTaken(t, b, char(piece)); after.Code != impl.BdWell || len(after.Tree.Nodes) != 6 {
					t.Errorf("%q behind a comment: code %d", piece, after.Code)
				}
			}
		}
	}
	b := opened("html body")
	b.Tree.Nodes = append(b.Tree.Nodes, textNode("y", 2))
	b.Tree.Nodes[2].Kids = []int{3}
	if after := checkTaken(t, padded(b, 500), char("x")); after.Code != impl.BdWell || after.Tree.Nodes[3].Text != "yx" {
		t.Error("a text that is there needs no room:", buildText(after))
	}
	if after := checkTaken(t, padded(opened("html body"), 500), char("x")); after.Code != impl.BdLarge {
		t.Error("a new text needs room:", buildText(after))
	}
}

func TestTakeLargeTokens(t *testing.T) {
	name := strings.Repeat("n", 60)
	for _, token := range []impl.Token{
		comment(strings.Repeat("c", 3000)), doctype(strings.Repeat("D", 60)), opens(name), closes(name), {Kind: impl.TkOpen, Name: "p", Attrs: manyAttrs(20)},
		{Kind: impl.TkOpen, Name: "html", Attrs: manyAttrs(20)}, {Kind: impl.TkOpen, Name: "title", Attrs: manyAttrs(20)}, opens("a", "href", strings.Repeat("v", 3000)),
		opens("script", strings.Repeat("a", 60), ""),
	} {
		for _, page := range []string{"", "<html>", "<head>", "<head></head>", "<p><b></p>", "<xmp>", "</body>"} {
			checkTaken(t, fedNew(t, page), token)
		}
	}
	after := checkTaken(t, fedNew(t, "<body>"), opens(name))
	if openNamesOf(after) != "html body "+name {
		t.Error("an element with a long name:", buildText(after))
	}
}

// hasWholePage tells whether below the page stands an html, and below that a head and a body.
func hasWholePage(tree impl.Tree) bool {
	names := func(kids []int) []string {
		list := []string{}
		for _, kid := range kids {
			list = append(list, tree.Nodes[kid].Name)
		}
		return list
	}
	for _, kid := range tree.Nodes[0].Kids {
		if tree.Nodes[kid].Kind == impl.NdElement && tree.Nodes[kid].Name == "html" {
			below := names(tree.Nodes[kid].Kids)
			return slices.Contains(below, "head") && slices.Contains(below, "body")
		}
	}
	return false
}

// randomTokens picks tokens by the bytes, those that hang together more often.
func randomTokens(steps []byte) []impl.Token {
	often := wordsOf("p b i a div li ul nobr h1 h2 button table object dd dt option optgroup pre textarea title script br hr span x body html head")
	all := everyToken()
	tokens := []impl.Token{}
	for i := 0; i+1 < len(steps); i += 2 {
		name := often[int(steps[i+1])%len(often)]
		switch how := steps[i] % 16; {
		case how < 5:
			tokens = append(tokens, opens(name))
		case how < 7:
			tokens = append(tokens, opens(name, "id", strconv.Itoa(int(steps[i]%5))))
		case how < 10:
			tokens = append(tokens, closes(name))
		case how < 12:
			tokens = append(tokens, char(string("xy \n"[steps[i+1]%4])))
		case how < 13:
			tokens = append(tokens, []impl.Token{comment("c"), doctype("html"), end(), closes("p")}[steps[i+1]%4])
		default:
			tokens = append(tokens, all[int(steps[i+1])*len(all)/256])
		}
	}
	return tokens
}

// checkStream takes the tokens one behind the other; beside each answer it asks for promise 13.
func checkStream(t *testing.T, b impl.Build, tokens []impl.Token) {
	t.Helper()
	inBody := false
	for i, token := range tokens {
		if i%9 == 0 {
			b = checkTaken(t, b, token)
		} else {
			b = takenQuickly(t, b, token)
		}
		inBody = inBody || b.Mode == impl.MdBody
		if inBody && !hasWholePage(b.Tree) {
			t.Errorf("in the body there is no whole page: %s", buildText(b))
		}
		if t.Failed() {
			return
		}
	}
}

func TestTakeStreamsOfTokens(t *testing.T) {
	for seed := range uint32(150) {
		checkStream(t, impl.BuildNew(), randomTokens(manySteps(seed, 160)))
	}
}

// Few tokens, one behind the other in each order.
func TestTakeEachShortStream(t *testing.T) {
	tokens := []impl.Token{
		char(" "), char("x"), comment("c"), doctype("d"), end(), opens("html", "a", "1"), opens("head"), opens("body"), opens("title"), opens("link"),
		opens("p"), opens("b"), opens("pre"), closes("head"), closes("body"), closes("html"), closes("title"), closes("p"), closes("b"),
	}
	eachNumbers(3, 0, len(tokens)-1, func(picks []int) {
		b := impl.BuildNew()
		for i, pick := range picks {
			if i < len(picks)-1 {
				b = impl.BuildTake(b, tokens[pick])
			} else {
				b = takenQuickly(t, b, tokens[pick])
			}
		}
		if b.Mode == impl.MdBody && !hasWholePage(b.Tree) {
			t.Errorf("%v: there is no whole page: %s", picks, buildText(b))
		}
	})
}

// madeTaking is a build in any mode, as the bytes tell: most of these no page leads to.
func madeTaking(steps []byte) impl.Build {
	b := madeBuild(steps)
	if len(steps) < 6 {
		return b
	}
	b.Mode, b.Old = 1+int(steps[0])%8, 4+int(steps[1])%3
	if b.Mode <= 2 {
		b.Row = nil
	}
	for at := int(steps[2]) % len(b.Tree.Nodes); at > 0; at-- {
		if b.Tree.Nodes[at].Kind == impl.NdElement {
			b.Head = at
			break
		}
	}
	b.Cut, b.Skip, b.Last = 1+int(steps[3])%4, steps[4]%4 == 0, "last"
	return b
}

func checkMadeTaking(t *testing.T, steps []byte) {
	t.Helper()
	b := madeTaking(steps)
	checkBuildOk(t, b, true)
	tokens := randomTokens(steps)
	for i, at := range b.Row[max(0, len(b.Row)-4):] {
		tokens = append(tokens, closes(b.Tree.Nodes[at].Name), opens(b.Tree.Nodes[at].Name, "z", strconv.Itoa(i)))
	}
	for i, token := range tokens {
		takenQuickly(t, b, token)
		takenQuickly(t, padded(b, 500-i%5), token)
	}
	for i, token := range tokens {
		if i%5 == 0 {
			b = checkTaken(t, b, token)
		} else {
			b = takenQuickly(t, b, token)
		}
	}
}

func TestTakeInMadeBuilds(t *testing.T) {
	for seed := range uint32(120) {
		checkMadeTaking(t, manySteps(seed+1000, 6+2*int(seed%60)))
	}
}

func TestTakeAskedByManyAtOnce(t *testing.T) {
	builds := []impl.Build{impl.BuildNew(), fedNew(t, "<p><b><i>x</p>"), fedNew(t, "</head><title>"), fedNew(t, "<a><p></body>")}
	var all sync.WaitGroup
	for range 8 {
		all.Go(func() {
			for _, b := range builds {
				for _, token := range fewTokens() {
					takenQuickly(t, b, token)
				}
			}
		})
	}
	all.Wait()
}

func FuzzTake(f *testing.F) {
	for seed := range uint32(8) {
		f.Add(manySteps(seed, 60), "<p><b>x</p>", "a", 5, 6, 6)
	}
	f.Fuzz(func(t *testing.T, steps []byte, page string, name string, kind int, mode int, old int) {
		if len(steps) > 160 || len(page) > 300 || len(name) > 100 {
			return
		}
		checkMadeTaking(t, steps)
		checkStream(t, impl.BuildNew(), randomTokens(steps))
		fed(t, impl.BuildNew(), page)
		b := madeBuild(steps)
		b.Mode, b.Old = mode, old
		for _, token := range []impl.Token{{Kind: kind, Name: name}, {Kind: kind, Text: name}, opens(name, page, page), closes(name), comment(page)} {
			checkTaken(t, b, token)
			checkTaken(t, impl.BuildNew(), token)
		}
	})
}
