package tests

import (
	"fmt"
	"math"
	"slices"
	"strconv"
	"strings"
	"sync"
	"testing"

	"loop.example/g00118/impl"
)

// bodyBuild is a build in MdBody, whose tree and lists are the caller's.
func bodyBuild(tree impl.Tree, row []int, fmts []int) impl.Build {
	return impl.Build{Tree: tree, Row: row, Fmts: fmts, Mode: impl.MdBody, Old: impl.MdInitial, Head: -1, Cut: impl.CutData}
}

// opened has the elements that the words tell, each below the one ahead of it, open. Its formats are told by their
// places in the row, or -1 for a bar.
func opened(words string, places ...int) impl.Build {
	nodes, row, fmts := []impl.Node{pageNode()}, []int{}, []int{}
	for i, word := range wordsOf(words) {
		nodes = append(nodes, formatNode(word, i))
		row = append(row, i+1)
	}
	for _, place := range places {
		if place >= 0 {
			place = row[place]
		}
		fmts = append(fmts, place)
	}
	return bodyBuild(linked(nodes), row, fmts)
}

// padded has comments below none, as many as are needed for that number of nodes.
func padded(b impl.Build, count int) impl.Build {
	b = cloneBuild(b)
	for len(b.Tree.Nodes) < count {
		b.Tree.Nodes = append(b.Tree.Nodes, commentNode("", -1))
	}
	return b
}

func cloneBuild(b impl.Build) impl.Build {
	b.Tree, b.Row, b.Fmts = cloneTree(b.Tree), slices.Clone(b.Row), slices.Clone(b.Fmts)
	return b
}

func sameBuild(a impl.Build, b impl.Build) bool {
	return sameTree(a.Tree, b.Tree) && slices.Equal(a.Row, b.Row) && slices.Equal(a.Fmts, b.Fmts) && a.Mode == b.Mode &&
		a.Old == b.Old && a.Head == b.Head && a.Cut == b.Cut && a.Last == b.Last && a.Skip == b.Skip && a.Code == b.Code
}

func buildText(b impl.Build) string {
	return fmt.Sprint(treeText(b.Tree), " row ", rowNames(b.Tree, b.Row), " ", fmtsText(b.Row), " fmts ", fmtsText(b.Fmts), " mode ", b.Mode,
		" old ", b.Old, " head ", b.Head, " cut ", b.Cut, " last ", short(b.Last), " skip ", b.Skip, " code ", b.Code)
}

// buildFits and what is expected below go by the sentences of the document.
func buildFits(b impl.Build) bool {
	if !treeFits(b.Tree) || !stackFits(b.Tree, b.Row) || !fmtsFit(b.Tree, b.Fmts) {
		return false
	}
	if !slices.Contains([]int{1, 2, 3, 4, 5, 6, 7, 8}, b.Mode) || !slices.Contains([]int{1, 2, 3, 4, 5, 6, 8}, b.Old) {
		return false
	}
	if b.Head != -1 && (!thereIs(b.Tree, b.Head) || b.Tree.Nodes[b.Head].Kind != 3) {
		return false
	}
	if !slices.Contains([]int{1, 2, 3, 4}, b.Cut) || len(b.Last) > 60 || !slices.Contains([]int{0, 1, 2}, b.Code) {
		return false
	}
	if b.Mode == 7 && !slices.Contains([]int{4, 5, 6}, b.Old) {
		return false
	}
	if b.Mode == 1 || b.Mode == 2 {
		return len(b.Row) == 0
	}
	return len(b.Row) > 0 && b.Tree.Nodes[b.Row[0]].Name == "html"
}

func likeOf(b impl.Build, at int) impl.Node {
	return impl.Node{Kind: 3, Name: b.Tree.Nodes[at].Name, Attrs: b.Tree.Nodes[at].Attrs}
}

// toldToHang leaves the tree as it is where a node may not be hung there.
func toldToHang(b impl.Build, child int, parent int) impl.Build {
	b.Tree, _ = impl.TreeHang(b.Tree, child, parent)
	return b
}

func putOpen(b impl.Build, n impl.Node) (impl.Build, int) {
	tree, at := impl.TreeAdd(b.Tree, n)
	if at == -1 {
		b.Code = 1
		return b, -1
	}
	b.Tree = tree
	current := 0
	if len(b.Row) > 0 {
		current = b.Row[len(b.Row)-1]
	}
	b = toldToHang(b, at, current)
	if len(b.Row) == 40 {
		b.Code = 2
		return b, -1
	}
	b.Row = append(slices.Clone(b.Row), at)
	return b, at
}

// A row that is empty stays so, as a build in MdInitial or MdHtml is to stay right.
func expectedRebuild(b impl.Build) impl.Build {
	b = cloneBuild(b)
	if !buildFits(b) || b.Code != 0 || len(b.Row) == 0 {
		return b
	}
	from := len(b.Fmts)
	for from > 0 && b.Fmts[from-1] != -1 && !slices.Contains(b.Row, b.Fmts[from-1]) {
		from--
	}
	for place := range b.Fmts[from:] {
		after, at := putOpen(b, likeOf(b, b.Fmts[from+place]))
		b = after
		if b.Code != 0 {
			break
		}
		b.Fmts[from+place] = at
	}
	return b
}

func expectedClose(b impl.Build, name string) impl.Build {
	b = cloneBuild(b)
	if !buildFits(b) || b.Code != 0 {
		return b
	}
	for place, at := range slices.Backward(b.Row) {
		open := b.Tree.Nodes[at].Name
		switch {
		case place == 0:
			return b
		case open == name:
			left := expectedPopImplied(b.Tree, b.Row, name)
			b.Row = slices.Clone(left[:slices.Index(left, at)])
			return b
		case expectedSpecial(open):
			return b
		}
	}
	return b
}

func expectedAdopt(b impl.Build, name string) impl.Build {
	b = cloneBuild(b)
	if !buildFits(b) || b.Code != 0 {
		return b
	}
	if last := len(b.Row) - 1; last >= 0 && b.Tree.Nodes[b.Row[last]].Name == name && !slices.Contains(b.Fmts, b.Row[last]) {
		if last > 0 {
			b.Row = b.Row[:last]
		}
		return b
	}
	more := true
	for time := 1; time <= 8 && more; time++ {
		b, more = expectedTime(b, name)
	}
	return b
}

// expectedTime is one of the eight times. The mark is not reckoned here: it stands as a number of its own in the list.
func expectedTime(b impl.Build, name string) (impl.Build, bool) {
	place := expectedFind(b.Tree, b.Fmts, name)
	if place == -1 {
		return expectedClose(b, name), false
	}
	f := b.Fmts[place]
	from := slices.Index(b.Row, f)
	if from == -1 {
		b.Fmts = expectedFmtLess(b.Fmts, f)
		return b, false
	}
	behind := b.Row[from+1:]
	if slices.ContainsFunc(behind, func(at int) bool { return listed(boundList, b.Tree.Nodes[at].Name) }) {
		return b, false
	}
	to := slices.IndexFunc(behind, func(at int) bool { return expectedSpecial(b.Tree.Nodes[at].Name) })
	if to == -1 {
		b.Row, b.Fmts = slices.Clone(b.Row[:from]), expectedFmtLess(b.Fmts, f)
		return b, false
	}
	after, done := expectedHandingOn(cloneBuild(b), f, behind[to], b.Row[from-1], slices.Clone(behind[:to]))
	if !done {
		b.Code = 1
		return b, false
	}
	return after, true
}

const markNumber = -7

func expectedHandingOn(b impl.Build, f int, block int, outer int, between []int) (impl.Build, bool) {
	b.Fmts = slices.Insert(b.Fmts, slices.Index(b.Fmts, f), markNumber)
	last := block
	for i, n := range slices.Backward(between) {
		k := len(between) - i
		if k > 3 {
			b.Fmts = expectedFmtLess(b.Fmts, n)
		}
		if !slices.Contains(b.Fmts, n) {
			b.Row = expectedFmtLess(b.Row, n)
			continue
		}
		tree, anew := impl.TreeAdd(b.Tree, likeOf(b, n))
		if anew == -1 {
			return b, false
		}
		b.Tree = tree
		b.Row[slices.Index(b.Row, n)] = anew
		b.Fmts[slices.Index(b.Fmts, n)] = anew
		if last == block {
			b.Fmts = expectedFmtLess(b.Fmts, markNumber)
			b.Fmts = slices.Insert(b.Fmts, slices.Index(b.Fmts, anew)+1, markNumber)
		}
		b = toldToHang(b, last, anew)
		last = anew
	}
	b = toldToHang(b, last, outer)
	tree, anew := impl.TreeAdd(b.Tree, likeOf(b, f))
	if anew == -1 {
		return b, false
	}
	b.Tree = tree
	for len(b.Tree.Nodes[block].Kids) > 0 {
		b = toldToHang(b, b.Tree.Nodes[block].Kids[0], anew)
	}
	b = toldToHang(b, anew, block)
	b.Fmts = expectedFmtLess(b.Fmts, f)
	b.Fmts[slices.Index(b.Fmts, markNumber)] = anew
	b.Row = expectedFmtLess(b.Row, f)
	b.Row = slices.Insert(b.Row, slices.Index(b.Row, block)+1, anew)
	return b, true
}

func checkBuildOk(t *testing.T, b impl.Build, want bool) {
	t.Helper()
	g, row, fmts := guardTree(b.Tree), guard(b.Row, 1), guard(b.Fmts, 1)
	b.Tree, b.Row, b.Fmts = g.arg, row.arg, fmts.arg
	if got := impl.BuildOk(b); got != want || buildFits(b) != want {
		t.Errorf("BuildOk of %s = %v, want %v", buildText(b), got, want)
	}
	if !g.untouched() || !row.untouched() || !fmts.untouched() {
		t.Errorf("BuildOk of %s wrote into its argument", buildText(b))
	}
}

// fillBuild writes other things into each list of an answer, and tells whether two of them share memory.
func fillBuild(b impl.Build) bool {
	overwrite(b.Row, -3000)
	overwrite(b.Fmts, -4000)
	shares := fillTree(b.Tree)
	shares = shares || slices.ContainsFunc(b.Row[:cap(b.Row)], func(x int) bool { return x != -3000 })
	return shares || slices.ContainsFunc(b.Fmts[:cap(b.Fmts)], func(x int) bool { return x != -4000 })
}

// checkTurned asks what a call answers of a build, that it stays right, and that its memory is its own.
func checkTurned(t *testing.T, what string, b impl.Build, want impl.Build, call func(impl.Build) impl.Build) impl.Build {
	t.Helper()
	g, row, fmts := guardTree(b.Tree), guard(b.Row, 1), guard(b.Fmts, 1)
	given := b
	given.Tree, given.Row, given.Fmts = g.arg, row.arg, fmts.arg
	first := call(given)
	if !sameBuild(first, want) {
		t.Errorf("%s of %s\n got  %s\n want %s", what, buildText(b), buildText(first), buildText(want))
	}
	if impl.BuildOk(first) != buildFits(b) {
		t.Errorf("%s of %s is not right: %s", what, buildText(b), buildText(first))
	}
	answer := cloneBuild(first)
	second := call(given)
	if fillBuild(first) {
		t.Errorf("%s of %s: two lists of the answer share memory", what, buildText(b))
	}
	if !g.untouched() || !row.untouched() || !fmts.untouched() {
		t.Errorf("%s of %s wrote into its argument, or shares memory with it", what, buildText(b))
	}
	fillBuild(given)
	if !sameBuild(second, answer) {
		t.Errorf("%s of %s: a second answer shares memory with the first one or with the argument", what, buildText(b))
	}
	return answer
}

func checkRebuild(t *testing.T, b impl.Build) impl.Build {
	t.Helper()
	return checkTurned(t, "BuildRebuild", b, expectedRebuild(b), impl.BuildRebuild)
}

func checkAdopt(t *testing.T, b impl.Build, name string) impl.Build {
	t.Helper()
	return checkTurned(t, "BuildAdopt "+short(name), b, expectedAdopt(b, name), func(b impl.Build) impl.Build {
		return impl.BuildAdopt(b, name)
	})
}

func checkClose(t *testing.T, b impl.Build, name string) impl.Build {
	t.Helper()
	return checkTurned(t, "BuildClose "+short(name), b, expectedClose(b, name), func(b impl.Build) impl.Build {
		return impl.BuildClose(b, name)
	})
}

// checkBuild asks each function about one build and one name.
func checkBuild(t *testing.T, b impl.Build, name string) {
	t.Helper()
	checkBuildOk(t, b, buildFits(b))
	checkRebuild(t, b)
	checkAdopt(t, b, name)
	checkClose(t, b, name)
}

// checkStays asks that no function turns that build.
func checkStays(t *testing.T, b impl.Build, names ...string) {
	t.Helper()
	for _, name := range names {
		for what, answer := range map[string]impl.Build{
			"BuildRebuild": checkRebuild(t, b), "BuildAdopt": checkAdopt(t, b, name), "BuildClose": checkClose(t, b, name),
		} {
			if !sameBuild(answer, b) {
				t.Errorf("%s (%s) turned %s to %s", what, short(name), buildText(b), buildText(answer))
			}
		}
	}
}

// buildQuickly asks the same without a look at memory, for builds by the thousand.
func buildQuickly(t *testing.T, b impl.Build, name string) {
	t.Helper()
	right := buildFits(b)
	if got := impl.BuildOk(b); got != right {
		t.Errorf("BuildOk of %s = %v", buildText(b), got)
	}
	for _, x := range []struct {
		what string
		got  impl.Build
		want impl.Build
	}{
		{"BuildRebuild", impl.BuildRebuild(b), expectedRebuild(b)},
		{"BuildAdopt " + name, impl.BuildAdopt(b, name), expectedAdopt(b, name)},
		{"BuildClose " + name, impl.BuildClose(b, name), expectedClose(b, name)},
	} {
		if !sameBuild(x.got, x.want) || impl.BuildOk(x.got) != right {
			t.Errorf("%s of %s\n got  %s\n want %s", x.what, buildText(b), buildText(x.got), buildText(x.want))
		}
	}
}

// played opens html and body, and does what each word tells: "'x" writes x, "/x" is the close of an x, "\x" BuildClose
// and "!x" BuildAdopt of it, "~" BuildRebuild, "|" a bar, "<x" cuts the row ahead of the last x, "-x" takes it alone from
// the row, "+x" opens an x that is no format, "x" opens one. Each answer is asked for.
func played(t *testing.T, script string) impl.Build {
	t.Helper()
	b := opened("html body")
	for _, word := range wordsOf(script) {
		rest := word[1:]
		switch word[0] {
		case '\'':
			b.Tree, _ = impl.TreeWrite(b.Tree, b.Row[len(b.Row)-1], rest)
		case '/':
			if listed(formatList, rest) {
				b = checkAdopt(t, b, rest)
			} else {
				b = checkClose(t, b, rest)
			}
		case '!':
			b = checkAdopt(t, b, rest)
		case '\\':
			b = checkClose(t, b, rest)
		case '~':
			b = checkRebuild(t, b)
		case '|':
			b.Fmts = append(slices.Clone(b.Fmts), -1)
		case '<':
			b.Row = slices.Clone(b.Row[:expectedOpenAt(b.Tree, b.Row, rest)])
		case '-':
			b.Row = expectedFmtLess(b.Row, b.Row[expectedOpenAt(b.Tree, b.Row, rest)])
		case '+':
			b, _ = putOpen(b, formatNode(rest, -1))
		default:
			after, at := putOpen(b, formatNode(word, -1))
			b = after
			if listed(formatList, b.Tree.Nodes[at].Name) {
				b.Fmts = impl.FmtPush(b.Tree, b.Fmts, at)
			}
		}
	}
	return b
}

// laid tells the page within the body, the names of the row behind the body, and the formats, each with its place in the
// row behind the body, if it has one.
func laid(b impl.Build) (string, string, string) {
	page := strings.TrimSuffix(strings.TrimPrefix(impl.PrintOf(b.Tree), "<html><body>"), "</body></html>")
	row, fmts := []string{}, []string{}
	for _, at := range b.Row[min(2, len(b.Row)):] {
		row = append(row, b.Tree.Nodes[at].Name)
	}
	for _, at := range b.Fmts {
		switch place := slices.Index(b.Row, at); {
		case at == -1:
			fmts = append(fmts, "|")
		case place == -1:
			fmts = append(fmts, b.Tree.Nodes[at].Name)
		default:
			fmts = append(fmts, b.Tree.Nodes[at].Name+strconv.Itoa(place-2))
		}
	}
	return page, strings.Join(row, " "), strings.Join(fmts, " ")
}

func checkLaid(t *testing.T, what string, b impl.Build, page string, row string, fmts string) {
	t.Helper()
	gotPage, gotRow, gotFmts := laid(b)
	if gotPage != page || gotRow != row || gotFmts != fmts || b.Code != impl.BdWell {
		t.Errorf("%s\n got  %s ; %s ; %s ; code %d\n want %s ; %s ; %s", what, gotPage, gotRow, gotFmts, b.Code, page, row, fmts)
	}
}

func checkPlayed(t *testing.T, script string, page string, row string, fmts string) {
	t.Helper()
	checkLaid(t, script, played(t, script), page, row, fmts)
}

func TestBuildConstants(t *testing.T) {
	modes := []int{impl.MdInitial, impl.MdHtml, impl.MdHead, impl.MdInHead, impl.MdBehind, impl.MdBody, impl.MdText, impl.MdAfter}
	if !slices.Equal(modes, numbersFrom(1, 8)) || impl.BdWell != 0 || impl.BdLarge != 1 || impl.BdDeep != 2 {
		t.Error("a constant is not as told")
	}
}

func TestBuildNew(t *testing.T) {
	want := impl.Build{Tree: treeOf(pageNode()), Mode: 1, Old: 1, Head: -1, Cut: 1}
	first, second := impl.BuildNew(), impl.BuildNew()
	if !sameBuild(first, want) {
		t.Error("BuildNew is", buildText(first))
	}
	checkBuildOk(t, first, true)
	if fillBuild(first) || !sameBuild(second, want) || !sameBuild(impl.BuildNew(), want) {
		t.Error("two answers of BuildNew share memory, or two lists of one")
	}
	first = impl.BuildNew()
	first.Row, first.Fmts = append(first.Row, 1), append(first.Fmts, 2)
	first.Tree.Nodes = append(first.Tree.Nodes, commentNode("", -1))
	first.Tree.Nodes[0].Kids = append(first.Tree.Nodes[0].Kids, 1)
	if !sameBuild(impl.BuildNew(), want) {
		t.Error("a later change of an answer is seen in the next one")
	}
	checkStays(t, impl.BuildNew(), "html", "b", "")
}

// inMode has a row that fits to the mode.
func inMode(mode int) impl.Build {
	b := opened("html body b")
	b.Mode = mode
	if mode == 7 {
		b.Old = 6
	}
	if mode == 1 || mode == 2 {
		b.Row = nil
	}
	return b
}

func TestBuildOkOfModes(t *testing.T) {
	numbers := append(append(farNumbers(), numbersFrom(-3, 12)...), 1<<32+6, 1<<32+1, math.MaxInt, math.MinInt, 256+6, -6)
	for _, mode := range numbers {
		for _, old := range numbers {
			b := inMode(mode)
			b.Old = old
			want := mode >= 1 && mode <= 8 && old >= 1 && old <= 8 && old != 7
			if mode == 7 {
				want = old == 4 || old == 5 || old == 6
			}
			checkBuildOk(t, b, want)
			if !want {
				checkStays(t, b, "b")
			}
		}
	}
}

func TestBuildOkOfRowsInEachMode(t *testing.T) {
	for mode := 1; mode <= 8; mode++ {
		empty := mode == 1 || mode == 2
		b := inMode(mode)
		for _, row := range [][]int{nil, {}} {
			b.Row = row
			checkBuildOk(t, b, empty)
		}
		for _, row := range [][]int{{1}, {1, 2}, {1, 3, 2}} {
			b.Row = row
			checkBuildOk(t, b, !empty)
		}
		for _, row := range [][]int{{2}, {3}, {2, 1}, {3, 2, 1}, {0}, {-1}, {4}, {1, 1}, {1, 2, 2}, {1, 0}, {1, -1}, {1, 4}, {0, 1}} {
			b.Row = row
			checkStays(t, b, "b")
			checkBuildOk(t, b, false)
		}
	}
	for _, name := range append(kindNames(), "htm", "htmll", "xhtml", "html5", "span") {
		b := opened(name + " body b")
		checkBuildOk(t, b, name == "html")
	}
	away := opened("html body")
	away.Tree = treeOf(pageNode(), elementNode("html", -1, 2), elementNode("body", 1))
	checkBuildOk(t, away, true)
	two := opened("html html")
	checkBuildOk(t, two, true)
}

func TestBuildOkOfTrees(t *testing.T) {
	for _, tree := range wrongTrees() {
		for _, row := range [][]int{nil, {1}, {2}, {0}, {1, 2}, {500}} {
			for _, mode := range []int{1, 2, 6, 8} {
				b := bodyBuild(tree, row, nil)
				b.Mode = mode
				checkBuildOk(t, b, false)
				checkStays(t, b, "p", "b", "")
			}
		}
	}
	good := opened("html body b:x=1 i", 2)
	for at := range good.Tree.Nodes {
		for _, turn := range []func(n *impl.Node){
			func(n *impl.Node) { n.Kind = 9 },
			func(n *impl.Node) { n.Text = "x" },
			func(n *impl.Node) { n.Parent = at },
			func(n *impl.Node) { n.Kids = append(n.Kids, at) },
			func(n *impl.Node) { n.Attrs = named("a", "a") },
			func(n *impl.Node) { n.Name += " " },
		} {
			b := good
			b.Tree = with(good.Tree, at, turn)
			checkStays(t, b, "b", "i", "html")
			checkBuildOk(t, b, false)
		}
	}
	for _, count := range []int{499, 500} {
		checkBuildOk(t, padded(good, count), true)
	}
	checkBuildOk(t, padded(good, 501), false)
	checkStays(t, padded(good, 501), "b", "i")
	checkStays(t, impl.Build{}, "b", "")
}

func TestBuildOkOfLongRowsAndFormats(t *testing.T) {
	for _, n := range []int{1, 2, 39, 40, 41, 42} {
		b := opened("html " + strings.Repeat("span ", n-1))
		checkBuildOk(t, b, n <= 40)
	}
	many := manyFormats(70)
	many.Nodes[0].Kids = append(many.Nodes[0].Kids, 71)
	many.Nodes = append(many.Nodes, elementNode("html", 0))
	for _, n := range []int{0, 1, 59, 60, 61, 62} {
		checkBuildOk(t, bodyBuild(many, []int{71}, numbersFrom(1, n)), n <= 60)
		checkBuildOk(t, bodyBuild(many, []int{71}, repeated(-1, n)), n <= 60)
	}
	for _, fmts := range [][]int{{71}, {0}, {-2}, {72}, {1, 1}, {1, -1, 1}, {1, 71}, {math.MaxInt}, {math.MinInt}} {
		b := bodyBuild(many, []int{71}, fmts)
		checkBuildOk(t, b, false)
		checkStays(t, b, "a", "b", "html")
	}
	checkStays(t, bodyBuild(many, []int{71}, numbersFrom(1, 61)), "a", "b")
	checkStays(t, opened("html "+strings.Repeat("span ", 40)), "span")
}

func TestBuildOkOfTheHead(t *testing.T) {
	b := opened("html head")
	b.Tree = treeOf(pageNode(1, 5, 6), elementNode("html", 0, 2, 3, 4), elementNode("head", 1), textNode("x", 1), commentNode("head", 1),
		doctypeNode("head", 0), elementNode("head", 0), elementNode("b", -1, 8), elementNode("head", 7))
	numbers := append(append(farNumbers(), numbersFrom(-4, 12)...), 499, 500, 1<<32-1, 1<<32+2, math.MaxInt, math.MinInt)
	for _, head := range numbers {
		b.Head = head
		is := slices.Contains([]int{-1, 1, 2, 6, 7, 8}, head)
		checkBuildOk(t, b, is)
		if !is {
			checkStays(t, b, "head")
		}
	}
}

func TestBuildOkOfCutsAndCodes(t *testing.T) {
	numbers := append(append(farNumbers(), numbersFrom(-3, 9)...), 256, 257, 1<<32, 1<<32+1, math.MaxInt, math.MinInt)
	for mode := 1; mode <= 8; mode++ {
		for _, x := range numbers {
			b := inMode(mode)
			b.Cut = x
			checkBuildOk(t, b, x >= 1 && x <= 4)
			b.Cut, b.Code = 4, x
			checkBuildOk(t, b, x >= 0 && x <= 2)
		}
	}
	for _, x := range numbers {
		b := opened("html body b p", 2)
		b.Cut = x
		if x < 1 || x > 4 {
			checkStays(t, b, "b", "p")
		}
		b.Cut, b.Code = 1, x
		if x != 0 {
			checkStays(t, b, "b", "p")
		}
	}
}

func TestBuildOkOfLastNames(t *testing.T) {
	for _, piece := range []string{"x", "X", " ", "\x00", "\xff", "\x80", "\n", "<"} {
		for _, n := range []int{0, 1, 2, 59, 60, 61, 62, 120, 256, 316, 100000} {
			b := opened("html body b p", 2)
			b.Last = strings.Repeat(piece, n)
			checkBuildOk(t, b, n <= 60)
			if n > 60 {
				checkStays(t, b, "b", "p")
			}
		}
	}
	for _, n := range []int{1, 29, 30, 31, 32} {
		b := inMode(7)
		b.Last = strings.Repeat("é", n)
		checkBuildOk(t, b, n <= 30)
	}
}

func TestBuildsKeepWhatTheyAreNotToldToTurn(t *testing.T) {
	for mode := 1; mode <= 8; mode++ {
		for cut := 1; cut <= 4; cut++ {
			b := opened("html body b p i u", 4, 2)
			b.Mode, b.Cut, b.Skip, b.Head, b.Last, b.Old = mode, cut, cut%2 == 0, 2, "\xffany", 5
			if mode <= 2 {
				b.Row = nil
			}
			for _, name := range wordsOf("b p i u html body x") {
				checkBuild(t, b, name)
			}
			b.Row = b.Row[:min(len(b.Row), 2)]
			checkBuild(t, b, "b")
		}
	}
}

// What went wrong stays told, and nothing else is done.
func TestBuildsThatWentWrong(t *testing.T) {
	for _, code := range []int{impl.BdLarge, impl.BdDeep} {
		for _, script := range wordsOf("b b_p b_i b_u_p b_b_p_div") {
			b := played(t, strings.ReplaceAll(script, "_", " "))
			b.Code = code
			checkBuildOk(t, b, true)
			checkStays(t, b, "b", "i", "u", "p", "div", "span")
			b.Row = b.Row[:2]
			checkStays(t, b, "b", "i", "u", "p", "div", "span")
			checkStays(t, padded(b, 500), "b", "i")
		}
	}
}

func TestRebuildOfNothing(t *testing.T) {
	checkStays(t, opened("html body span"), "x")
	for _, b := range []impl.Build{
		opened("html body"),
		opened("html body p"),
		opened("html body b", 2),
		opened("html body b i", 2, 3),
		opened("html body b i", 3, 2),
		opened("html body b", -1),
		opened("html body b", 2, -1),
		opened("html body b", -1, -1),
	} {
		if !sameBuild(checkRebuild(t, b), b) {
			t.Errorf("BuildRebuild turned %s", buildText(b))
		}
		for len(b.Row) > 2 && len(b.Fmts) > 0 && b.Fmts[len(b.Fmts)-1] == -1 {
			b.Row = b.Row[:len(b.Row)-1]
			if !sameBuild(checkRebuild(t, b), b) {
				t.Errorf("BuildRebuild turned %s", buildText(b))
			}
		}
	}
	checkPlayed(t, "b p i <b ~", "<b><p><i></i></p></b><b><i></i></b>", "b i", "b0 i1")
	checkPlayed(t, "b p i <p ~", "<b><p><i></i></p><i></i></b>", "b i", "b0 i1")
	checkPlayed(t, "b p i -b ~", "<b><p><i></i></p></b>", "p i", "b i1")
	checkPlayed(t, "b | <b ~", "<b></b>", "", "b |")
}

func TestRebuildOfOneTwoAndThree(t *testing.T) {
	checkPlayed(t, "b <b ~", "<b></b><b></b>", "b", "b0")
	checkPlayed(t, "b 'x <b ~ 'y", "<b>x</b><b>y</b>", "b", "b0")
	checkPlayed(t, "b i <b ~", "<b><i></i></b><b><i></i></b>", "b i", "b0 i1")
	checkPlayed(t, "b i u <b ~", "<b><i><u></u></i></b><b><i><u></u></i></b>", "b i u", "b0 i1 u2")
	checkPlayed(t, "b i u <i ~", "<b><i><u></u></i><i><u></u></i></b>", "b i u", "b0 i1 u2")
	checkPlayed(t, "b i u <u ~", "<b><i><u></u><u></u></i></b>", "b i u", "b0 i1 u2")
	checkPlayed(t, "b | i u <b ~", "<b><i><u></u></i></b><i><u></u></i>", "i u", "b | i0 u1")
	checkPlayed(t, "b | i | u <b ~", "<b><i><u></u></i></b><u></u>", "u", "b | i | u0")
	checkPlayed(t, "| b <b ~", "<b></b><b></b>", "b", "| b0")
	checkPlayed(t, "b i p <b p ~", "<b><i><p></p></i></b><p><b><i></i></b></p>", "p b i", "b1 i2")
	checkPlayed(t, "b:x=1,y=2 <b ~", `<b x="1" y="2"></b><b x="1" y="2"></b>`, "b", "b0")
	checkPlayed(t, "b:x=1 b:x=2 b <b <b <b ~", `<b x="1"><b x="2"><b></b></b></b><b x="1"><b x="2"><b></b></b></b>`, "b b b", "b0 b1 b2")
	checkPlayed(t, "b <b ~ <b ~", "<b></b><b></b><b></b>", "b", "b0")
	checkPlayed(t, "b <b ~ ~ ~", "<b></b><b></b>", "b", "b0")
}

// One that stands in the row ends the way back, also where others further ahead in the list do not.
func TestRebuildGoesBackToTheFirstThatIsOpen(t *testing.T) {
	b := opened("html body b i u em", 2, 3, 4, 5)
	for _, row := range [][]int{{1, 2}, {1, 2, 3}, {1, 2, 4}, {1, 2, 5}, {1, 2, 6}, {1, 2, 3, 5}, {1, 2, 6, 3}, {1}, {1, 5, 4}} {
		b.Row = row
		checkBuild(t, b, "b")
		after := checkRebuild(t, b)
		last := 0
		for place, at := range b.Fmts {
			if slices.Contains(row, at) {
				last = place + 1
			}
		}
		if len(after.Row) != len(row)+4-last || !slices.Equal(after.Fmts[:last], b.Fmts[:last]) || !slices.Equal(after.Fmts[last:], after.Row[len(row):]) {
			t.Errorf("with the row %v: %s", row, buildText(after))
		}
	}
}

func TestRebuildMakesNewElementsOfTheOldOnes(t *testing.T) {
	tree, _ := openNames("html", "body", "b", "i", "u")
	tree.Nodes[3].Attrs, tree.Nodes[4].Attrs, tree.Nodes[5].Attrs = manyAttrs(20), named("id", "class"), nil
	tree.Nodes = append(tree.Nodes, textNode("x", 4))
	tree.Nodes[4].Kids = append(tree.Nodes[4].Kids, 6)
	b := bodyBuild(tree, []int{1, 2}, []int{3, 4, 5})
	after := checkRebuild(t, b)
	if !slices.Equal(after.Row, []int{1, 2, 7, 8, 9}) || !slices.Equal(after.Fmts, []int{7, 8, 9}) {
		t.Fatal("begun anew:", buildText(after))
	}
	for i, old := range []int{3, 4, 5} {
		n := after.Tree.Nodes[7+i]
		if n.Name != tree.Nodes[old].Name || !slices.Equal(n.Attrs, tree.Nodes[old].Attrs) || n.Kind != impl.NdElement {
			t.Errorf("node %d is %s", 7+i, nodeText(n))
		}
		if parent := after.Row[1+i]; n.Parent != parent || !slices.Contains(after.Tree.Nodes[parent].Kids, 7+i) {
			t.Errorf("node %d stands below %d", 7+i, n.Parent)
		}
		if old != 3 && !sameNode(after.Tree.Nodes[old], tree.Nodes[old]) {
			t.Errorf("the old one %d is %s", old, nodeText(after.Tree.Nodes[old]))
		}
	}
	if !slices.Equal(after.Tree.Nodes[2].Kids, []int{3, 7}) {
		t.Error("the body has", after.Tree.Nodes[2].Kids)
	}
}

// deep has a row of n, and formats that are not in it.
func deep(n int, formats string) impl.Build {
	b := opened("html " + strings.Repeat("span ", n-1))
	for _, word := range wordsOf(formats) {
		at := len(b.Tree.Nodes)
		b.Tree.Nodes = append(b.Tree.Nodes, formatNode(word, -1))
		b.Fmts = append(b.Fmts, at)
	}
	return b
}

func TestRebuildThatGetsTooDeep(t *testing.T) {
	for _, n := range []int{36, 37, 38, 39, 40} {
		b := deep(n, "b:x=1 i u")
		count := len(b.Tree.Nodes)
		after := checkRebuild(t, b)
		stay := min(3, 40-n)
		code, added := impl.BdWell, 3
		if stay < 3 {
			code, added = impl.BdDeep, stay+1
		}
		if after.Code != code || len(after.Row) != n+stay || len(after.Tree.Nodes) != count+added {
			t.Fatalf("from %d on: code %d, a row of %d, %d nodes", n, after.Code, len(after.Row), len(after.Tree.Nodes)-count)
		}
		for i := range added {
			parent := b.Row[n-1]
			if i > 0 {
				parent = count + i - 1
			}
			if after.Tree.Nodes[count+i].Parent != parent || after.Tree.Nodes[count+i].Name != []string{"b", "i", "u"}[i] {
				t.Errorf("from %d on: %s", n, nodeText(after.Tree.Nodes[count+i]))
			}
		}
		for i := range 3 {
			want := b.Fmts[i]
			if i < stay {
				want = count + i
			}
			if after.Fmts[i] != want {
				t.Errorf("from %d on: the formats are %v", n, after.Fmts)
			}
		}
	}
}

func TestRebuildThatGetsTooLarge(t *testing.T) {
	for room := range 5 {
		b := padded(deep(5, "b:x=1 i u"), 500-room)
		after := checkRebuild(t, b)
		code := impl.BdWell
		if room < 3 {
			code = impl.BdLarge
		}
		added := min(3, room)
		if after.Code != code || len(after.Row) != 5+added || len(after.Tree.Nodes) != 500-room+added {
			t.Errorf("with room for %d: %s", room, buildText(after))
		}
		if !slices.Equal(after.Fmts[:added], after.Row[5:]) || !slices.Equal(after.Fmts[added:], b.Fmts[added:]) {
			t.Errorf("with room for %d: the formats are %v", room, after.Fmts)
		}
	}
	full := padded(deep(40, "b"), 500)
	if after := checkRebuild(t, full); after.Code != impl.BdLarge || !sameTree(after.Tree, full.Tree) {
		t.Error("too large and too deep:", buildText(after))
	}
	both := padded(deep(39, "b i"), 499)
	if after := checkRebuild(t, both); after.Code != impl.BdLarge || len(after.Row) != 40 || len(after.Tree.Nodes) != 500 {
		t.Error("too large, and then too deep:", buildText(after))
	}
	nothing := padded(opened("html body b", 2), 500)
	if !sameBuild(checkRebuild(t, nothing), nothing) {
		t.Error("nothing is begun anew, and yet it is too large")
	}
}

// Ahead of html none is open, and none may be: formats are left as they are then.
func TestRebuildWhereNoneIsOpen(t *testing.T) {
	for _, mode := range []int{impl.MdInitial, impl.MdHtml} {
		b := deep(1, "b i")
		b.Mode, b.Row = mode, nil
		checkBuildOk(t, b, true)
		if after := checkRebuild(t, b); !sameBuild(after, b) {
			t.Errorf("BuildRebuild turned %s", buildText(after))
		}
		after := checkAdopt(t, b, "b")
		if !slices.Equal(after.Fmts, b.Fmts[1:]) || len(after.Row) != 0 {
			t.Error("adopted:", buildText(after))
		}
		if !sameBuild(checkAdopt(t, b, "u"), b) || !sameBuild(checkClose(t, b, "b"), b) {
			t.Error("where none is open, something was closed")
		}
	}
}

func TestCloseOfAnyOther(t *testing.T) {
	checkPlayed(t, "span /span", "<span></span>", "", "")
	checkPlayed(t, "span x /span", "<span><x></x></span>", "", "")
	checkPlayed(t, "span x y /x", "<span><x><y></y></x></span>", "span", "")
	checkPlayed(t, "span x span /span", "<span><x><span></span></x></span>", "span x", "")
	checkPlayed(t, "span x span /x", "<span><x><span></span></x></span>", "span", "")
	checkPlayed(t, "span x /y", "<span><x></x></span>", "span x", "")
	checkPlayed(t, "span p /span", "<span><p></p></span>", "span p", "")
	checkPlayed(t, "span p /p", "<span><p></p></span>", "span", "")
	checkPlayed(t, "span p x /p", "<span><p><x></x></p></span>", "span", "")
	checkPlayed(t, "p div x /p", "<p><div><x></x></div></p>", "p div x", "")
	checkPlayed(t, "dialog x /dialog", "<dialog><x></x></dialog>", "", "")
	checkPlayed(t, "x dialog search /x", "<x><dialog><search></search></dialog></x>", "", "")
	checkPlayed(t, "x b i \\x", "<x><b><i></i></b></x>", "", "b i")
	checkPlayed(t, "x b i \\b", "<x><b><i></i></b></x>", "x", "b i")
}

func TestCloseOfTheFirstOnes(t *testing.T) {
	checkStays(t, opened("html"), "x", "p", "body", "")
	for _, words := range []string{"html", "html body", "html body p", "html span", "html html", "html span html"} {
		b := opened(words)
		after := checkClose(t, b, "html")
		want := b.Row
		if last := strings.LastIndex(words, " html"); last > 0 {
			want = b.Row[:len(b.Row)-1]
		}
		if !slices.Equal(after.Row, want) {
			t.Errorf("close of html in %s leaves %v", words, after.Row)
		}
	}
	if after := checkClose(t, opened("html body"), "body"); !slices.Equal(after.Row, []int{1}) {
		t.Error("close of body leaves", after.Row)
	}
	if after := checkClose(t, opened("html x y z"), "x"); !slices.Equal(after.Row, []int{1}) {
		t.Error("close of x leaves", after.Row)
	}
}

func TestCloseOverImpliedElements(t *testing.T) {
	checkPlayed(t, "x option optgroup option /x", "<x><option><optgroup><option></option></optgroup></option></x>", "", "")
	checkPlayed(t, "option x option /option", "<option><x><option></option></x></option>", "option x", "")
	checkPlayed(t, "option optgroup /option", "<option><optgroup></optgroup></option>", "", "")
	checkPlayed(t, "option optgroup option /optgroup", "<option><optgroup><option></option></optgroup></option>", "option", "")
	checkPlayed(t, "option option option /option", "<option><option><option></option></option></option>", "option option", "")
	checkPlayed(t, "x li /x", "<x><li></li></x>", "x li", "")
	checkPlayed(t, "li option /li", "<li><option></option></li>", "", "")
}

func TestCloseWithEachNameOnTheWay(t *testing.T) {
	for _, name := range append(kindNames(), "span", "x-y") {
		b := opened("html x " + name + " y")
		after := checkClose(t, b, "x")
		want := []int{1}
		if expectedSpecial(name) {
			want = b.Row
		}
		if !slices.Equal(after.Row, want) {
			t.Errorf("close of x over %s leaves %v", name, after.Row)
		}
		if after := checkClose(t, b, name); !slices.Equal(after.Row, []int{1, 2}) {
			t.Errorf("close of %s leaves %v", name, after.Row)
		}
	}
}

func TestCloseOfNamesThatAreNone(t *testing.T) {
	for _, name := range []string{"", " ", "B", "\xff", "\x00", "b ", strings.Repeat("b", 61), strings.Repeat("x", 100000)} {
		for _, words := range []string{"html", "html body", "html body b p", "html body x option"} {
			b := opened(words)
			if !sameBuild(checkClose(t, b, name), b) || !sameBuild(checkAdopt(t, b, name), b) {
				t.Errorf("a close of %q turned %s", short(name), words)
			}
		}
		checkStays(t, opened("html body b p", 2), name)
	}
}

func TestAdoptOfTheCurrentOne(t *testing.T) {
	checkPlayed(t, "+b /b", "<b></b>", "", "")
	checkPlayed(t, "b +b /b", "<b><b></b></b>", "b", "b0")
	checkPlayed(t, "+b b /b", "<b><b></b></b>", "b", "")
	checkPlayed(t, "b p +b /b", "<b><p><b></b></p></b>", "b p", "b0")
	checkPlayed(t, "b /b", "<b></b>", "", "")
	checkPlayed(t, "b i u /u", "<b><i><u></u></i></b>", "b i", "b0 i1")
	checkPlayed(t, "p !p", "<p></p>", "", "")
	checkPlayed(t, "table !table", "<table></table>", "", "")
	checkPlayed(t, "b x !x", "<b><x></x></b>", "b", "b0")
	for _, words := range []string{"html", "html html"} {
		after := checkAdopt(t, opened(words), "html")
		if !slices.Equal(after.Row, []int{1}) {
			t.Errorf("the close of html leaves %v of %s", after.Row, words)
		}
	}
	first := opened("html")
	first.Fmts = []int{-1}
	if !sameBuild(checkAdopt(t, first, "html"), first) {
		t.Error("the first one was taken away")
	}
}

func TestAdoptWithoutAFormat(t *testing.T) {
	checkPlayed(t, "+b x /b", "<b><x></x></b>", "", "")
	checkPlayed(t, "+b p /b", "<b><p></p></b>", "b p", "")
	checkPlayed(t, "x /b", "<x></x>", "x", "")
	checkPlayed(t, "b | x /b", "<b><x></x></b>", "", "b |")
	checkPlayed(t, "b | p /b", "<b><p></p></b>", "b p", "b0 |")
	checkPlayed(t, "b | /b", "<b></b>", "", "b |")
	checkPlayed(t, "b i | u /b", "<b><i><u></u></i></b>", "", "b i | u")
	checkPlayed(t, "b | b p /b", "<b><b></b><p><b></b></p></b>", "b p", "b0 |")
	checkPlayed(t, "b x option !x", "<b><x><option></option></x></b>", "b", "b0")
	checkPlayed(t, "b p x !p", "<b><p><x></x></p></b>", "b", "b0")
}

func TestAdoptOfAFormatThatIsNotOpen(t *testing.T) {
	checkPlayed(t, "b <b /b", "<b></b>", "", "")
	checkPlayed(t, "b p -b /b", "<b><p></p></b>", "p", "")
	checkPlayed(t, "i b u <b /b", "<i><b><u></u></b></i>", "i", "i0 u")
	checkPlayed(t, "b b:x=1 <b p /b", `<b><b x="1"></b><p></p></b>`, "b p", "b0")
	checkPlayed(t, "b b:x=1 -b p /b", `<b><b x="1"></b><p></p></b>`, "b p", "b0")
	checkPlayed(t, "b <b +b x /b", "<b></b><b><x></x></b>", "b x", "")
	checkPlayed(t, "b table <b x /b", "<b><table></table></b><x></x>", "x", "")
}

func TestAdoptAtABoundary(t *testing.T) {
	for _, name := range append(kindNames(), "span", "tr", "svg") {
		b := opened("html body b "+name+" x", 2)
		after := checkAdopt(t, b, "b")
		if stays := sameBuild(after, b); stays != listed(boundList, name) {
			t.Errorf("over %s: it stays: %v", name, stays)
		}
		for _, words := range []string{"html body b p " + name, "html body b " + name + " p", "html body b i u x y " + name} {
			b := opened(words, 2)
			if after := checkAdopt(t, b, "b"); listed(boundList, name) && !sameBuild(after, b) {
				t.Errorf("%s is turned to %s", words, buildText(after))
			}
		}
		b = opened("html "+name+" b p x", 2)
		if after := checkAdopt(t, b, "b"); len(after.Fmts) != 0 {
			t.Errorf("ahead of the format %s is a boundary, too", name)
		}
	}
}

func TestAdoptWithoutABlock(t *testing.T) {
	checkPlayed(t, "b i u /b", "<b><i><u></u></i></b>", "", "i u")
	checkPlayed(t, "b i u /i", "<b><i><u></u></i></b>", "b", "b0 u")
	checkPlayed(t, "b x y /b", "<b><x><y></y></x></b>", "", "")
	checkPlayed(t, "p b dialog search x /b", "<p><b><dialog><search><x></x></search></dialog></b></p>", "p", "")
	checkPlayed(t, "b b:x=1 x /b", `<b><b x="1"><x></x></b></b>`, "b", "b0")
	checkPlayed(t, "b +b x /b", "<b><b><x></x></b></b>", "", "")
	checkPlayed(t, "b i 'x /b ~ 'y", "<b><i>x</i></b><i>y</i>", "i", "i0")
	for _, name := range append(kindNames(), "span") {
		b := opened("html body b "+name, 2)
		after := checkAdopt(t, b, "b")
		if left := len(after.Row); left == 2 != !expectedSpecial(name) && name != "b" {
			t.Errorf("over %s the row is %s", name, rowNames(after.Tree, after.Row))
		}
	}
}

// These pages are known of HTML, but for what stands ahead of the body.
func TestAdoptOfKnownPages(t *testing.T) {
	checkPlayed(t, "a p /a", "<a></a><p><a></a></p>", "p", "")
	checkPlayed(t, "a '1 p '2 /a '3 /p", "<a>1</a><p><a>2</a>3</p>", "", "")
	checkPlayed(t, "a '1 button '2 /a '3 \\button", "<a>1</a><button><a>2</a>3</button>", "", "")
	checkPlayed(t, "a '1 b '2 /a ~ '3 /b", "<a>1<b>2</b></a><b>3</b>", "", "")
	checkPlayed(t, "a '1 div '2 div '3 /a '4 /div '5 /div", "<a>1</a><div><a>2</a><div><a>3</a>4</div>5</div>", "", "")
	checkPlayed(t, "b '1 i '2 p '3 /b '4", "<b>1<i>2</i></b><i><p><b>3</b>4</p></i>", "i p", "i0")
	checkPlayed(t, "p '1 b '2 i '3 <p p ~ '4", "<p>1<b>2<i>3</i></b></p><p><b><i>4</i></b></p>", "p b i", "b1 i2")
	checkPlayed(t, "b em x x aside /b", "<b><em><x><x></x></x></em></b><em><aside><b></b></aside></em>", "em aside", "em0")
	checkPlayed(t, "b em x x aside /b /em", "<b><em><x><x></x></x></em></b><em></em><aside><em><b></b></em></aside>", "aside", "")
	checkPlayed(t, "b em x x x aside /b", "<b><em><x><x><x></x></x></x></em></b><aside><b></b></aside>", "aside", "")
	checkPlayed(t, "b em x x x aside /b /em", "<b><em><x><x><x></x></x></x></em></b><aside><b></b></aside>", "aside", "")
	checkPlayed(t, "p b:id=x i '1 div '2 /b '3", `<p><b id="x"><i>1</i></b><i><div><b id="x">2</b>3</div></i></p>`, "p i div", "i1")
	checkPlayed(t, "b a '1 p '2 /a", "<b><a>1</a><p><a>2</a></p></b>", "b p", "b0")
	checkPlayed(t, "font p <p <font ~ 'x", "<font><p></p></font><font>x</font>", "font", "font0")
}

func TestAdoptOfElementsBetween(t *testing.T) {
	checkPlayed(t, "b x p 'y /b", "<b><x></x></b><p><b>y</b></p>", "p", "")
	checkPlayed(t, "b x y z p /b", "<b><x><y><z></z></y></x></b><p><b></b></p>", "p", "")
	checkPlayed(t, "b +i p /b", "<b><i></i></b><p><b></b></p>", "p", "")
	checkPlayed(t, "b i +u p /b", "<b><i><u></u></i></b><i><p><b></b></p></i>", "i p", "i0")
	checkPlayed(t, "b +u i p /b", "<b><u><i></i></u></b><i><p><b></b></p></i>", "i p", "i0")
	checkPlayed(t, "b x i y u z p /b", "<b><x><i><y><u><z></z></u></y></i></x></b><u><p><b></b></p></u>", "u p", "u0")
	checkPlayed(t, "b i p /b", "<b><i></i></b><i><p><b></b></p></i>", "i p", "i0")
	checkPlayed(t, "b i u p /b", "<b><i><u></u></i></b><i><u><p><b></b></p></u></i>", "i u p", "i0 u1")
	checkPlayed(t, "b i u s p /b", "<b><i><u><s></s></u></i></b><i><u><s><p><b></b></p></s></u></i>", "i u s p", "i0 u1 s2")
	checkPlayed(t, "b em i u s p /b", "<b><em><i><u><s></s></u></i></em></b><i><u><s><p><b></b></p></s></u></i>", "i u s p", "i0 u1 s2")
	checkPlayed(t, "b tt em i u s p /b", "<b><tt><em><i><u><s></s></u></i></em></tt></b><i><u><s><p><b></b></p></s></u></i>", "i u s p", "i0 u1 s2")
	checkPlayed(t, "b i:x=1,y=2 p /b", `<b><i x="1" y="2"></i></b><i x="1" y="2"><p><b></b></p></i>`, "i p", "i0")
	checkPlayed(t, "b:z=1 x i p /b", `<b z="1"><x><i></i></x></b><i><p><b z="1"></b></p></i>`, "i p", "i0")
}

// Each block takes a time of its own: the format is handed on from one to the next one.
func TestAdoptOfSeveralBlocks(t *testing.T) {
	checkPlayed(t, "b p div /b", "<b></b><p><b></b><div><b></b></div></p>", "p div", "")
	checkPlayed(t, "b p i div /b", "<b></b><p><b><i></i></b><i><div><b></b></div></i></p>", "p i div", "i1")
	checkPlayed(t, "b i p u div 'x /b", "<b><i></i></b><i><p><b><u></u></b><u><div><b>x</b></div></u></p></i>", "i p u div", "i0 u2")
	checkPlayed(t, "b i p /i /b", "<b><i></i></b><p><b><i></i></b></p>", "p", "")
	checkPlayed(t, "b b:x=1 p /b", `<b><b x="1"></b><p><b x="1"></b></p></b>`, "b p", "b0")
	checkPlayed(t, "b b:x=1 p /b /b", `<b><b x="1"></b></b><p><b><b x="1"></b></b></p>`, "p", "")
}

func TestAdoptOfABlockWithKids(t *testing.T) {
	checkPlayed(t, "b p '1 /b", "<b></b><p><b>1</b></p>", "p", "")
	checkPlayed(t, "b p '1 x <x '2 i '3 <i /b", "<b></b><p><b>1<x></x>2<i>3</i></b></p>", "p", "i")
	many := strings.Repeat("x <x 'y ", 40)
	checkPlayed(t, "b p "+many+"/b", "<b></b><p><b>"+strings.Repeat("<x></x>y", 40)+"</b></p>", "p", "")
	checkPlayed(t, "b '1 p '2 <p '3 p '4 /b '5", "<b>1<p>2</p>3</b><p><b>4</b>5</p>", "p", "")
}

// nested is a format around n blocks, and what is there once it is closed that often: each time frees one block more.
func nested(n int, times int) string {
	page := ""
	for i := n; i > 0; i-- {
		if i == times {
			page = "<a>" + page + "</a>"
		}
		page = "<div>" + page + "</div>"
		if i <= times {
			page = "<a></a>" + page
		}
	}
	return page
}

func TestAdoptEightTimesAtMost(t *testing.T) {
	for n := 1; n <= 20; n++ {
		b := opened("html body a"+strings.Repeat(" div", n), 2)
		times := min(n, 8)
		row := strings.TrimSpace(strings.Repeat("div ", n))
		fmts := ""
		if n >= 8 {
			row = strings.TrimSpace(strings.Repeat("div ", 8) + "a " + strings.Repeat("div ", n-8))
			fmts = "a8"
		}
		after := checkAdopt(t, b, "a")
		checkLaid(t, strconv.Itoa(n)+" blocks", after, nested(n, times), row, fmts)
		if len(after.Tree.Nodes) != len(b.Tree.Nodes)+times {
			t.Errorf("%d blocks took %d times", n, len(after.Tree.Nodes)-len(b.Tree.Nodes))
		}
		again := checkAdopt(t, after, "a")
		if n > 8 && len(again.Tree.Nodes) != len(b.Tree.Nodes)+min(n, 16) {
			t.Errorf("%d blocks, again: %d times", n, len(again.Tree.Nodes)-len(b.Tree.Nodes))
		}
	}
}

// The eight times are those of one close, whichever formats are found by its name.
func TestAdoptOfOthersOfThatName(t *testing.T) {
	for n := 1; n <= 6; n++ {
		words := "html body"
		places := []int{}
		for i := range n {
			places = append(places, 2+2*i)
			words += " b:x=" + strconv.Itoa(i) + " p"
		}
		b := opened(words, places...)
		for range n + 1 {
			b = checkAdopt(t, b, "b")
		}
		if len(b.Fmts) != 0 {
			t.Errorf("of %d formats, each with a block, %s is left", n, buildText(b))
		}
	}
}

// afterOneTime has no room for a second time: what is told is as it was ahead of that one. Behind a bar the next one
// finds no format, and takes no room.
func afterOneTime(t *testing.T, room int, words string, places ...int) impl.Build {
	t.Helper()
	after := checkAdopt(t, padded(opened(words, places...), 500-room), "b")
	found := expectedFind(after.Tree, after.Fmts, "b") != -1
	if found != (after.Code == impl.BdLarge) || len(after.Tree.Nodes) != 500 {
		t.Errorf("%s: code %d, %d nodes", words, after.Code, len(after.Tree.Nodes))
	}
	after.Code = impl.BdWell
	return after
}

// The row tells who is who: places are told from html, which is 0, on, formats from behind the body on.
func TestAdoptAtTheMark(t *testing.T) {
	const two = "html body b i u p div"
	const pageTwo = "<b><i><u></u></i></b><i><u><p><b><div></div></b></p></u></i>"
	for _, x := range []struct {
		places []int
		fmts   string
	}{
		{[]int{2, 3, 4}, "i0 u1 b3"},
		{[]int{3, 2, 4}, "i0 u1 b3"},
		{[]int{3, 4, 2}, "i0 u1 b3"},
		{[]int{2, 4, 3}, "u1 b3 i0"},
		{[]int{4, 2, 3}, "u1 b3 i0"},
		{[]int{4, 3, 2}, "u1 b3 i0"},
		{[]int{4, -1, 3, 2}, "u1 b3 | i0"},
		{[]int{-1, 2, 4, 3}, "| u1 b3 i0"},
		{[]int{3, -1, 2, 4}, "i0 | u1 b3"},
	} {
		checkLaid(t, fmt.Sprint(two, x.places), afterOneTime(t, 3, two, x.places...), pageTwo, "i u p b div", x.fmts)
	}
	const none = "html em b x p div"
	const pageNone = "<html><em><b><x></x></b><p><b><div></div></b></p></em></html>"
	for _, x := range []struct {
		places []int
		fmts   string
	}{{[]int{2}, "b1"}, {[]int{1, 2}, "em-1 b1"}, {[]int{2, 1}, "b1 em-1"}, {[]int{-1, 2, 1}, "| b1 em-1"}, {[]int{1, -1, 2}, "em-1 | b1"}} {
		checkLaid(t, fmt.Sprint(none, x.places), afterOneTime(t, 1, none, x.places...), pageNone, "p b div", x.fmts)
	}
}

func TestAdoptAtTheMarkWhereAFormatIsTakenAway(t *testing.T) {
	const far = "html tt b em i u s p div"
	const page = "<html><tt><b><em><i><u><s></s></u></i></em></b><i><u><s><p><b><div></div></b></p></s></u></i></tt></html>"
	for _, x := range []struct {
		places []int
		fmts   string
	}{
		{[]int{3, 2, 4, 5, 6}, "i0 u1 s2 b4"},
		{[]int{2, 3, 4, 5, 6}, "i0 u1 s2 b4"},
		{[]int{6, 3, 2, 4, 5}, "s2 b4 i0 u1"},
		{[]int{6, 2, 3, 4, 5}, "s2 b4 i0 u1"},
		{[]int{6, 4, 5, 3, 2}, "s2 b4 i0 u1"},
		{[]int{4, 3, 6, 5, 2}, "i0 s2 b4 u1"},
		{[]int{4, 6, 3, 5, 2}, "i0 s2 b4 u1"},
		{[]int{3, -1, 5, 4, 6, 2}, "| u1 i0 s2 b4"},
		{[]int{3, 6, -1, 5, 4, 2}, "s2 b4 | u1 i0"},
		{[]int{1, 3, 6, 2, 4, 5}, "tt-1 s2 b4 i0 u1"},
	} {
		checkLaid(t, fmt.Sprint(far, x.places), afterOneTime(t, 4, far, x.places...), page, "i u s p b div", x.fmts)
	}
	const others = "html tt b em x y z p div"
	const pageOthers = "<html><tt><b><em><x><y><z></z></y></x></em></b><p><b><div></div></b></p></tt></html>"
	for _, x := range []struct {
		places []int
		fmts   string
	}{
		{[]int{3, 2}, "b1"},
		{[]int{2, 3}, "b1"},
		{[]int{3, 2, 1}, "b1 tt-1"},
		{[]int{2, 3, 1}, "b1 tt-1"},
		{[]int{3, 1, 2}, "tt-1 b1"},
		{[]int{1, 3, 2}, "tt-1 b1"},
		{[]int{2, 1, 3}, "b1 tt-1"},
		{[]int{3, -1, 1, 2}, "| tt-1 b1"},
	} {
		checkLaid(t, fmt.Sprint(others, x.places), afterOneTime(t, 1, others, x.places...), pageOthers, "p b div", x.fmts)
	}
}

// eachOrder goes through all orders of all parts of a list.
func eachOrder(list []int, begun []int, use func([]int)) {
	use(begun)
	for i, x := range list {
		eachOrder(slices.Delete(slices.Clone(list), i, i+1), append(slices.Clone(begun), x), use)
	}
}

func TestAdoptWithFormatsInEachOrder(t *testing.T) {
	for _, words := range []string{"html tt b em i u s p div", "html tt b em i p", "html b tt em i u s p"} {
		blocks := strings.Count(words, "p") + strings.Count(words, "div")
		open := len(wordsOf(words)) - blocks
		count := 0
		eachOrder(append(numbersFrom(1, open-1), -1), nil, func(places []int) {
			b := opened(words, places...)
			got, want := impl.BuildAdopt(b, "b"), expectedAdopt(b, "b")
			if !sameBuild(got, want) || !impl.BuildOk(got) {
				t.Errorf("BuildAdopt of %s\n got  %s\n want %s", buildText(b), buildText(got), buildText(want))
			}
			if count++; count%40 != 0 {
				return
			}
			full := padded(b, 496)
			if got, want := impl.BuildAdopt(full, "b"), expectedAdopt(full, "b"); !sameBuild(got, want) {
				t.Errorf("BuildAdopt of %s with little room\n got  %s\n want %s", buildText(b), buildText(got), buildText(want))
			}
		})
		if t.Failed() {
			return
		}
	}
}

func TestAdoptWithoutRoom(t *testing.T) {
	for _, x := range []struct {
		words string
		need  []int // how many elements each time takes
	}{
		{"b p", []int{1}},
		{"b i p", []int{2}},
		{"b i u p", []int{3}},
		{"b i u s p", []int{4}},
		{"b em i u s p", []int{4}},
		{"b x y p", []int{1}},
		{"b p div", []int{1, 1}},
		{"b i p u div", []int{2, 2}},
		{"b i u s p x em div", []int{4, 2}},
		{"b div div div div div div div div div div", []int{1, 1, 1, 1, 1, 1, 1, 1}},
		{"b i div u div s div div div div div div div", []int{2, 2, 2, 1, 1, 1, 1, 1}},
	} {
		b := played(t, x.words)
		whole := checkAdopt(t, b, "b")
		total := 0
		for _, n := range x.need {
			total += n
		}
		if whole.Code != impl.BdWell || len(whole.Tree.Nodes) != len(b.Tree.Nodes)+total {
			t.Errorf("%s takes %d elements", x.words, len(whole.Tree.Nodes)-len(b.Tree.Nodes))
		}
		for room := range total + 2 {
			full := padded(b, 500-room)
			after := checkAdopt(t, full, "b")
			done := 0
			for _, n := range x.need {
				if done+n > room {
					break
				}
				done += n
			}
			code := impl.BdLarge
			if done == total {
				code = impl.BdWell
			}
			if after.Code != code || len(after.Tree.Nodes) != 500-room+done {
				t.Errorf("%s with room for %d: code %d, %d added", x.words, room, after.Code, len(after.Tree.Nodes)-500+room)
			}
			full.Code = impl.BdLarge
			if done == 0 && total > 0 && !sameBuild(after, full) {
				t.Errorf("%s with room for %d is turned to %s", x.words, room, buildText(after))
			}
		}
	}
}

// What adds nothing needs no room.
func TestAdoptInAFullTree(t *testing.T) {
	for _, words := range []string{"html body b", "html body b i u", "html body b table p", "html body b x option"} {
		after := checkAdopt(t, padded(opened(words, 2), 500), "b")
		if after.Code != impl.BdWell {
			t.Errorf("%s: code %d", words, after.Code)
		}
		for _, name := range wordsOf("b i x table option html") {
			checkBuild(t, padded(opened(words), 500), name)
			checkBuild(t, padded(opened(words, 2), 500), name)
		}
	}
}

// A row as long as may be, and a list of formats as long as may be: neither grows.
func TestAdoptInFullLists(t *testing.T) {
	b := opened("html b"+strings.Repeat(" div", 38), 1)
	if after := checkAdopt(t, b, "b"); len(after.Row) != 40 || after.Code != impl.BdWell {
		t.Error("the full row is", rowNames(after.Tree, after.Row))
	}
	tree := manyFormats(59)
	nodes := append(tree.Nodes, elementNode("html", 0), elementNode("b", 60), elementNode("i", 61), elementNode("p", 62), elementNode("div", 63))
	for _, room := range []int{500, 2, 1} {
		for _, place := range []int{0, 1, 30, 59} {
			fmts := slices.Insert(numbersFrom(1, 58), min(place, 58), 61)
			fmts = slices.Insert(fmts, (place*7)%60, 62)
			full := padded(bodyBuild(linked(slices.Clone(nodes)), []int{60, 61, 62, 63, 64}, fmts), 500-room)
			checkBuildOk(t, full, true)
			checkAdopt(t, full, "b")
			checkAdopt(t, full, "i")
		}
	}
}

// away is a row that does not go down its tree: each element stands below the one that is told for it.
func away(words string, parents []int, places ...int) impl.Build {
	b := opened(words, places...)
	nodes := b.Tree.Nodes
	for i, parent := range parents {
		nodes[i+1].Parent = parent
	}
	b.Tree = linked(nodes)
	return b
}

func checkPage(t *testing.T, what string, b impl.Build, page string) {
	t.Helper()
	if got := impl.PrintOf(b.Tree); got != page {
		t.Errorf("%s\n got  %s\n want %s", what, got, page)
	}
}

func TestAdoptWhereTheBlockStandsElsewhere(t *testing.T) {
	// html 1, body 2, b 3, p 4
	for _, x := range []struct {
		parents []int
		page    string
	}{
		{[]int{0, 1, 2, 3}, "<html><body><b></b><p><b></b></p></body></html>"},
		{[]int{0, 1, 2, 2}, "<html><body><b></b><p><b></b></p></body></html>"},
		{[]int{0, 1, 2, 1}, "<html><body><b></b><p><b></b></p></body></html>"},
		{[]int{0, 1, 2, 0}, "<html><body><b></b><p><b></b></p></body></html>"},
		{[]int{0, 1, 2, -1}, "<html><body><b></b><p><b></b></p></body></html>"},
		{[]int{0, 1, -1, 3}, "<html><body><p><b></b></p></body></html>"},
		{[]int{0, 1, 4, 2}, "<html><body><p><b><b></b></b></p></body></html>"},
		{[]int{0, 4, 2, 1}, "<html><p><b><body><b></b></body></b></p></html>"},
		{[]int{4, 1, 2, 0}, "<p><b><html><body><b></b></body></html></b></p>"},
		{[]int{0, 4, 2, -1}, "<html></html>"},
		{[]int{0, 3, 4, 1}, "<html><p><b><b><body></body></b></b></p></html>"},
	} {
		b := away("html body b p", x.parents, 2)
		checkBuildOk(t, b, true)
		after := checkAdopt(t, b, "b")
		checkPage(t, fmt.Sprint(x.parents), after, x.page)
		if !slices.Equal(after.Row, []int{1, 2, 4}) || len(after.Fmts) != 0 || after.Code != impl.BdWell {
			t.Errorf("%v: %s", x.parents, buildText(after))
		}
	}
	// html 1, body 2, b 3, i 4, p 5, and the new ones: i 6, b 7
	b := away("html body b i p", []int{0, 5, 2, 3, 1}, 2, 3)
	after := checkAdopt(t, b, "b")
	checkPage(t, "the body stands below the block", after, "<html></html>")
	if after.Tree.Nodes[6].Parent != -1 || !slices.Equal(after.Tree.Nodes[6].Kids, []int{5}) || !slices.Equal(after.Tree.Nodes[5].Kids, []int{7}) ||
		!slices.Equal(after.Tree.Nodes[7].Kids, []int{2}) || !slices.Equal(after.Row, []int{1, 2, 6, 5}) || !slices.Equal(after.Fmts, []int{6}) {
		t.Error("the body stands below the block:", buildText(after))
	}
}

// Each tree that three elements behind html can be, whatever the row says of them.
func TestAdoptOfEachTree(t *testing.T) {
	for _, words := range []string{"html body b p", "html b i p", "html b p div", "html b x p", "html body b i"} {
		eachNumbers(4, -1, 4, func(parents []int) {
			b := away(words, parents, slices.DeleteFunc(numbersFrom(1, 3), func(place int) bool {
				return !listed(formatList, wordsOf(words)[place])
			})...)
			if !treeFits(b.Tree) {
				return
			}
			buildQuickly(t, b, "b")
			if parents[0] != 0 || parents[1] == 0 {
				return
			}
			buildQuickly(t, padded(b, 499), "b")
			buildQuickly(t, padded(b, 500), "b")
		})
	}
}

func TestBuildsOfEachShortRow(t *testing.T) {
	names := wordsOf("b i x p table option")
	eachNumbers(4, 0, len(names)-1, func(picks []int) {
		words, places := "html body", []int{}
		for i, pick := range picks {
			words += " " + names[pick]
			if pick < 2 {
				places = append(places, i+2)
			}
		}
		for _, fmts := range [][]int{places, places[min(1, len(places)):], append([]int{-1}, places...)} {
			b := opened(words, fmts...)
			for _, name := range wordsOf("b i x option") {
				buildQuickly(t, b, name)
			}
			for cut := 2; cut < len(b.Row); cut++ {
				shorter := b
				shorter.Row = b.Row[:cut]
				buildQuickly(t, shorter, "b")
			}
		}
	})
}

// madeBuild picks elements, where they stand, which of them are open and which are formats by the bytes.
func madeBuild(steps []byte) impl.Build {
	words := append(wordsOf("b b i i b:x=1 u em s a p div p x span table option html"), kindNames()...)
	nodes, row, fmts := []impl.Node{pageNode(), elementNode("html", 0)}, []int{1}, []int{}
	for i := 0; i+3 < len(steps) && len(nodes) < 400; i += 4 {
		at, how := len(nodes), int(steps[i+1])
		nodes = append(nodes, formatNode(words[int(steps[i])%(17+how%2*(len(words)-17))], []int{at - 1, at - 1, int(steps[i+2]) % at, -1}[how%4]))
		if how%7 != 0 && len(row) < 40 {
			row = slices.Insert(row, len(row)-int(steps[i+2])%min(len(row), 1+how%3), at)
		}
		if listed(formatList, nodes[at].Name) && how%5 != 0 && len(fmts) < 59 {
			fmts = slices.Insert(fmts, len(fmts)-int(steps[i+3])%min(len(fmts)+1, 1+how%4), at)
		}
		if steps[i+3] > 245 && len(fmts) < 60 {
			fmts = slices.Insert(fmts, how%(len(fmts)+1), -1)
		}
	}
	return bodyBuild(linked(nodes), row, fmts)
}

func checkMadeBuild(t *testing.T, steps []byte) {
	t.Helper()
	b := madeBuild(steps)
	names := []string{"b", "i"}
	for _, at := range b.Row[max(1, len(b.Row)-5):] {
		names = append(names, b.Tree.Nodes[at].Name)
	}
	for i, name := range names {
		checkBuild(t, b, name)
		if i < 2 {
			checkBuild(t, padded(b, 500-len(steps)%9), name)
		}
	}
	checkRebuild(t, bodyBuild(b.Tree, b.Row[:1], b.Fmts))
	for range 3 {
		for _, name := range names {
			b = checkRebuild(t, checkAdopt(t, checkClose(t, b, name), name))
		}
	}
}

func TestMadeBuilds(t *testing.T) {
	for seed := range uint32(150) {
		checkMadeBuild(t, manySteps(seed, 4*int(seed%45)))
	}
}

// Promise 12, over pages of any opens and closes.
func TestBuildsStayRight(t *testing.T) {
	words := wordsOf("b i u a:x=1 b +b p div x table /b /i /u /a /p /div /x ~ ~ 'x | option !p !b \\b /b /a")
	for seed := range uint32(120) {
		script := []string{}
		for _, step := range manySteps(seed, 36) {
			script = append(script, words[int(step)%len(words)])
		}
		b := played(t, strings.Join(script, " "))
		checkBuildOk(t, b, true)
	}
}

func TestBuildsAskedByManyAtOnce(t *testing.T) {
	b := opened("html body b i p u div x", 2, 3, 5)
	short := b
	short.Row = b.Row[:2]
	var all sync.WaitGroup
	for range 8 {
		all.Go(func() {
			for _, name := range wordsOf("b i u x div p html") {
				buildQuickly(t, b, name)
				buildQuickly(t, short, name)
			}
		})
	}
	all.Wait()
}

func FuzzBuild(f *testing.F) {
	for seed := range uint32(8) {
		f.Add(manySteps(seed, 60), "b", 6, 6, 0)
	}
	f.Fuzz(func(t *testing.T, steps []byte, name string, mode int, old int, code int) {
		if len(steps) > 240 {
			return
		}
		checkMadeBuild(t, steps)
		b := madeBuild(steps)
		b.Mode, b.Old, b.Code, b.Last = mode, old, code, name
		checkBuild(t, b, name)
		b.Row = nil
		checkBuild(t, b, name)
		for _, x := range steps[:min(len(steps), 44)] {
			b.Row, b.Fmts = append(b.Row, int(int8(x))), append(b.Fmts, int(int8(x)))
		}
		checkBuild(t, b, name)
	})
}
