package tests

import (
	"maps"
	"math"
	"slices"
	"strconv"
	"strings"
	"sync"
	"testing"

	"loop.example/g00118/impl"
)

// formatNode reads a word as an element: a name, and behind a ":" its attributes, as in "b:x=1,y=2".
func formatNode(word string, parent int) impl.Node {
	name, list, _ := strings.Cut(word, ":")
	n := elementNode(name, parent)
	for _, part := range strings.FieldsFunc(list, func(r rune) bool { return r == ',' }) {
		key, value, _ := strings.Cut(part, "=")
		n.Attrs = append(n.Attrs, impl.Attr{Name: key, Value: value})
	}
	return n
}

// formatTree has a page, and the elements that the words tell as its nodes from 1 on: below the page, below none, below
// the one ahead.
func formatTree(words string) impl.Tree {
	nodes := []impl.Node{pageNode()}
	for i, word := range wordsOf(words) {
		nodes = append(nodes, formatNode(word, []int{0, -1, i}[i%3]))
	}
	return linked(nodes)
}

// manyFormats is a page and n elements, no two alike.
func manyFormats(n int) impl.Tree {
	nodes := []impl.Node{pageNode()}
	names := strings.Split(formatList, ", ")
	for i := range n {
		nodes = append(nodes, formatNode(names[i%len(names)]+":id="+strconv.Itoa(i), 0))
	}
	return linked(nodes)
}

func numbersFrom(first int, last int) []int {
	list := []int{}
	for x := first; x <= last; x++ {
		list = append(list, x)
	}
	return list
}

// fmtsFit and what is expected below go by the sentences of the document.
func fmtsFit(tree impl.Tree, fmts []int) bool {
	if !treeFits(tree) || len(fmts) > 60 {
		return false
	}
	seen := map[int]int{}
	for _, at := range fmts {
		seen[at]++
		if at != -1 && (!thereIs(tree, at) || tree.Nodes[at].Kind != 3 || !listed(formatList, tree.Nodes[at].Name) || seen[at] > 1) {
			return false
		}
	}
	return true
}

func attrsByName(list []impl.Attr) map[string]string {
	byName := map[string]string{}
	for _, a := range list {
		byName[a.Name] = a.Value
	}
	return byName
}

func formatsAlike(tree impl.Tree, x int, y int) bool {
	if x == -1 || y == -1 {
		return false
	}
	a, b := tree.Nodes[x], tree.Nodes[y]
	return a.Name == b.Name && maps.Equal(attrsByName(a.Attrs), attrsByName(b.Attrs))
}

// behindBars is how many numbers stand up to the last bar, with it.
func behindBars(fmts []int) int {
	count := 0
	for place, at := range fmts {
		if at == -1 {
			count = place + 1
		}
	}
	return count
}

func expectedPush(tree impl.Tree, fmts []int, at int) []int {
	pushed := append(slices.Clone(fmts), at)
	if !fmtsFit(tree, fmts) || !fmtsFit(tree, pushed) {
		return slices.Clone(fmts)
	}
	alike := []int{}
	for place := behindBars(fmts); place < len(fmts); place++ {
		if formatsAlike(tree, fmts[place], at) {
			alike = append(alike, place)
		}
	}
	if len(alike) < 3 {
		return pushed
	}
	return joined(pushed[:alike[0]], pushed[alike[0]+1:])
}

func expectedFind(tree impl.Tree, fmts []int, name string) int {
	found := -1
	if fmtsFit(tree, fmts) {
		for place := behindBars(fmts); place < len(fmts); place++ {
			if tree.Nodes[fmts[place]].Name == name {
				found = place
			}
		}
	}
	return found
}

func expectedClear(fmts []int) []int {
	return fmts[:max(0, behindBars(fmts)-1)]
}

func expectedFmtLess(fmts []int, at int) []int {
	return slices.DeleteFunc(slices.Clone(fmts), func(x int) bool { return x == at })
}

func fmtsText(fmts []int) string {
	parts := []string{strconv.Itoa(len(fmts)) + ":"}
	for _, at := range fmts[:min(len(fmts), 64)] {
		parts = append(parts, strconv.Itoa(at))
	}
	return strings.Join(parts, " ")
}

func checkFmtsOk(t *testing.T, tree impl.Tree, fmts []int, want bool) {
	t.Helper()
	g, f := guardTree(tree), guard(fmts, 1)
	if got := impl.FmtsOk(g.arg, f.arg); got != want || fmtsFit(tree, fmts) != want {
		t.Errorf("FmtsOk of %s in %s = %v", fmtsText(fmts), treeText(tree), got)
	}
	if !g.untouched() || !f.untouched() {
		t.Errorf("FmtsOk of %s wrote into an argument", fmtsText(fmts))
	}
}

// checkList asks what a call answers of a list, and that its memory is its own.
func checkList(t *testing.T, what string, tree impl.Tree, fmts []int, want []int, call func(impl.Tree, []int) []int) {
	t.Helper()
	want = slices.Clone(want)
	g, f := guardTree(tree), guard(fmts, 1)
	first := call(g.arg, f.arg)
	if !slices.Equal(first, want) {
		t.Errorf("%s of %s = %s, want %s", what, fmtsText(fmts), fmtsText(first), fmtsText(want))
	}
	if !g.untouched() || !f.untouched() {
		t.Errorf("%s of %s wrote into an argument", what, fmtsText(fmts))
	}
	second := call(g.arg, f.arg)
	overwrite(first, -1000)
	if !g.untouched() || !f.untouched() {
		t.Errorf("%s of %s: the answer shares memory with an argument", what, fmtsText(fmts))
	}
	overwrite(f.arg, -2000)
	fillTree(g.arg)
	if !slices.Equal(second, want) {
		t.Errorf("%s of %s: a second answer shares memory with the first one or with the argument", what, fmtsText(fmts))
	}
}

func checkPush(t *testing.T, tree impl.Tree, fmts []int, at int, want []int) {
	t.Helper()
	if expected := expectedPush(tree, fmts, at); !slices.Equal(expected, want) {
		t.Errorf("%s with %d is %s, want %s", fmtsText(fmts), at, fmtsText(expected), fmtsText(want))
	}
	checkList(t, "FmtPush "+strconv.Itoa(at), tree, fmts, want, func(tree impl.Tree, fmts []int) []int {
		return impl.FmtPush(tree, fmts, at)
	})
}

func checkFind(t *testing.T, tree impl.Tree, fmts []int, name string, want int) {
	t.Helper()
	g, f := guardTree(tree), guard(fmts, 1)
	if got := impl.FmtFind(g.arg, f.arg, name); got != want || expectedFind(tree, fmts, name) != want {
		t.Errorf("FmtFind of %s in %s: %s = %d, want %d", fmtsText(fmts), treeText(tree), short(name), got, want)
	}
	if !g.untouched() || !f.untouched() {
		t.Errorf("FmtFind of %s wrote into an argument", fmtsText(fmts))
	}
}

func checkClear(t *testing.T, fmts []int, want []int) {
	t.Helper()
	if expected := expectedClear(fmts); !slices.Equal(expected, want) {
		t.Errorf("%s is cleared to %s, want %s", fmtsText(fmts), fmtsText(expected), fmtsText(want))
	}
	checkList(t, "FmtClear", impl.Tree{}, fmts, want, func(_ impl.Tree, fmts []int) []int { return impl.FmtClear(fmts) })
}

func checkFmtLess(t *testing.T, fmts []int, at int, want []int) {
	t.Helper()
	if expected := expectedFmtLess(fmts, at); !slices.Equal(expected, want) {
		t.Errorf("%s without %d is %s, want %s", fmtsText(fmts), at, fmtsText(expected), fmtsText(want))
	}
	checkList(t, "FmtLess "+strconv.Itoa(at), impl.Tree{}, fmts, want, func(_ impl.Tree, fmts []int) []int {
		return impl.FmtLess(fmts, at)
	})
}

// checkFormats asks each function about one list, one number and one name.
func checkFormats(t *testing.T, tree impl.Tree, fmts []int, at int, name string) {
	t.Helper()
	checkFmtsOk(t, tree, fmts, fmtsFit(tree, fmts))
	checkPush(t, tree, fmts, at, expectedPush(tree, fmts, at))
	checkFind(t, tree, fmts, name, expectedFind(tree, fmts, name))
	checkClear(t, fmts, expectedClear(fmts))
	checkFmtLess(t, fmts, at, expectedFmtLess(fmts, at))
}

// formatsQuickly asks the same without a look at memory, for lists by the thousand.
func formatsQuickly(t *testing.T, tree impl.Tree, fmts []int, at int, name string) {
	t.Helper()
	if got := impl.FmtsOk(tree, fmts); got != fmtsFit(tree, fmts) {
		t.Errorf("FmtsOk of %v = %v", fmts, got)
	}
	if got, want := impl.FmtPush(tree, fmts, at), expectedPush(tree, fmts, at); !slices.Equal(got, want) {
		t.Errorf("FmtPush %d of %v = %v, want %v", at, fmts, got, want)
	}
	if got, want := impl.FmtFind(tree, fmts, name), expectedFind(tree, fmts, name); got != want {
		t.Errorf("FmtFind %s of %v = %d, want %d", name, fmts, got, want)
	}
	if got, want := impl.FmtClear(fmts), expectedClear(fmts); !slices.Equal(got, want) {
		t.Errorf("FmtClear of %v = %v, want %v", fmts, got, want)
	}
	if got, want := impl.FmtLess(fmts, at), expectedFmtLess(fmts, at); !slices.Equal(got, want) {
		t.Errorf("FmtLess %d of %v = %v, want %v", at, fmts, got, want)
	}
}

// checkNoFormats asks what is told of a list that is not right: no, none, and the list as it is.
func checkNoFormats(t *testing.T, tree impl.Tree, fmts []int, at int, name string) {
	t.Helper()
	checkFmtsOk(t, tree, fmts, false)
	checkPush(t, tree, fmts, at, fmts)
	checkFind(t, tree, fmts, name, -1)
}

func TestFormatConstants(t *testing.T) {
	if impl.MaxFmts != 60 {
		t.Error("MaxFmts is not as told")
	}
}

func TestFmtsOkOfEmptyListsAndBars(t *testing.T) {
	for _, tree := range []impl.Tree{impl.TreeNew(), sampleTree(), manyNodes(500, belowPage), manyFormats(3)} {
		checkFmtsOk(t, tree, nil, true)
		checkFmtsOk(t, tree, []int{}, true)
		for _, n := range []int{1, 2, 3, 59, 60} {
			checkFmtsOk(t, tree, repeated(-1, n), true)
		}
		for _, n := range []int{61, 62, 120, 256, 316, 100000} {
			checkNoFormats(t, tree, repeated(-1, n), -1, "b")
		}
	}
	for _, tree := range wrongTrees() {
		checkFmtsOk(t, tree, nil, false)
		checkFmtsOk(t, tree, []int{-1}, false)
	}
}

func TestFmtsOkOfAsManyAsThereMayBe(t *testing.T) {
	tree := manyFormats(70)
	for n := range 71 {
		checkFmtsOk(t, tree, numbersFrom(1, n), n <= 60)
		withBars := numbersFrom(1, n)
		for i := 0; i < n; i += 4 {
			withBars[i] = -1
		}
		checkFmtsOk(t, tree, withBars, n <= 60)
		slices.Reverse(withBars)
		checkFmtsOk(t, tree, withBars, n <= 60)
	}
	checkFmtsOk(t, manyFormats(499), numbersFrom(440, 499), true)
	checkFmtsOk(t, manyFormats(498), numbersFrom(440, 499), false)
	checkFmtsOk(t, manyFormats(500), numbersFrom(440, 499), false)
}

func TestFmtsOkOfANumberTwice(t *testing.T) {
	tree := manyFormats(60)
	whole := numbersFrom(1, 60)
	for i := range whole {
		for j := range whole {
			turned := slices.Clone(whole)
			turned[i] = whole[j]
			checkFmtsOk(t, tree, turned, i == j)
		}
	}
	for _, fmts := range [][]int{{1, 1}, {1, 2, 1}, {1, -1, 1}, {-1, 1, 1}, {1, 1, -1}, {1, -1, -1, 1}, {1, -1, 2, -1, 1}, {1, 2, -1, 2}} {
		checkNoFormats(t, tree, fmts, 3, "a")
		checkNoFormats(t, tree, fmts, -1, "b")
	}
	checkFmtsOk(t, tree, []int{-1, 1, -1, 2, -1, -1}, true)
}

// Of no kind of format may a list have too many: that is for FmtPush alone.
func TestFmtsOkOfManyAlike(t *testing.T) {
	tree := formatTree(strings.Repeat("b ", 61))
	for _, n := range []int{2, 3, 4, 5, 60} {
		checkFmtsOk(t, tree, numbersFrom(1, n), true)
	}
	checkFmtsOk(t, tree, numbersFrom(1, 61), false)
}

func TestFmtsOkOfNumbersThatAreNoNodes(t *testing.T) {
	tree := formatTree("b i u em")
	numbers := append(farNumbers(), -2, -3, 5, 6, 60, 500, 501, 1<<32, 1<<32+1, 1<<32-1, -1<<32-1, -1<<32, math.MaxInt, math.MinInt, math.MaxInt-1, math.MinInt+1)
	for _, x := range numbers {
		if x == -1 || thereIs(tree, x) {
			continue
		}
		checkNoFormats(t, tree, []int{x}, 1, "b")
		checkNoFormats(t, tree, []int{x, -1}, 1, "b")
		checkNoFormats(t, tree, []int{-1, x}, -1, "b")
		checkNoFormats(t, tree, []int{2, x, 3}, 1, "i")
		checkPush(t, tree, []int{1, 2}, x, []int{1, 2})
		checkPush(t, tree, nil, x, nil)
		checkPush(t, tree, []int{1, -1}, x, []int{1, -1})
	}
}

func TestFmtsOkOfOtherNodes(t *testing.T) {
	tree := linked([]impl.Node{
		pageNode(), elementNode("b", 0), elementNode("p", 0), textNode("b", 1), commentNode("b", 0), doctypeNode("b", 0),
		elementNode("i", -1), elementNode("u", 6), textNode("i", -1), elementNode("span", -1), withAttrs(elementNode("x", 0), named("b", "i")...),
	})
	for at := range tree.Nodes {
		is := at == 1 || at == 6 || at == 7 // two of them stand below none, or below one that does
		checkFmtsOk(t, tree, []int{at}, is)
		checkFmtsOk(t, tree, []int{-1, at}, is)
		checkFmtsOk(t, tree, []int{at, -1}, is)
		checkFmtsOk(t, tree, []int{1, at, -1}, is && at != 1)
		want := []int{at}
		if !is {
			want = nil
			for _, name := range []string{"b", "i", "", tree.Nodes[at].Name} {
				checkNoFormats(t, tree, []int{1, at}, 6, name)
				checkNoFormats(t, tree, []int{at, -1, 1}, 6, name)
			}
		}
		checkPush(t, tree, nil, at, want)
	}
}

func TestFmtsOkOfEachName(t *testing.T) {
	names := append(kindNames(), "span", "x-y", "bb", "strongs", "stron", "font-face", "del", "ins", "sub", "mark", "q", "kbd", "var")
	for _, name := range names {
		tree := linked([]impl.Node{pageNode(), elementNode(name, 0), elementNode("b", 0)})
		is := slices.Contains(wordsOf("a b big code em font i nobr s small strike strong tt u"), name)
		checkFmtsOk(t, tree, []int{1}, is)
		checkFmtsOk(t, tree, []int{2, 1}, is)
		want := []int{2}
		if is {
			want = []int{2, 1}
		}
		checkPush(t, tree, []int{2}, 1, want)
	}
}

func TestFormatsOfWrongTrees(t *testing.T) {
	for _, tree := range wrongTrees() {
		for _, fmts := range [][]int{nil, {-1}, {2}, {7}, {2, 7}, {7, -1, 2}, {9}, {0}, {499}, {500}, {501}, {-2}} {
			for _, at := range []int{-1, 2, 7, 9, 500} {
				checkNoFormats(t, tree, fmts, at, "b")
			}
		}
	}
	good := formatTree("b i b u")
	for at := range good.Nodes {
		for _, turn := range []func(n *impl.Node){
			func(n *impl.Node) { n.Kind = 9 },
			func(n *impl.Node) { n.Text = "x" },
			func(n *impl.Node) { n.Parent = at },
			func(n *impl.Node) { n.Kids = append(n.Kids, at) },
			func(n *impl.Node) { n.Attrs = named("a", "a") },
			func(n *impl.Node) { n.Attrs = manyAttrs(21) },
			func(n *impl.Node) { n.Name += " " },
		} {
			for _, fmts := range [][]int{nil, {1}, {1, 2, 3}, {2, -1, 3}} {
				checkNoFormats(t, with(good, at, turn), fmts, 4, "b")
				checkNoFormats(t, with(good, at, turn), fmts, -1, "i")
			}
		}
	}
}

func TestPushOfTwoThreeAndFourAlike(t *testing.T) {
	tree := formatTree("b b b b b b i")
	checkPush(t, tree, nil, 1, []int{1})
	checkPush(t, tree, []int{1}, 2, []int{1, 2})
	checkPush(t, tree, []int{1, 2}, 3, []int{1, 2, 3})
	checkPush(t, tree, []int{1, 2, 3}, 4, []int{2, 3, 4})
	checkPush(t, tree, []int{1, 2, 3, 4}, 5, []int{2, 3, 4, 5}) // such a list is right, and one goes
	checkPush(t, tree, []int{1, 2, 3, 4, 5}, 6, []int{2, 3, 4, 5, 6})
	checkPush(t, tree, []int{3, 1, 2}, 4, []int{1, 2, 4}) // the first in the list, not in the tree
	checkPush(t, tree, []int{6, 5, 4}, 1, []int{5, 4, 1})
	checkPush(t, tree, []int{1, 2, 3}, 7, []int{1, 2, 3, 7})
}

func TestPushBehindTheLastBar(t *testing.T) {
	tree := formatTree("b b b b b b b i")
	for _, c := range []struct{ fmts, want []int }{
		{[]int{1, -1, 2, 3}, []int{1, -1, 2, 3, 7}},
		{[]int{1, 2, 3, -1}, []int{1, 2, 3, -1, 7}},
		{[]int{1, 2, -1, 3}, []int{1, 2, -1, 3, 7}},
		{[]int{-1, 1, 2, 3}, []int{-1, 2, 3, 7}},
		{[]int{1, -1, 2, 3, 4}, []int{1, -1, 3, 4, 7}},
		{[]int{1, 2, 3, -1, 4, 5, 6}, []int{1, 2, 3, -1, 5, 6, 7}},
		{[]int{1, -1, 2, 3, 4, -1}, []int{1, -1, 2, 3, 4, -1, 7}},
		{[]int{1, -1, 2, -1, 3, 4}, []int{1, -1, 2, -1, 3, 4, 7}},
		{[]int{1, -1, -1, 2, 3, 4}, []int{1, -1, -1, 3, 4, 7}},
		{[]int{-1, 8, 1, 2, 3}, []int{-1, 8, 2, 3, 7}},
		{[]int{1, 2, 3, -1, 8}, []int{1, 2, 3, -1, 8, 7}},
		{[]int{-1}, []int{-1, 7}},
		{[]int{-1, -1}, []int{-1, -1, 7}},
	} {
		checkPush(t, tree, c.fmts, 7, c.want)
	}
}

func TestPushWithOthersBetween(t *testing.T) {
	tree := formatTree("b i b u b b b:x=1 i i b")
	for _, c := range []struct{ fmts, want []int }{
		{[]int{1, 2, 3, 4, 5}, []int{2, 3, 4, 5, 10}},
		{[]int{2, 1, 4, 3, 7, 5, 8}, []int{2, 4, 3, 7, 5, 8, 10}},
		{[]int{2, 4, 7, 8, 9}, []int{2, 4, 7, 8, 9, 10}},
		{[]int{2, 1, 8, 3, 9}, []int{2, 1, 8, 3, 9, 10}},
		{[]int{2, 8, 9, 1, 3, 6}, []int{2, 8, 9, 3, 6, 10}},
		{[]int{1, 2, -1, 3, 8, 5, 9, 6, 4}, []int{1, 2, -1, 8, 5, 9, 6, 4, 10}},
	} {
		checkPush(t, tree, c.fmts, 10, c.want)
	}
}

func TestPushOfNamesAndAttrs(t *testing.T) {
	for _, c := range []struct {
		words string
		alike bool
	}{
		{"b b b b", true},
		{"b b b i", false},
		{"b b i b", false},
		{"b i b b", false},
		{"i b b b", false},
		{"b:x=1 b:x=1 b:x=1 b:x=1", true},
		{"b:x=1 b:x=1 b:x=1 i:x=1", false},
		{"b:x=1 i:x=1 b:x=1 b:x=1", false},
		{"b:x=1 b:x=1 b:x=1 b:x=2", false},
		{"b:x=1 b:x=1 b:x=1 b:y=1", false},
		{"b:x=1 b:x=1 b:x=1 b", false},
		{"b b b b:x=1", false},
		{"b b b b:x=", false},
		{"b:x= b:x= b:x= b:x=", true},
		{"b:x= b:x= b:x= b:y=", false},
		{"b:x=y b:x=y b:x=y b:y=x", false},
		{"b:x=1,y=2 b:x=1,y=2 b:x=1,y=2 b:y=2,x=1", true},
		{"b:x=1,y=2 b:y=2,x=1 b:x=1,y=2 b:y=2,x=1", true},
		{"b:y=2,x=1 b:y=2,x=1 b:y=2,x=1 b:x=1,y=2", true},
		{"b:x=1,y=2 b:x=1,y=2 b:x=1,y=2 b:x=2,y=1", false},
		{"b:x=1,y=2 b:x=1,y=2 b:x=1,y=2 b:y=1,x=2", false},
		{"b:x=1,y=2 b:x=1,y=2 b:x=1,y=2 b:x=1", false},
		{"b:x=1,y=2 b:x=1,y=2 b:x=1,y=2 b:y=2", false},
		{"b:x=1 b:x=1 b:x=1 b:x=1,y=2", false},
		{"b:y=2 b:y=2 b:y=2 b:x=1,y=2", false},
		{"b:x=1,y=2 b:x=1,z=2 b:x=1,y=2 b:x=1,y=2", false},
		{"b:x=1,y=2,z=3 b:z=3,x=1,y=2 b:y=2,z=3,x=1 b:z=3,y=2,x=1", true},
		{"b:x=1,y=2,z=3 b:z=3,x=1,y=2 b:y=2,z=4,x=1 b:z=3,y=2,x=1", false},
		{"b:x=ab b:x=ab b:x=ab b:xa=b", false},
		{"b:x=A b:x=A b:x=A b:x=a", false},
		{"b:X=a b:X=a b:X=a b:x=a", false},
	} {
		want := []int{1, 2, 3, 4}
		if c.alike {
			want = []int{2, 3, 4}
		}
		checkPush(t, formatTree(c.words), []int{1, 2, 3}, 4, want)
	}
}

// Each order of the attributes is the same kind; a value, a name or a count that is not the same makes it another one.
func TestPushOfAsManyAttrsAsThereMayBe(t *testing.T) {
	for n := range 21 {
		attrs := manyAttrs(n)
		backwards := slices.Clone(attrs)
		slices.Reverse(backwards)
		tree := formatTree("b b b b")
		for at, list := range [][]impl.Attr{attrs, backwards, attrs, joined(attrs[n/2:], attrs[:n/2])} {
			tree.Nodes[at+1].Attrs = slices.Clone(list)
		}
		checkPush(t, tree, []int{1, 2, 3}, 4, []int{2, 3, 4})
		for i := range n {
			other := with(tree, 4, func(n *impl.Node) { n.Attrs[i].Value += "x" })
			checkPush(t, other, []int{1, 2, 3}, 4, []int{1, 2, 3, 4})
			other = with(tree, 2, func(n *impl.Node) { n.Attrs[i].Name += "x" })
			checkPush(t, other, []int{1, 2, 3}, 4, []int{1, 2, 3, 4})
			other = with(tree, 3, func(n *impl.Node) { n.Attrs = slices.Delete(n.Attrs, i, i+1) })
			checkPush(t, other, []int{1, 2, 3}, 4, []int{1, 2, 3, 4})
		}
	}
}

func TestPushOfEachOrderOfAttrs(t *testing.T) {
	attrs := []impl.Attr{{Name: "a", Value: "1"}, {Name: "b"}, {Name: "aa", Value: "1"}, {Name: "\u00e9", Value: "2"}}
	eachNumbers(4, 0, 3, func(order []int) {
		list := []impl.Attr{}
		for _, i := range order {
			list = append(list, attrs[i])
		}
		if !attrsFit(list) {
			return
		}
		tree := formatTree("u u u u")
		for at := 1; at <= 4; at++ {
			tree.Nodes[at].Attrs = slices.Clone(attrs)
		}
		tree.Nodes[1+order[0]].Attrs = list
		checkPush(t, tree, []int{1, 2, 3}, 4, []int{2, 3, 4})
	})
}

func TestPushOfLongValues(t *testing.T) {
	long := strings.Repeat("v", 2999)
	tree := formatTree("b b b b")
	for at := 1; at <= 4; at++ {
		tree.Nodes[at].Attrs = []impl.Attr{{Name: strings.Repeat("n", 60), Value: long + "w"}}
	}
	checkPush(t, tree, []int{1, 2, 3}, 4, []int{2, 3, 4})
	other := with(tree, 4, func(n *impl.Node) { n.Attrs[0].Value = long + "u" })
	checkPush(t, other, []int{1, 2, 3}, 4, []int{1, 2, 3, 4})
	other = with(tree, 4, func(n *impl.Node) { n.Attrs[0].Value += "w" })
	checkPush(t, other, []int{1, 2, 3}, 4, []int{1, 2, 3})
}

func TestPushOfOneThatStandsThere(t *testing.T) {
	tree := formatTree("b b b b i")
	for _, fmts := range [][]int{{1}, {1, 2}, {2, 1}, {1, 2, 3}, {2, 1, 3}, {2, 3, 1}, {1, -1}, {1, -1, 2, 3, 4}, {1, 2, 3, 4}, {5, 1, 2, 3}, {-1, 1, 2, 3}, {-1, 5, 1}} {
		checkPush(t, tree, fmts, 1, fmts)
	}
}

func TestPushOfABar(t *testing.T) {
	tree := formatTree("b b b b i p")
	for _, fmts := range [][]int{nil, {1}, {1, 2, 3}, {1, 2, 3, 4}, {-1}, {-1, -1, -1}, {-1, -1, -1, -1}, {5, -1, 1, 2, 3}, repeated(-1, 59)} {
		checkPush(t, tree, fmts, -1, joined(fmts, []int{-1}))
	}
	checkPush(t, tree, repeated(-1, 60), -1, repeated(-1, 60))
	checkPush(t, tree, []int{6}, -1, []int{6})
}

// With at a list of MaxFmts numbers would have one more, whether or not three are alike.
func TestPushToAFullList(t *testing.T) {
	tree := manyFormats(61)
	checkPush(t, tree, numbersFrom(1, 58), 61, joined(numbersFrom(1, 58), []int{61}))
	checkPush(t, tree, numbersFrom(1, 59), 61, joined(numbersFrom(1, 59), []int{61}))
	checkPush(t, tree, numbersFrom(1, 60), 61, numbersFrom(1, 60))
	checkPush(t, tree, numbersFrom(1, 60), -1, numbersFrom(1, 60))
	for _, places := range [][]int{{1, 2, 3}, {1, 30, 59}, {57, 58, 59}, {10, 20, 30}} {
		alike := cloneTree(tree)
		for _, at := range append(places, 61) {
			alike.Nodes[at].Name, alike.Nodes[at].Attrs = "b", nil
		}
		checkPush(t, alike, numbersFrom(1, 60), 61, numbersFrom(1, 60))
		checkPush(t, alike, numbersFrom(1, 59), 61, joined(numbersFrom(1, places[0]-1), numbersFrom(places[0]+1, 59), []int{61}))
	}
	bars := append(repeated(-1, 56), 1, 2, 3)
	alike := formatTree("b b b b")
	checkPush(t, alike, bars, 4, append(repeated(-1, 56), 2, 3, 4))
	checkPush(t, alike, append(bars, -1), 4, append(bars, -1))
	checkPush(t, alike, append([]int{-1}, bars...), 4, append([]int{-1}, bars...))
	checkNoFormats(t, tree, numbersFrom(1, 61), 61, "b")
}

func TestPushOfListsThatAreNotRight(t *testing.T) {
	tree := formatTree("b b b b i p")
	for _, fmts := range [][]int{{0}, {6}, {7}, {-2}, {1, 1}, {1, 2, 3, 3}, {1, 2, 3, 6}, {6, -1, 1, 2, 3}, {math.MinInt}, {1, 2, 3, math.MaxInt}, repeated(-1, 61)} {
		for _, at := range []int{4, 5, 6, 7, 0, -1, -2, 1} {
			checkNoFormats(t, tree, fmts, at, "b")
		}
	}
}

func TestFmtClear(t *testing.T) {
	for _, c := range []struct{ fmts, want []int }{
		{nil, nil},
		{[]int{}, nil},
		{[]int{1}, nil},
		{[]int{1, 2, 3}, nil},
		{[]int{-1}, nil},
		{[]int{-1, 1, 2}, nil},
		{[]int{1, 2, -1}, []int{1, 2}},
		{[]int{1, -1, 2}, []int{1}},
		{[]int{-1, -1}, []int{-1}},
		{[]int{1, -1, -1, 2}, []int{1, -1}},
		{[]int{1, -1, 2, -1, 3}, []int{1, -1, 2}},
		{[]int{-1, 1, -1}, []int{-1, 1}},
		{[]int{-1, -1, -1, 4}, []int{-1, -1}},
		{[]int{-2, 0, 500, -1, 7, 7}, []int{-2, 0, 500}},
		{[]int{math.MinInt, math.MaxInt, 1 << 32, -1 << 32, -1, 1<<32 - 1}, []int{math.MinInt, math.MaxInt, 1 << 32, -1 << 32}},
		{[]int{3, 3, 3, -1, 3, 3}, []int{3, 3, 3}},
		{[]int{math.MaxInt, -2, 0}, nil},
		{[]int{255, 1<<32 - 1, -1<<32 - 1}, nil},
		{append(repeated(-1, 100), 1), repeated(-1, 99)},
		{append(repeated(5, 100), -1, 5), repeated(5, 100)},
		{repeated(1, 100000), nil},
	} {
		checkClear(t, c.fmts, c.want)
	}
}

func TestFindOfTheLastBehindABar(t *testing.T) {
	tree := formatTree("b i b u b:x=1 em")
	for _, c := range []struct {
		fmts []int
		name string
		want int
	}{
		{nil, "b", -1},
		{[]int{-1}, "b", -1},
		{[]int{1}, "b", 0},
		{[]int{2}, "b", -1},
		{[]int{2, 1}, "b", 1},
		{[]int{1, 2}, "b", 0},
		{[]int{1, 2, 3}, "b", 2},
		{[]int{3, 2, 1, 4}, "b", 2},
		{[]int{1, 5, 2}, "b", 1},
		{[]int{5, 1, 2}, "b", 1},
		{[]int{1, -1}, "b", -1},
		{[]int{1, -1, 2}, "b", -1},
		{[]int{1, -1, 2}, "i", 2},
		{[]int{1, -1, 3, 2}, "b", 2},
		{[]int{-1, 3, 2}, "b", 1},
		{[]int{1, 3, -1, -1, 2, 4}, "b", -1},
		{[]int{1, -1, 3, -1, 2, 4}, "b", -1},
		{[]int{1, -1, 3, -1, 2, 5}, "b", 5},
		{[]int{6, -1, -1, 1, 2, 3, 4}, "b", 5},
		{[]int{6, -1, -1, 1, 2, 3, 4}, "em", -1},
		{[]int{6, -1, -1, 1, 2, 3, 4}, "u", 6},
	} {
		checkFind(t, tree, c.fmts, c.name, c.want)
	}
	for _, name := range append([]string{"", "B", "b ", " b", "bb", "p", "page", "-1", "e", "emm"}, badTexts...) {
		checkFind(t, tree, []int{1, 2, 3, 4, 5, 6}, name, -1)
		checkFind(t, tree, []int{1, -1, 2, 3}, name, -1)
		checkFind(t, tree, nil, name, -1)
		checkFind(t, tree, []int{-1, -1}, name, -1)
	}
}

func TestFindTellsAPlaceAndNoNumber(t *testing.T) {
	tree := manyFormats(60)
	fmts := numbersFrom(1, 60)
	slices.Reverse(fmts)
	for i, name := range strings.Split(formatList, ", ") {
		checkFind(t, tree, fmts, name, 59-i)
	}
	fmts[59] = -1
	checkFind(t, tree, fmts, "a", -1)
	fmts[59], fmts[0] = 1, -1
	checkFind(t, tree, fmts, "a", 59)
	checkFind(t, tree, append(fmts, -1), "a", -1)
}

func TestFindInListsThatAreNotRight(t *testing.T) {
	tree := formatTree("b i b p")
	for _, fmts := range [][]int{{1, 1}, {1, 4}, {4, 1}, {4, -1, 1}, {1, 0}, {0, -1, 1}, {1, -2}, {5, 1}, {1, -1, 1}, append(repeated(-1, 60), 1), {math.MaxInt, 1}} {
		for _, name := range []string{"b", "i", "p", ""} {
			checkNoFormats(t, tree, fmts, 2, name)
		}
	}
}

func TestFmtLess(t *testing.T) {
	for _, c := range []struct {
		fmts []int
		at   int
		want []int
	}{
		{nil, 1, nil},
		{[]int{}, -1, nil},
		{[]int{1}, 1, nil},
		{[]int{1}, 2, []int{1}},
		{[]int{1, 2, 3}, 1, []int{2, 3}},
		{[]int{1, 2, 3}, 2, []int{1, 3}},
		{[]int{1, 2, 3}, 3, []int{1, 2}},
		{[]int{1, 2, 3}, 0, []int{1, 2, 3}},
		{[]int{1, 2, 1, 1, 3, 1}, 1, []int{2, 3}},
		{[]int{1, 1, 1}, 1, nil},
		{[]int{-1, 1, -1, -1, 2, -1}, -1, []int{1, 2}},
		{[]int{-1, 1, -1, -1, 2, -1}, 1, []int{-1, -1, -1, 2, -1}},
		{[]int{-1, -1}, -1, nil},
		{[]int{-1, -1}, 1, []int{-1, -1}},
		{[]int{-2, 0, -1}, -2, []int{0, -1}},
		{[]int{math.MinInt, 7, math.MaxInt}, math.MinInt, []int{7, math.MaxInt}},
		{[]int{1 << 32, 0, 1<<32 + 1, 1}, 0, []int{1 << 32, 1<<32 + 1, 1}},
		{[]int{1 << 32, 0, 1<<32 + 1, 1}, 1, []int{1 << 32, 0, 1<<32 + 1}},
		{repeated(9, 1000), 9, nil},
		{append(repeated(9, 1000), 8), 9, []int{8}},
		{repeated(9, 1000), 8, repeated(9, 1000)},
	} {
		checkFmtLess(t, c.fmts, c.at, c.want)
	}
}

// A list may be one of the tree itself: the Kids of a node.
func TestFormatsThatAreKids(t *testing.T) {
	tree := linked([]impl.Node{pageNode(), elementNode("b", 0), elementNode("b", 0), elementNode("b", 0), elementNode("b", 1)})
	before := cloneTree(tree)
	for _, call := range []func(fmts []int) []int{
		func(fmts []int) []int { return impl.FmtPush(tree, fmts, 4) },
		func(fmts []int) []int { return impl.FmtPush(tree, fmts, 1) },
		func(fmts []int) []int { return impl.FmtLess(fmts, 2) },
		func(fmts []int) []int { return impl.FmtLess(fmts, 9) },
		impl.FmtClear,
	} {
		overwrite(call(tree.Nodes[0].Kids), -1000)
		overwrite(call(tree.Nodes[1].Kids), -1000)
		if !sameTree(tree, before) {
			t.Fatalf("the tree is turned: %s", treeText(tree))
		}
	}
}

func TestEachShortListOfFormats(t *testing.T) {
	tree := formatTree("b b b b b:x=1 p")
	for n := range 5 {
		eachNumbers(n, -2, 7, func(fmts []int) {
			for at := -1; at <= 6; at++ {
				if n < 4 || at == 4 {
					formatsQuickly(t, tree, fmts, at, "b")
				}
			}
		})
	}
}

func TestEachOrderOfFormatsAndBars(t *testing.T) {
	tree := formatTree("b b b b i b")
	eachNumbers(5, -1, 5, func(fmts []int) {
		if !slices.Contains(fmts, 0) && fmtsFit(tree, fmts) {
			for _, at := range []int{4, 5, 6, -1} {
				formatsQuickly(t, tree, fmts, at, "i")
			}
		}
	})
}

// mostAlike is how many of one kind stand behind one bar, at most.
func mostAlike(tree impl.Tree, fmts []int) int {
	most := 0
	for place, at := range fmts {
		alike := 0
		for _, x := range fmts[:place+1] {
			if x == -1 {
				alike = 0
			} else if formatsAlike(tree, x, at) {
				alike++
			}
		}
		most = max(most, alike)
	}
	return most
}

// checkPromise goes by the steps from the empty list on: whatever is done, three of a kind are there at most.
func checkPromise(t *testing.T, tree impl.Tree, steps []byte) {
	t.Helper()
	fmts := []int{}
	for _, step := range steps {
		at := int(step)%(len(tree.Nodes)+2) - 1
		switch {
		case step < 225:
			fmts = impl.FmtPush(tree, fmts, at)
		case step < 235:
			fmts = impl.FmtPush(tree, fmts, -1)
		case step < 245:
			fmts = impl.FmtLess(fmts, max(at, 0)) // without its bars what stood behind several of them stands behind one
		case step < 250:
			fmts = impl.FmtClear(fmts)
		}
		if !impl.FmtsOk(tree, fmts) || mostAlike(tree, fmts) > 3 {
			t.Fatalf("of one kind %d are there: %v", mostAlike(tree, fmts), fmts)
		}
	}
}

func TestThreeOfAKindAtMost(t *testing.T) {
	for _, words := range []string{
		strings.Repeat("b ", 80), strings.Repeat("b i ", 40), strings.Repeat("b:x=1,y=2 b:y=2,x=1 b:x=2,y=1 ", 30), strings.Repeat("a b big code em font i nobr s small strike strong tt u ", 9), "p b i",
	} {
		tree := formatTree(words)
		for seed := range uint32(20) {
			checkPromise(t, tree, manySteps(seed, 200))
		}
	}
	tree, fmts := formatTree(strings.Repeat("b ", 100)), []int{}
	for at := range 100 {
		fmts = impl.FmtPush(tree, fmts, at+1)
		if want := numbersFrom(max(1, at-1), at+1); !slices.Equal(fmts, want) {
			t.Fatalf("of %d pushed are left %v, want %v", at+1, fmts, want)
		}
	}
}

// madeFormats picks names, attributes, bars and places by the bytes; some lists are not right.
func madeFormats(steps []byte) (impl.Tree, []int) {
	words := wordsOf("b b b i i b:x=1 b:x=1 b:x=1,y=2 b:y=2,x=1 i:x=1 a u p span em:z=")
	nodes, fmts := []impl.Node{pageNode()}, []int{}
	for i := 0; i+1 < len(steps) && len(nodes) < 500; i += 2 {
		at := len(nodes)
		nodes = append(nodes, formatNode(words[int(steps[i])%len(words)], []int{0, -1, at - 1}[i%3]))
		how := int(steps[i+1])
		if how%8 == 0 {
			fmts = slices.Insert(fmts, how%(len(fmts)+1), -1)
		}
		if listed(formatList, nodes[at].Name) || how == 77 {
			fmts = slices.Insert(fmts, how%(len(fmts)+1), at)
		}
	}
	return linked(nodes), fmts
}

func checkMadeFormats(t *testing.T, steps []byte) {
	t.Helper()
	tree, fmts := madeFormats(steps)
	some := fmts[:min(len(fmts), 59)]
	for _, name := range []string{"b", "i", "em", "p"} {
		at := len(tree.Nodes) - 1
		checkFormats(t, tree, fmts, at, name)
		checkFormats(t, tree, some, at, name)
		checkFormats(t, tree, some, -1, name)
	}
	for _, x := range some {
		checkFormats(t, tree, expectedFmtLess(some, x), x, "b")
	}
	if len(some) > 0 && len(steps) > 0 {
		turned := slices.Clone(some)
		turned[int(steps[0])%len(turned)] = int(int8(steps[len(steps)-1]))
		checkFormats(t, tree, turned, 1, "b")
	}
}

func TestMadeFormats(t *testing.T) {
	for seed := range uint32(80) {
		checkMadeFormats(t, manySteps(seed, 2*int(seed%70)))
	}
}

func TestFormatsAskedByManyAtOnce(t *testing.T) {
	tree := formatTree("b:x=1,y=2 b:y=2,x=1 i b:x=1,y=2 b:y=2,x=1")
	var all sync.WaitGroup
	for range 8 {
		all.Go(func() {
			for range 20 {
				formatsQuickly(t, tree, []int{-1, 1, 2, 3, 4}, 5, "i")
			}
		})
	}
	all.Wait()
}

func FuzzFormats(f *testing.F) {
	for seed := range uint32(8) {
		f.Add(manySteps(seed, 60), 4, "b")
	}
	f.Fuzz(func(t *testing.T, steps []byte, at int, name string) {
		if len(steps) > 200 {
			return
		}
		checkMadeFormats(t, steps)
		tree, fmts := madeFormats(steps)
		checkFormats(t, tree, fmts, at, name)
		checkPromise(t, tree, steps)
		numbers := []int{}
		for _, x := range steps[:min(len(steps), 64)] {
			numbers = append(numbers, int(int8(x)))
		}
		checkFormats(t, tree, numbers, at, name)
	})
}
