package tests

import (
	"math"
	"slices"
	"strconv"
	"strings"
	"sync"
	"testing"

	"loop.example/g00118/impl"
)

// openNames is a tree of elements, each below the one ahead of it, and the row of all of them.
func openNames(names ...string) (impl.Tree, []int) {
	nodes, row := []impl.Node{pageNode()}, []int{}
	for i, name := range names {
		nodes = append(nodes, elementNode(name, i))
		row = append(row, i+1)
	}
	return linked(nodes), row
}

// openApart has the same names among other nodes: the inner ones come first, some stand below none, and some outer ones
// below inner ones.
func openApart(names ...string) (impl.Tree, []int) {
	nodes, row := []impl.Node{pageNode(), textNode("x", 0), commentNode("p", -1), doctypeNode("p", 0)}, []int{}
	last := 0
	for i, name := range slices.Backward(names) {
		at := len(nodes)
		open := withAttrs(elementNode(name, []int{0, -1, last}[i%3]), impl.Attr{Name: "p", Value: "li"})
		nodes = append(nodes, open, textNode("p", at), elementNode("p", -1))
		row, last = append(row, at), at
	}
	slices.Reverse(row)
	return linked(nodes), row
}

func rowNames(tree impl.Tree, row []int) string {
	names := []string{}
	for _, at := range row[:min(len(row), 50)] {
		if thereIs(tree, at) {
			names = append(names, short(tree.Nodes[at].Name))
		} else {
			names = append(names, strconv.Itoa(at))
		}
	}
	return strconv.Itoa(len(row)) + " " + strings.Join(names, " ")
}

// stackFits and what is expected below go by the sentences of the document.
func stackFits(tree impl.Tree, row []int) bool {
	if len(row) > 40 || !treeFits(tree) {
		return false
	}
	seen := map[int]int{}
	for _, at := range row {
		seen[at]++
		if seen[at] > 1 || !thereIs(tree, at) || tree.Nodes[at].Kind != 3 {
			return false
		}
	}
	return true
}

func endsScope(name string, kind int) bool {
	return listed(boundList, name) || kind == 2 && (name == "ol" || name == "ul") || kind == 3 && name == "button"
}

func expectedOpenAt(tree impl.Tree, row []int, name string) int {
	found := -1
	if stackFits(tree, row) {
		for place, at := range row {
			if tree.Nodes[at].Name == name {
				found = place
			}
		}
	}
	return found
}

func expectedInScope(tree impl.Tree, row []int, name string, kind int) bool {
	place := expectedOpenAt(tree, row, name)
	if place == -1 || kind != 1 && kind != 2 && kind != 3 {
		return false
	}
	return !slices.ContainsFunc(row[place+1:], func(at int) bool { return endsScope(tree.Nodes[at].Name, kind) })
}

func expectedPopTo(tree impl.Tree, row []int, name string) []int {
	switch place := expectedOpenAt(tree, row, name); place {
	case -1:
		return row
	case 0:
		return row[:1]
	default:
		return row[:place]
	}
}

func expectedPopImplied(tree impl.Tree, row []int, but string) []int {
	if !stackFits(tree, row) {
		return row
	}
	for len(row) > 1 {
		name := tree.Nodes[row[len(row)-1]].Name
		if !listed(impliedList, name) || name == but {
			break
		}
		row = row[:len(row)-1]
	}
	return row
}

func checkStackOk(t *testing.T, tree impl.Tree, row []int, want bool) {
	t.Helper()
	g, r := guardTree(tree), guard(row, 1)
	if got := impl.StackOk(g.arg, r.arg); got != want || stackFits(tree, row) != want {
		t.Errorf("StackOk of %s in %s = %v", rowNames(tree, row), treeText(tree), got)
	}
	if !g.untouched() || !r.untouched() {
		t.Errorf("StackOk of %s wrote into an argument", rowNames(tree, row))
	}
}

func checkScope(t *testing.T, tree impl.Tree, row []int, name string, kind int, want bool) {
	t.Helper()
	g, r := guardTree(tree), guard(row, 1)
	if got := impl.InScope(g.arg, r.arg, name, kind); got != want || expectedInScope(tree, row, name, kind) != want {
		t.Errorf("InScope of %s: %s in scope %d = %v", rowNames(tree, row), short(name), kind, got)
	}
	if !g.untouched() || !r.untouched() {
		t.Errorf("InScope of %s wrote into an argument", rowNames(tree, row))
	}
}

func checkScopes(t *testing.T, tree impl.Tree, row []int, name string, all bool, list bool, button bool) {
	t.Helper()
	checkScope(t, tree, row, name, impl.ScopeAll, all)
	checkScope(t, tree, row, name, impl.ScopeList, list)
	checkScope(t, tree, row, name, impl.ScopeButton, button)
}

func checkOpenAt(t *testing.T, tree impl.Tree, row []int, name string, want int) {
	t.Helper()
	g, r := guardTree(tree), guard(row, 1)
	if got := impl.OpenAt(g.arg, r.arg, name); got != want || expectedOpenAt(tree, row, name) != want {
		t.Errorf("OpenAt of %s: %s = %d, want %d", rowNames(tree, row), short(name), got, want)
	}
	if !g.untouched() || !r.untouched() {
		t.Errorf("OpenAt of %s wrote into an argument", rowNames(tree, row))
	}
}

// checkPopped asks what a call answers of a row, that it is the beginning of it, and that its memory is its own.
func checkPopped(t *testing.T, what string, tree impl.Tree, row []int, want []int, call func(impl.Tree, []int) []int) {
	t.Helper()
	g, r := guardTree(tree), guard(row, 1)
	first := call(g.arg, r.arg)
	if !slices.Equal(first, want) {
		t.Errorf("%s of %s = %v, want %v", what, rowNames(tree, row), first, want)
	}
	if len(first) > len(row) || !slices.Equal(first, row[:len(first)]) || len(row) > 0 && len(first) == 0 {
		t.Errorf("%s of %s is no beginning of it: %v", what, rowNames(tree, row), first)
	}
	if !g.untouched() || !r.untouched() {
		t.Errorf("%s of %s wrote into an argument", what, rowNames(tree, row))
	}
	second := call(g.arg, r.arg)
	overwrite(first, -1000)
	if !g.untouched() || !r.untouched() {
		t.Errorf("%s of %s: the answer shares memory with an argument", what, rowNames(tree, row))
	}
	overwrite(r.arg, -2000)
	fillTree(g.arg)
	if !slices.Equal(second, want) {
		t.Errorf("%s of %s: a second answer shares memory with the first one or with the argument", what, rowNames(tree, row))
	}
}

func checkPopTo(t *testing.T, tree impl.Tree, row []int, name string, left int) {
	t.Helper()
	if want := expectedPopTo(tree, row, name); len(want) != left {
		t.Errorf("of %s %d are left by PopTo %s, want %d", rowNames(tree, row), len(want), name, left)
	}
	checkPopped(t, "PopTo "+short(name), tree, row, row[:left], func(tree impl.Tree, row []int) []int {
		return impl.PopTo(tree, row, name)
	})
}

func checkPopImplied(t *testing.T, tree impl.Tree, row []int, but string, left int) {
	t.Helper()
	if want := expectedPopImplied(tree, row, but); len(want) != left {
		t.Errorf("of %s %d are left by PopImplied %s, want %d", rowNames(tree, row), len(want), but, left)
	}
	checkPopped(t, "PopImplied "+short(but), tree, row, row[:left], func(tree impl.Tree, row []int) []int {
		return impl.PopImplied(tree, row, but)
	})
}

func scopeKinds() []int {
	return []int{1, 2, 3, 0, 4, -1, 5, -2, -3, 257, 258, 259, 1 << 32, 1<<32 + 1, 1<<32 + 2, 1<<32 + 3, math.MaxInt, math.MinInt, math.MinInt + 1}
}

// checkRow asks each function about one row and one name.
func checkRow(t *testing.T, tree impl.Tree, row []int, name string) {
	t.Helper()
	checkStackOk(t, tree, row, stackFits(tree, row))
	for _, kind := range scopeKinds() {
		checkScope(t, tree, row, name, kind, expectedInScope(tree, row, name, kind))
	}
	checkOpenAt(t, tree, row, name, expectedOpenAt(tree, row, name))
	checkPopTo(t, tree, row, name, len(expectedPopTo(tree, row, name)))
	checkPopImplied(t, tree, row, name, len(expectedPopImplied(tree, row, name)))
}

// checkRefused asks what is told of a row that is not right: no, none, and the row as it is.
func checkRefused(t *testing.T, tree impl.Tree, row []int, name string) {
	t.Helper()
	checkStackOk(t, tree, row, false)
	for _, kind := range scopeKinds() {
		checkScope(t, tree, row, name, kind, false)
	}
	checkOpenAt(t, tree, row, name, -1)
	checkPopTo(t, tree, row, name, len(row))
	checkPopImplied(t, tree, row, name, len(row))
}

// askedQuickly asks the same without a look at memory, for rows by the thousand.
func askedQuickly(t *testing.T, tree impl.Tree, row []int, name string) {
	t.Helper()
	for kind := range 5 {
		if got := impl.InScope(tree, row, name, kind); got != expectedInScope(tree, row, name, kind) {
			t.Errorf("InScope of %s: %s in scope %d = %v", rowNames(tree, row), short(name), kind, got)
		}
	}
	if got, want := impl.OpenAt(tree, row, name), expectedOpenAt(tree, row, name); got != want {
		t.Errorf("OpenAt of %s: %s = %d, want %d", rowNames(tree, row), short(name), got, want)
	}
	if got, want := impl.PopTo(tree, row, name), expectedPopTo(tree, row, name); !slices.Equal(got, want) {
		t.Errorf("PopTo of %s: %s = %v, want %v", rowNames(tree, row), short(name), got, want)
	}
	if got, want := impl.PopImplied(tree, row, name), expectedPopImplied(tree, row, name); !slices.Equal(got, want) {
		t.Errorf("PopImplied of %s but %s = %v, want %v", rowNames(tree, row), short(name), got, want)
	}
}

func wordsOf(text string) []string {
	return strings.Fields(text)
}

func TestStackConstants(t *testing.T) {
	if impl.MaxStack != 40 || impl.ScopeAll != 1 || impl.ScopeList != 2 || impl.ScopeButton != 3 {
		t.Error("a constant is not as told")
	}
}

func TestStackOkOfTheEmptyRow(t *testing.T) {
	for _, tree := range []impl.Tree{impl.TreeNew(), sampleTree(), manyNodes(500, belowPage)} {
		checkStackOk(t, tree, nil, true)
		checkStackOk(t, tree, []int{}, true)
	}
	for _, tree := range wrongTrees() {
		checkStackOk(t, tree, nil, false)
	}
}

func TestStackOkOfAsManyAsThereMayBe(t *testing.T) {
	for _, parentOf := range []func(int) int{belowPage, belowNone, belowTheLast} {
		tree := manyNodes(61, parentOf)
		for n := range 60 {
			row := []int{}
			for at := range n {
				row = append(row, at+1)
			}
			checkStackOk(t, tree, row, n <= 40)
			slices.Reverse(row)
			checkStackOk(t, tree, row, n <= 40)
		}
	}
	far := []int{}
	for at := 460; at < 500; at++ {
		far = append(far, at)
	}
	checkStackOk(t, manyNodes(500, belowPage), far, true)
	checkStackOk(t, manyNodes(500, belowPage), append(far, 1), false)
	checkStackOk(t, manyNodes(499, belowPage), far, false)
	for _, n := range []int{41, 42, 80, 256, 296, 1000, 100000} {
		checkRefused(t, sampleTree(), repeated(1, n), "p")
	}
}

func TestStackOkOfANumberTwice(t *testing.T) {
	tree := manyNodes(41, belowTheLast)
	row := []int{}
	for at := 1; at <= 40; at++ {
		row = append(row, at)
	}
	checkStackOk(t, tree, row, true)
	for i := range row {
		for j := range row {
			turned := slices.Clone(row)
			turned[i] = row[j]
			checkStackOk(t, tree, turned, i == j)
		}
	}
	for _, row := range [][]int{{1, 1}, {1, 2, 1}, {2, 1, 1}, {1, 1, 2}, {1, 1, 1}, {1, 2, 2, 1}, {3, 2, 1, 2, 3}} {
		checkRefused(t, tree, row, "e1")
	}
}

func TestStackOkOfNumbersThatAreNoNodes(t *testing.T) {
	tree, row := openNames(wordsOf("html body p b i")...)
	numbers := append(farNumbers(), -1, -2, 6, 7, 500, 1<<32, 1<<32+1, -1<<32+1, math.MaxInt, math.MinInt, math.MaxInt-1, math.MinInt+1)
	for _, x := range numbers {
		if thereIs(tree, x) {
			continue
		}
		checkRefused(t, tree, []int{x}, "p")
		for at := range row {
			turned := slices.Clone(row)
			turned[at] = x
			checkStackOk(t, tree, turned, false)
		}
		checkRefused(t, tree, append(slices.Clone(row), x), "html")
		checkRefused(t, tree, append([]int{x}, row...), "html")
	}
}

func TestStackOkOfOtherKindsOfNodes(t *testing.T) {
	tree := sampleTree()
	for at, n := range tree.Nodes {
		checkStackOk(t, tree, []int{at}, n.Kind == impl.NdElement)
		checkStackOk(t, tree, []int{1, at}, n.Kind == impl.NdElement && at != 1)
		checkStackOk(t, tree, []int{at, 1}, n.Kind == impl.NdElement && at != 1)
		checkStackOk(t, tree, []int{1, at, 2}, n.Kind == impl.NdElement && at != 1 && at != 2)
		if n.Kind != impl.NdElement {
			for _, name := range []string{"p", "b", "", n.Name, n.Text} {
				checkRefused(t, tree, []int{1, 2, at}, name)
				checkRefused(t, tree, []int{at, 1, 2}, name)
			}
		}
	}
}

func TestStackOkOfRowsUnlikeTheTree(t *testing.T) {
	tree := sampleTree()
	for _, row := range [][]int{{2, 1}, {7}, {9}, {9, 7}, {7, 1}, {1, 9, 2, 7}, {2, 9}} {
		checkStackOk(t, tree, row, true) // below none, in no order, in no way below each other
		for _, name := range []string{"p", "b", "i", "u", "html", ""} {
			checkRow(t, tree, row, name)
		}
	}
}

func TestRowsOfEachNumberOfATree(t *testing.T) {
	tree := sampleTree()
	for n := range 4 {
		eachNumbers(n, -1, len(tree.Nodes), func(row []int) {
			if got := impl.StackOk(tree, row); got != stackFits(tree, row) {
				t.Errorf("StackOk of %v = %v", row, got)
			}
			for _, name := range []string{"p", "b", "i"} {
				if n < 3 || name == "p" {
					askedQuickly(t, tree, row, name)
				}
			}
		})
	}
}

func TestRowsOfWrongTrees(t *testing.T) {
	for _, tree := range wrongTrees() {
		for _, row := range [][]int{nil, {0}, {1}, {2}, {1, 2}, {1, 2, 7}, {2, 1}, {9}, {-1}, {499}, {500}, {1, 1}} {
			for _, name := range []string{"p", "b", "i", "e1", ""} {
				checkRefused(t, tree, row, name)
			}
		}
	}
	good, row := openNames(wordsOf("html body p li")...)
	for at := range good.Nodes {
		for _, turn := range []func(n *impl.Node){
			func(n *impl.Node) { n.Kind = 9 },
			func(n *impl.Node) { n.Text = "x" },
			func(n *impl.Node) { n.Parent = at },
			func(n *impl.Node) { n.Kids = append(n.Kids, at) },
			func(n *impl.Node) { n.Attrs = named("a", "a") },
			func(n *impl.Node) { n.Name += " " },
		} {
			for _, name := range []string{"html", "p", "li"} {
				checkRefused(t, with(good, at, turn), row, name)
			}
		}
	}
}

func TestScopeOfTheCurrentOne(t *testing.T) {
	for _, name := range append(kindNames(), "span", "x-y") {
		for _, ahead := range []string{"", "html", "html body", "html ol", "html button table", "td th"} {
			tree, row := openNames(wordsOf(ahead + " " + name)...)
			checkScopes(t, tree, row, name, true, true, true)
		}
	}
}

func TestScopeOfTheFirst(t *testing.T) {
	tree, row := openNames(wordsOf("html body div p b")...)
	checkScopes(t, tree, row, "html", true, true, true)
	checkScopes(t, tree, row, "body", true, true, true)
	tree, row = openNames(wordsOf("p html")...)
	checkScopes(t, tree, row, "p", false, false, false)
	tree, row = openNames(wordsOf("p ul b")...)
	checkScopes(t, tree, row, "p", true, false, true)
	tree, row = openNames(wordsOf("p button")...)
	checkScopes(t, tree, row, "p", true, true, false)
}

// One of each name stands between the one that is asked for and the current one.
func TestScopeWithEachNameBetween(t *testing.T) {
	for _, between := range append(kindNames(), "span", "form", "caption", "template", "select", "tbody", "ool", "buttons", "htm") {
		bound := slices.Contains(wordsOf("applet html marquee object table td th"), between)
		all, list, button := !bound, !bound && between != "ol" && between != "ul", !bound && between != "button"
		for _, row := range []string{"x ? ", "html x ? ", "html x y ? z", "html body x ? ? ?", "html table x span ? b"} {
			tree, row := openNames(wordsOf(strings.ReplaceAll(row, "?", between))...)
			checkScopes(t, tree, row, "x", all, list, button)
			checkScopes(t, tree, row, between, true, true, true)
		}
		tree, row := openNames("html", between, "x")
		checkScopes(t, tree, row, "x", true, true, true)
	}
}

func TestScopeOfTwoOfOneName(t *testing.T) {
	for _, c := range []struct {
		row               string
		all, list, button bool
	}{
		{"html p table p b", true, true, true},
		{"html p ul p", true, true, true},
		{"html p p table", false, false, false},
		{"html p table p td", false, false, false},
		{"html p p ul", true, false, true},
		{"html p p ol", true, false, true},
		{"html p p button", true, true, false},
		{"html table p p", true, true, true},
		{"html p object b p i", true, true, true},
		{"html p button p ul li", true, false, true},
		{"html p ul p button b", true, true, false},
		{"html p p ul button", true, false, false},
		{"html p button ul", true, false, false},
		{"html p ul ol button th", false, false, false},
		{"html table td b", false, false, false},
		{"", false, false, false},
	} {
		tree, row := openNames(wordsOf(c.row)...)
		checkScopes(t, tree, row, "p", c.all, c.list, c.button)
		tree, row = openApart(wordsOf(c.row)...)
		checkScopes(t, tree, row, "p", c.all, c.list, c.button)
	}
}

func TestScopeOfNamesThatAreNotThere(t *testing.T) {
	tree, row := openNames(wordsOf("html body p b")...)
	for _, name := range append([]string{"", "P", "p ", " p", "pp", "bod", "bodys", "B", "HTML", "ul", "ol", "button", "table", strings.Repeat("p", 61)}, badTexts...) {
		checkScopes(t, tree, row, name, false, false, false)
		checkScopes(t, tree, nil, name, false, false, false)
		checkRow(t, tree, row, name)
		checkRow(t, tree, nil, name)
		checkRow(t, tree, row[:1], name)
	}
}

func TestScopeOfKindsThatAreNone(t *testing.T) {
	tree, row := openNames(wordsOf("html body p b")...)
	for _, kind := range scopeKinds() {
		for _, name := range wordsOf("html body p b") {
			checkScope(t, tree, row, name, kind, kind == 1 || kind == 2 || kind == 3)
		}
	}
	for kind := -300; kind <= 300; kind++ {
		checkScope(t, tree, row, "p", kind, kind >= 1 && kind <= 3)
	}
}

func TestOpenAtTellsTheLast(t *testing.T) {
	for _, open := range []func(...string) (impl.Tree, []int){openNames, openApart} {
		tree, row := open(wordsOf("html body p table p b p ul")...)
		for name, want := range map[string]int{"html": 0, "body": 1, "p": 6, "table": 3, "b": 5, "ul": 7, "": -1, "li": -1, "P": -1, "pp": -1, "u": -1} {
			checkOpenAt(t, tree, row, name, want)
		}
		for n := range len(row) + 1 {
			checkOpenAt(t, tree, row[:n], "p", []int{-1, -1, -1, 2, 2, 4, 4, 6, 6}[n])
		}
	}
}

func TestOpenAtTellsAPlaceAndNoNumber(t *testing.T) {
	tree := manyNodes(61, belowPage)
	row := []int{60, 7, 33, 1, 59}
	for place, at := range row {
		checkOpenAt(t, tree, row, "e"+strconv.Itoa(at), place)
	}
	for _, name := range []string{"e0", "e2", "e61", "e", "e01"} {
		checkOpenAt(t, tree, row, name, -1)
	}
}

func TestPopToAnyPlace(t *testing.T) {
	for _, open := range []func(...string) (impl.Tree, []int){openNames, openApart} {
		tree, row := open(wordsOf("html body p table p b p ul")...)
		for name, left := range map[string]int{"html": 1, "body": 1, "p": 6, "table": 3, "b": 5, "ul": 7, "li": 8, "": 8, "HTML": 8} {
			checkPopTo(t, tree, row, name, left)
		}
		for n, left := range []int{0, 1, 2, 2, 2, 4, 4, 6, 6} {
			checkPopTo(t, tree, row[:n], "p", left)
		}
	}
}

func TestPopToLeavesTheFirst(t *testing.T) {
	tree, row := openNames(wordsOf("p b i p")...)
	checkPopTo(t, tree, row, "p", 3)
	checkPopTo(t, tree, row[:3], "p", 1)
	checkPopTo(t, tree, row[:2], "p", 1)
	checkPopTo(t, tree, row[:1], "p", 1)
	checkPopTo(t, tree, row[:1], "b", 1)
	checkPopTo(t, tree, row[:0], "p", 0)
	checkPopTo(t, tree, nil, "", 0)
	tree, row = openNames(wordsOf("p p")...)
	checkPopTo(t, tree, row, "p", 1)
}

// A boundary is nothing to PopTo.
func TestPopToGoesOverBoundaries(t *testing.T) {
	for _, between := range kindNames() {
		tree, row := openNames("html", "x", "y", between, "z")
		checkPopTo(t, tree, row, "x", 1)
		checkPopTo(t, tree, row, "y", 2)
		checkPopTo(t, tree, row, between, 3)
	}
}

func TestPopImpliedTakesTheLastOnes(t *testing.T) {
	for _, c := range []struct {
		row  string
		but  string
		left int
	}{
		{"html body dd dt li optgroup option p", "", 2},
		{"html dd dt li optgroup option p", "", 1},
		{"p dd dt li optgroup option p", "", 1},
		{"html body dd dt li optgroup option p", "p", 8},
		{"html body dd dt li optgroup option p", "option", 7},
		{"html body dd dt li optgroup option p", "optgroup", 6},
		{"html body dd dt li optgroup option p", "li", 5},
		{"html body dd dt li optgroup option p", "dt", 4},
		{"html body dd dt li optgroup option p", "dd", 3},
		{"html body dd dt li optgroup option p", "body", 2},
		{"html body dd dt li optgroup option p", "html", 2},
		{"html body dd dt li optgroup option p", "span", 2},
		{"html body dd dt li optgroup option p", "P", 2},
		{"html li p li p", "li", 4},
		{"html li li li", "p", 1},
		{"html p b p p", "", 3},
		{"html p b p p", "p", 5},
		{"html p p b", "", 4},
		{"html p p b", "p", 4},
		{"p p p", "p", 3},
		{"p p p", "li", 1},
		{"p li", "p", 1},
		{"li p", "li", 1},
		{"p li p", "li", 2},
		{"p", "", 1},
		{"p", "p", 1},
		{"p", "li", 1},
		{"b", "", 1},
		{"", "", 0},
		{"", "p", 0},
		{"p b", "p", 2},
		{"b p", "", 1},
	} {
		tree, row := openNames(wordsOf(c.row)...)
		checkPopImplied(t, tree, row, c.but, c.left)
		tree, row = openApart(wordsOf(c.row)...)
		checkPopImplied(t, tree, row, c.but, c.left)
	}
}

func TestPopImpliedOfEachName(t *testing.T) {
	implied := wordsOf("dd dt li optgroup option p")
	for _, name := range append(kindNames(), "span", "tbody", "thead", "rp", "rt", "rb", "rtc", "tr", "opt", "pp", "l") {
		goes := 1
		if slices.Contains(implied, name) {
			goes = 0
		}
		tree, row := openNames("html", name)
		checkPopImplied(t, tree, row, "", 1+goes)
		checkPopImplied(t, tree, row, "html", 1+goes)
		checkPopImplied(t, tree, row, name, 2)
		tree, row = openNames("li", name, "p")
		checkPopImplied(t, tree, row, "", 1+goes)
		tree, row = openNames(name)
		checkPopImplied(t, tree, row, "", 1)
	}
}

func TestPopImpliedOfAWholeRow(t *testing.T) {
	tree, row := openNames(append([]string{"html"}, slices.Repeat([]string{"p", "li", "dd"}, 13)...)...)
	if len(row) != 40 {
		t.Fatal(len(row))
	}
	checkPopImplied(t, tree, row, "", 1)
	checkPopImplied(t, tree, row, "dd", 40)
	checkPopImplied(t, tree, row, "li", 39)
	checkPopImplied(t, tree, row, "p", 38)
	tree, row = openNames(repeated("p", 40)...)
	checkPopImplied(t, tree, row, "", 1)
	checkPopImplied(t, tree, row, "p", 40)
	checkPopTo(t, tree, row, "p", 39)
	tree, row = openNames(repeated("p", 41)...)
	checkRefused(t, tree, row, "p")
	checkRefused(t, tree, row, "")
}

func TestRowsAsTheyAreAreNewMemory(t *testing.T) {
	tree, row := openNames(wordsOf("html body b")...)
	for _, row := range [][]int{row, row[:1], {}, {1, 1}, {0}, {-1}, {9}, repeated(1, 41), repeated(-7, 1000)} {
		checkOwnMemory(t, "PopTo", row, 1, -9, func(row []int) []int { return impl.PopTo(tree, row, "p") })
		checkOwnMemory(t, "PopImplied", row, 1, -9, func(row []int) []int { return impl.PopImplied(tree, row, "p") })
		checkOwnMemory(t, "PopTo in no tree", row, 1, -9, func(row []int) []int { return impl.PopTo(impl.Tree{}, row, "p") })
		checkOwnMemory(t, "PopImplied in no tree", row, 1, -9, func(row []int) []int { return impl.PopImplied(impl.Tree{}, row, "p") })
	}
}

// A row may be a list of the tree itself: the Kids of a node.
func TestRowsThatAreKids(t *testing.T) {
	tree := linked([]impl.Node{pageNode(), elementNode("html", 0), elementNode("p", 1), elementNode("li", 1), elementNode("p", 1)})
	before := cloneTree(tree)
	for _, pop := range []func() []int{
		func() []int { return impl.PopTo(tree, tree.Nodes[1].Kids, "li") },
		func() []int { return impl.PopImplied(tree, tree.Nodes[1].Kids, "li") },
		func() []int { return impl.PopTo(tree, tree.Nodes[1].Kids, "html") },
		func() []int { return impl.PopImplied(tree, tree.Nodes[0].Kids, "") },
	} {
		overwrite(pop(), -1000)
		if !sameTree(tree, before) {
			t.Fatalf("the tree is turned: %s", treeText(tree))
		}
	}
}

// The promise, and what follows from it for the next call.
func checkBeginnings(t *testing.T, tree impl.Tree, row []int, name string) {
	t.Helper()
	to, implied := impl.PopTo(tree, row, name), impl.PopImplied(tree, row, name)
	for _, got := range [][]int{to, implied} {
		if len(got) > len(row) || !slices.Equal(got, row[:len(got)]) || len(got) == 0 && len(row) > 0 {
			t.Errorf("%v is no beginning of %v", got, row)
		}
		if impl.StackOk(tree, got) != impl.StackOk(tree, row) && impl.StackOk(tree, row) {
			t.Errorf("%v is not right any more", got)
		}
	}
	if again := impl.PopImplied(tree, implied, name); !slices.Equal(again, implied) {
		t.Errorf("PopImplied of %s but %s takes more from what is left", rowNames(tree, row), short(name))
	}
	place := impl.OpenAt(tree, row, name)
	if place > 0 && len(to) != place || place == 0 && len(to) != 1 || place < 0 && len(to) != len(row) {
		t.Errorf("of %s %d are left by PopTo %s", rowNames(tree, row), len(to), short(name))
	}
	all := impl.InScope(tree, row, name, impl.ScopeAll)
	for _, kind := range []int{impl.ScopeList, impl.ScopeButton} {
		if impl.InScope(tree, row, name, kind) && !all {
			t.Errorf("%s of %s is in scope %d alone", short(name), rowNames(tree, row), kind)
		}
	}
	if all && place < 0 {
		t.Errorf("%s of %s is in scope, but not open", short(name), rowNames(tree, row))
	}
}

func TestEachShortRowOfNames(t *testing.T) {
	names := wordsOf("html p li ul button td b")
	for n := range 5 {
		eachNumbers(n, 0, len(names)-1, func(picked []int) {
			open := []string{}
			for _, x := range picked {
				open = append(open, names[x])
			}
			tree, row := openNames(open...)
			for _, name := range append(names, "") {
				askedQuickly(t, tree, row, name)
				checkBeginnings(t, tree, row, name)
			}
		})
	}
}

func TestEachRowOfTwoOfAllNames(t *testing.T) {
	names := append(kindNames(), "span")
	for _, first := range names {
		for _, second := range names {
			tree, row := openNames("html", first, second)
			for _, name := range []string{"html", first, second, "p", ""} {
				askedQuickly(t, tree, row, name)
			}
		}
	}
}

// madeRow picks names and places by the bytes; some of its numbers are of no open element.
func madeRow(steps []byte) (impl.Tree, []int) {
	names := append(wordsOf("html p li dd dt option optgroup ul ol button table td b span"), kindNames()...)
	nodes, row := []impl.Node{pageNode()}, []int{}
	for i := 0; i+2 < len(steps) && len(nodes) < 500; i += 3 {
		name, how := names[int(steps[i])%len(names)], steps[i+1]
		switch at := len(nodes); {
		case how < 240:
			parent := []int{0, -1, at - 1, int(steps[i+2]) % at}[how%4]
			if parent > 0 && nodes[parent].Kind != impl.NdElement {
				parent = 0
			}
			nodes = append(nodes, elementNode(name, parent))
			row = slices.Insert(row, int(steps[i+2])%(len(row)+1), at)
		case how < 246:
			nodes = append(nodes, textNode(name, 0))
		case how < 252:
			nodes = append(nodes, commentNode(name, -1))
		case len(row) > 0:
			row = slices.Delete(row, 0, min(len(row), int(how-252)*9))
		}
	}
	return linked(nodes), row
}

func checkMadeRow(t *testing.T, steps []byte) {
	t.Helper()
	tree, row := madeRow(steps)
	names := []string{"p", ""}
	for _, at := range row[:min(len(row), 6)] {
		names = append(names, tree.Nodes[at].Name)
	}
	for _, name := range names {
		checkRow(t, tree, row, name)
		checkRow(t, tree, row[:min(len(row), 40)], name)
		checkBeginnings(t, tree, row[:min(len(row), 40)], name)
	}
	if len(row) == 0 || len(steps) == 0 {
		return
	}
	turned := slices.Clone(row[:min(len(row), 40)])
	turned[int(steps[0])%len(turned)] = int(int8(steps[len(steps)-1]))
	checkRow(t, tree, turned, names[len(names)-1])
}

func TestMadeRows(t *testing.T) {
	for seed := range uint32(120) {
		checkMadeRow(t, manySteps(seed, 3*int(seed%50)))
	}
}

func TestRowsAskedByManyAtOnce(t *testing.T) {
	tree, row := openNames(wordsOf("html body p ul li p button b p")...)
	var all sync.WaitGroup
	for range 8 {
		all.Go(func() {
			for _, name := range wordsOf("html body p ul li button b x") {
				askedQuickly(t, tree, row, name)
			}
		})
	}
	all.Wait()
}

func FuzzRow(f *testing.F) {
	for seed := range uint32(8) {
		f.Add(manySteps(seed, 60), "p")
	}
	f.Fuzz(func(t *testing.T, steps []byte, name string) {
		if len(steps) > 300 {
			return
		}
		checkMadeRow(t, steps)
		tree, row := madeRow(steps)
		checkRow(t, tree, row, name)
		numbers := []int{}
		for _, x := range steps[:min(len(steps), 44)] {
			numbers = append(numbers, int(int8(x)))
		}
		checkRow(t, tree, numbers, name)
	})
}
