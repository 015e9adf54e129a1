package tests

import (
	"fmt"
	"maps"
	"math"
	"slices"
	"strconv"
	"strings"
	"testing"

	"loop.example/g00118/impl"
)

func pageNode(kids ...int) impl.Node {
	return impl.Node{Kind: impl.NdPage, Parent: -1, Kids: kids}
}

func elementNode(name string, parent int, kids ...int) impl.Node {
	return impl.Node{Kind: impl.NdElement, Name: name, Parent: parent, Kids: kids}
}

func textNode(s string, parent int) impl.Node {
	return impl.Node{Kind: impl.NdText, Text: s, Parent: parent}
}

func commentNode(s string, parent int) impl.Node {
	return impl.Node{Kind: impl.NdComment, Text: s, Parent: parent}
}

func doctypeNode(name string, parent int) impl.Node {
	return impl.Node{Kind: impl.NdDoctype, Name: name, Parent: parent}
}

func withAttrs(n impl.Node, attrs ...impl.Attr) impl.Node {
	n.Attrs = attrs
	return n
}

func treeOf(nodes ...impl.Node) impl.Tree {
	return impl.Tree{Nodes: nodes}
}

// with is the tree with one node turned; the tree itself stays.
func with(t impl.Tree, at int, turn func(n *impl.Node)) impl.Tree {
	out := cloneTree(t)
	turn(&out.Nodes[at])
	return out
}

// manyNodes is a page and elements; each one's Parent is told by a function.
func manyNodes(n int, parentOf func(int) int) impl.Tree {
	nodes := []impl.Node{pageNode()}
	for i := 1; i < n; i++ {
		nodes = append(nodes, elementNode("e"+strconv.Itoa(i), parentOf(i)))
	}
	return linked(nodes)
}

func belowPage(int) int      { return 0 }
func belowNone(int) int      { return -1 }
func belowTheLast(i int) int { return i - 1 }

// linked fills in Kids by Parents, in the order of the nodes.
func linked(nodes []impl.Node) impl.Tree {
	for i := range nodes {
		nodes[i].Kids = nil
	}
	for i, n := range nodes {
		if n.Parent >= 0 && n.Parent < len(nodes) {
			nodes[n.Parent].Kids = append(nodes[n.Parent].Kids, i)
		}
	}
	return impl.Tree{Nodes: nodes}
}

// sampleTree has each kind, Attrs, nodes in no order, and nodes that stand below none with kids of their own.
func sampleTree() impl.Tree {
	return treeOf(
		pageNode(5, 1),
		withAttrs(elementNode("p", 0, 3, 6, 2), impl.Attr{Name: "id", Value: "1"}, impl.Attr{Name: "class", Value: "x y"}),
		elementNode("b", 1, 4),
		textNode("one", 1),
		commentNode("", 2),
		doctypeNode("html", 0),
		textNode("two", 1),
		withAttrs(elementNode("i", -1, 9, 8), impl.Attr{Name: "id"}),
		textNode("away", 7),
		elementNode("u", 7),
		commentNode("alone", -1),
	)
}

// wrongTrees are not right, each for a reason of its own.
func wrongTrees() []impl.Tree {
	sample := sampleTree()
	turned := func(at int, turn func(n *impl.Node)) impl.Tree { return with(sample, at, turn) }
	return []impl.Tree{
		{},
		treeOf(elementNode("p", -1)),
		treeOf(impl.Node{Kind: impl.NdPage}),
		treeOf(impl.Node{}),
		treeOf(pageNode(), pageNode()),
		treeOf(pageNode(), elementNode("p", 0)),
		treeOf(pageNode(1), elementNode("p", -1)),
		treeOf(pageNode(1, 1), elementNode("p", 0)),
		treeOf(pageNode(), elementNode("p", 1, 1)),
		treeOf(pageNode(), elementNode("p", 2, 2), elementNode("b", 1, 1)),
		manyNodes(501, belowPage),
		turned(0, func(n *impl.Node) { n.Kind = impl.NdElement; n.Name = "html" }),
		turned(1, func(n *impl.Node) { n.Kids = []int{3, 6, 2, 11} }),
		turned(1, func(n *impl.Node) { n.Kids = []int{3, 6} }),
		turned(2, func(n *impl.Node) { n.Name = "B" }),
		turned(3, func(n *impl.Node) { n.Text = "" }),
		turned(4, func(n *impl.Node) { n.Parent = 1 }),
		turned(7, func(n *impl.Node) { n.Attrs = append(n.Attrs, n.Attrs...) }),
		turned(10, func(n *impl.Node) { n.Kind = 6 }),
		turned(10, func(n *impl.Node) { n.Parent = -2 }),
	}
}

func cloneTree(t impl.Tree) impl.Tree {
	nodes := slices.Clone(t.Nodes)
	for i := range nodes {
		nodes[i].Attrs, nodes[i].Kids = slices.Clone(nodes[i].Attrs), slices.Clone(nodes[i].Kids)
	}
	return impl.Tree{Nodes: nodes}
}

func sameNode(a impl.Node, b impl.Node) bool {
	return a.Kind == b.Kind && a.Name == b.Name && a.Text == b.Text && a.Parent == b.Parent &&
		slices.Equal(a.Attrs, b.Attrs) && slices.Equal(a.Kids, b.Kids)
}

func sameTree(a impl.Tree, b impl.Tree) bool {
	return slices.EqualFunc(a.Nodes, b.Nodes, sameNode)
}

func nodeText(n impl.Node) string {
	return fmt.Sprint("{", n.Kind, " ", short(n.Name), " ", attrsText(n.Attrs), " ", short(n.Text), " ", n.Parent, " ", n.Kids, "}")
}

func treeText(t impl.Tree) string {
	parts := []string{}
	for i, n := range t.Nodes {
		if i == 12 {
			parts = append(parts, ".. "+strconv.Itoa(len(t.Nodes))+" nodes")
			break
		}
		parts = append(parts, nodeText(n))
	}
	return "[" + strings.Join(parts, " ") + "]"
}

// A guardedTree is an argument all of whose lists have spare room behind them, and a copy of all that.
type guardedTree struct {
	arg    impl.Tree
	before impl.Tree
}

func fillerNode() impl.Node {
	return impl.Node{Kind: 77, Name: "filler", Text: "filled", Parent: 77}
}

func guardTree(t impl.Tree) guardedTree {
	nodes := make([]impl.Node, 0, len(t.Nodes)+spareRoom)
	for _, n := range t.Nodes {
		n.Attrs = guard(n.Attrs, fillAttr).arg
		n.Kids = guard(n.Kids, 77).arg
		nodes = append(nodes, n)
	}
	for range spareRoom {
		nodes = append(nodes, fillerNode())
	}
	arg := impl.Tree{Nodes: nodes[:len(t.Nodes)]}
	return guardedTree{arg: arg, before: cloneTree(wholeRoom(arg))}
}

// wholeRoom has what stands in the spare room of each list, too.
func wholeRoom(t impl.Tree) impl.Tree {
	nodes := slices.Clone(t.Nodes[:cap(t.Nodes)])
	for i, n := range nodes {
		nodes[i].Attrs, nodes[i].Kids = n.Attrs[:cap(n.Attrs)], n.Kids[:cap(n.Kids)]
	}
	return impl.Tree{Nodes: nodes}
}

func (g guardedTree) untouched() bool {
	return sameTree(wholeRoom(g.arg), g.before)
}

// fillTree writes other things into each list of an answer, and tells whether two of them share memory.
func fillTree(t impl.Tree) bool {
	for i, n := range t.Nodes {
		overwrite(n.Kids, -1000-i)
		overwrite(n.Attrs, impl.Attr{Name: strconv.Itoa(i)})
	}
	shares := false
	for i, n := range t.Nodes {
		shares = shares || slices.ContainsFunc(n.Kids[:cap(n.Kids)], func(x int) bool { return x != -1000-i })
		shares = shares || slices.ContainsFunc(n.Attrs[:cap(n.Attrs)], func(a impl.Attr) bool { return a.Name != strconv.Itoa(i) })
	}
	overwrite(t.Nodes, fillerNode())
	return shares
}

// checkAnswer asks what a call that makes a tree of a tree answers, and whether its memory is its own.
func checkAnswer(t *testing.T, name string, in impl.Tree, want impl.Tree, call func(impl.Tree) impl.Tree) {
	t.Helper()
	g := guardTree(in)
	got := call(g.arg)
	if !sameTree(got, want) {
		t.Errorf("%s of %s\n got  %s\n want %s", name, treeText(in), treeText(got), treeText(want))
	}
	if treeFits(in) && !impl.TreeOk(got) || !treeFits(in) && len(got.Nodes) != 0 {
		t.Errorf("%s of %s is not right: %s", name, treeText(in), treeText(got))
	}
	second := call(g.arg)
	if fillTree(got) {
		t.Errorf("%s of %s: two lists of the answer share memory", name, treeText(in))
	}
	if !g.untouched() {
		t.Errorf("%s of %s wrote into its argument, or shares memory with it", name, treeText(in))
	}
	fillTree(g.arg)
	if !sameTree(second, want) {
		t.Errorf("%s of %s: a second answer shares memory with the first one or with the argument", name, treeText(in))
	}
}

// nodeFits and treeFits are a slower rule of their own: each sentence of the document by itself.
func nodeFits(n impl.Node) bool {
	bare := n.Name == "" && n.Text == "" && len(n.Attrs) == 0
	switch n.Kind {
	case 1:
		return bare
	case 2:
		return len(n.Name) <= 60 && textFits(n.Name) && n.Text == "" && len(n.Attrs)+len(n.Kids) == 0
	case 3:
		return nameFits(n.Name) && attrsFit(n.Attrs) && n.Text == ""
	case 4, 5:
		return textFits(n.Text) && (n.Kind == 5 || n.Text != "") && n.Name == "" && len(n.Attrs)+len(n.Kids) == 0
	}
	return false
}

func treeFits(t impl.Tree) bool {
	if len(t.Nodes) == 0 || len(t.Nodes) > 500 {
		return false
	}
	counts := map[int]int{}
	for at, n := range t.Nodes {
		if !nodeFits(n) || (at == 0) != (n.Kind == 1) {
			return false
		}
		for _, kid := range n.Kids {
			counts[kid]++
			if kid < 0 || kid >= len(t.Nodes) || t.Nodes[kid].Parent != at || counts[kid] > 1 {
				return false
			}
		}
	}
	for at, n := range t.Nodes {
		if n.Parent < -1 || n.Parent >= len(t.Nodes) {
			return false
		}
		if n.Parent >= 0 && !slices.Contains(t.Nodes[n.Parent].Kids, at) {
			return false
		}
	}
	for at := range t.Nodes {
		if standsBelow(t, at, at) {
			return false
		}
	}
	return true
}

// standsBelow goes over Parents, as many times as there are nodes at most.
func standsBelow(t impl.Tree, at int, above int) bool {
	for range t.Nodes {
		at = t.Nodes[at].Parent
		if at == -1 {
			return false
		}
		if at == above {
			return true
		}
	}
	return false
}

// rebuilt is a tree told by its nodes and by who stands below whom; the Parents follow from that.
func rebuilt(nodes []impl.Node, kids map[int][]int) impl.Tree {
	out := slices.Clone(nodes)
	for at := range out {
		out[at].Kids, out[at].Parent = kids[at], -1
	}
	for at := range out {
		for _, kid := range kids[at] {
			out[kid].Parent = at
		}
	}
	return cloneTree(impl.Tree{Nodes: out})
}

func kidsOf(t impl.Tree) map[int][]int {
	kids := map[int][]int{}
	for at, n := range t.Nodes {
		kids[at] = slices.Clone(n.Kids)
	}
	return kids
}

func thereIs(t impl.Tree, at int) bool {
	return at >= 0 && at < len(t.Nodes)
}

// asRefused is what stands beside what is refused.
func asRefused(t impl.Tree) impl.Tree {
	if !treeFits(t) {
		return impl.Tree{}
	}
	return t
}

func expectedTreeAdd(t impl.Tree, n impl.Node) (impl.Tree, int) {
	n.Parent, n.Kids = -1, nil
	out := impl.Tree{Nodes: slices.Concat(t.Nodes, []impl.Node{n})}
	if !treeFits(t) || !treeFits(out) {
		return asRefused(t), -1
	}
	return out, len(t.Nodes)
}

func expectedTake(t impl.Tree, child int) (impl.Tree, bool) {
	if !treeFits(t) || child == 0 || !thereIs(t, child) {
		return asRefused(t), false
	}
	kids := kidsOf(t)
	for at := range kids {
		if place := slices.Index(kids[at], child); place >= 0 {
			kids[at] = slices.Delete(kids[at], place, place+1)
		}
	}
	return rebuilt(t.Nodes, kids), true
}

func expectedHang(t impl.Tree, child int, parent int) (impl.Tree, bool) {
	taken, ok := expectedTake(t, child)
	if !ok || !thereIs(t, parent) || t.Nodes[parent].Kind != 1 && t.Nodes[parent].Kind != 3 || parent == child || standsBelow(t, parent, child) {
		return asRefused(t), false
	}
	kids := kidsOf(taken)
	kids[parent] = append(kids[parent], child)
	return rebuilt(t.Nodes, kids), true
}

func expectedWrite(t impl.Tree, parent int, s string) (impl.Tree, bool) {
	if !treeFits(t) || !thereIs(t, parent) || t.Nodes[parent].Kind != 1 && t.Nodes[parent].Kind != 3 || s == "" || !textFits(s) {
		return asRefused(t), false
	}
	kids := kidsOf(t)
	nodes := slices.Clone(t.Nodes)
	if n := len(kids[parent]); n > 0 && t.Nodes[kids[parent][n-1]].Kind == 4 {
		nodes[kids[parent][n-1]].Text += s
	} else {
		kids[parent] = append(kids[parent], len(nodes))
		nodes = append(nodes, textNode(s, 0))
	}
	out := rebuilt(nodes, kids)
	if !treeFits(out) {
		return asRefused(t), false
	}
	return out, true
}

// pathOf tells the way from node 0 down, by places among Kids; false where none leads there.
func pathOf(t impl.Tree, at int) ([]int, bool) {
	path := []int{}
	for at != 0 {
		parent := t.Nodes[at].Parent
		if parent == -1 {
			return nil, false
		}
		path = append(path, slices.Index(t.Nodes[parent].Kids, at))
		at = parent
	}
	slices.Reverse(path)
	return path, true
}

// expectedTidy sorts the nodes by their paths: a path stands ahead of all that begin with it.
func expectedTidy(t impl.Tree) impl.Tree {
	if !treeFits(t) {
		return impl.Tree{}
	}
	paths := map[int][]int{}
	for at := range t.Nodes {
		if path, ok := pathOf(t, at); ok {
			paths[at] = path
		}
	}
	order := slices.SortedFunc(maps.Keys(paths), func(a int, b int) int { return slices.Compare(paths[a], paths[b]) })
	nodes, kids := []impl.Node{}, map[int][]int{}
	for place, at := range order {
		nodes = append(nodes, t.Nodes[at])
		for _, kid := range t.Nodes[at].Kids {
			kids[place] = append(kids[place], slices.Index(order, kid))
		}
	}
	return rebuilt(nodes, kids)
}

// printed tells a node and all that stands below it, in order; no number of a node is in it.
func printed(t impl.Tree, at int) string {
	n := t.Nodes[at]
	out := fmt.Sprintf("(%d %q %q %q", n.Kind, n.Name, n.Attrs, n.Text)
	for _, kid := range n.Kids {
		out += printed(t, kid)
	}
	return out + ")"
}

func expectedSame(a impl.Tree, b impl.Tree) bool {
	return treeFits(a) && treeFits(b) && printed(a, 0) == printed(b, 0)
}

func checkTreeOk(t *testing.T, tree impl.Tree, want bool) {
	t.Helper()
	g := guardTree(tree)
	if got := impl.TreeOk(g.arg); got != want {
		t.Errorf("TreeOk(%s) = %v", treeText(tree), got)
	}
	if !g.untouched() {
		t.Errorf("TreeOk(%s) wrote into its argument", treeText(tree))
	}
	if treeFits(tree) != want {
		t.Errorf("the test's own rule answers %v of %s", !want, treeText(tree))
	}
}

func checkTreeAdd(t *testing.T, tree impl.Tree, n impl.Node) (impl.Tree, int) {
	t.Helper()
	want, place := expectedTreeAdd(tree, n)
	g := guardTree(treeOf(n))
	checkAnswer(t, "TreeAdd "+nodeText(n), tree, want, func(in impl.Tree) impl.Tree {
		out, at := impl.TreeAdd(in, g.arg.Nodes[0])
		if at != place {
			t.Errorf("TreeAdd(%s, %s) tells the number %d, want %d", treeText(tree), nodeText(n), at, place)
		}
		return out
	})
	if !g.untouched() {
		t.Errorf("TreeAdd(%s, %s) wrote into the node, or shares memory with it", treeText(tree), nodeText(n))
	}
	return cloneTree(want), place
}

func checkHang(t *testing.T, tree impl.Tree, child int, parent int) (impl.Tree, bool) {
	t.Helper()
	want, ok := expectedHang(tree, child, parent)
	checkAnswer(t, fmt.Sprint("TreeHang ", child, " below ", parent), tree, want, func(in impl.Tree) impl.Tree {
		out, done := impl.TreeHang(in, child, parent)
		if done != ok {
			t.Errorf("TreeHang(%s, %d, %d) tells %v", treeText(tree), child, parent, done)
		}
		return out
	})
	return want, ok
}

func checkTake(t *testing.T, tree impl.Tree, child int) (impl.Tree, bool) {
	t.Helper()
	want, ok := expectedTake(tree, child)
	checkAnswer(t, fmt.Sprint("TreeTake ", child), tree, want, func(in impl.Tree) impl.Tree {
		out, done := impl.TreeTake(in, child)
		if done != ok {
			t.Errorf("TreeTake(%s, %d) tells %v", treeText(tree), child, done)
		}
		return out
	})
	return want, ok
}

func checkWrite(t *testing.T, tree impl.Tree, parent int, s string) (impl.Tree, bool) {
	t.Helper()
	want, ok := expectedWrite(tree, parent, s)
	checkAnswer(t, fmt.Sprint("TreeWrite below ", parent, " ", short(s)), tree, want, func(in impl.Tree) impl.Tree {
		out, done := impl.TreeWrite(in, parent, s)
		if done != ok {
			t.Errorf("TreeWrite(%s, %d, %s) tells %v", treeText(tree), parent, short(s), done)
		}
		return out
	})
	return want, ok
}

// checkTidy asks for the promise as well: what is tidied prints as it did, and stays as it is.
func checkTidy(t *testing.T, tree impl.Tree) impl.Tree {
	t.Helper()
	want := expectedTidy(tree)
	checkAnswer(t, "TreeTidy", tree, want, impl.TreeTidy)
	if !treeFits(tree) {
		return want
	}
	checkAnswer(t, "TreeTidy", want, want, impl.TreeTidy)
	checkTreeSame(t, tree, want, true)
	if printed(impl.TreeTidy(tree), 0) != printed(tree, 0) {
		t.Errorf("TreeTidy(%s) prints otherwise", treeText(tree))
	}
	return want
}

func checkTreeSame(t *testing.T, a impl.Tree, b impl.Tree, want bool) {
	t.Helper()
	first, second := guardTree(a), guardTree(b)
	if impl.TreeSame(first.arg, second.arg) != want || impl.TreeSame(second.arg, first.arg) != want {
		t.Errorf("TreeSame is not %v both ways round of\n %s\n %s", want, treeText(a), treeText(b))
	}
	if !first.untouched() || !second.untouched() {
		t.Errorf("TreeSame(%s, %s) wrote into its argument", treeText(a), treeText(b))
	}
	if expectedSame(a, b) != want {
		t.Errorf("the test's own rule answers %v of %s and %s", !want, treeText(a), treeText(b))
	}
}

func TestTreeNumbers(t *testing.T) {
	got := []int{impl.NdPage, impl.NdDoctype, impl.NdElement, impl.NdText, impl.NdComment, impl.MaxNodes}
	if want := []int{1, 2, 3, 4, 5, 500}; !slices.Equal(got, want) {
		t.Errorf("the kinds and MaxNodes are %v, want %v", got, want)
	}
}

func TestTreeNew(t *testing.T) {
	want := treeOf(pageNode())
	first, second := impl.TreeNew(), impl.TreeNew()
	if !sameTree(first, want) || !impl.TreeOk(first) {
		t.Errorf("TreeNew() = %s", treeText(first))
	}
	fillTree(first)
	if !sameTree(second, want) || !sameTree(impl.TreeNew(), want) {
		t.Error("two answers of TreeNew share memory")
	}
}

func TestTreeOkOrdinary(t *testing.T) {
	checkTreeOk(t, treeOf(pageNode()), true)
	checkTreeOk(t, sampleTree(), true)
	checkTreeOk(t, treeOf(pageNode(2, 1), elementNode("p", 0), doctypeNode("html", 0)), true)
	checkTreeOk(t, treeOf(pageNode(), elementNode("p", -1, 2), elementNode("b", 1, 3), textNode("x", 2)), true)
	for _, tree := range wrongTrees() {
		checkTreeOk(t, tree, false)
	}
	empty := []impl.Attr{}
	checkTreeOk(t, treeOf(pageNode(1), impl.Node{Kind: impl.NdText, Text: "x", Attrs: empty, Kids: []int{}}), true)
}

func TestTreeOkCounts(t *testing.T) {
	checkTreeOk(t, impl.Tree{}, false)
	checkTreeOk(t, impl.Tree{Nodes: []impl.Node{}}, false)
	for _, n := range []int{1, 2, 3, 255, 256, 499, 500, 501, 502, 512, 756, 1000, 1001} {
		for _, parentOf := range []func(int) int{belowPage, belowNone, belowTheLast} {
			checkTreeOk(t, manyNodes(n, parentOf), n <= 500)
		}
	}
}

func TestTreeOkPages(t *testing.T) {
	for _, kind := range []int{impl.NdDoctype, impl.NdElement, impl.NdText, impl.NdComment} {
		name, text := "", ""
		if kind == impl.NdElement {
			name = "p"
		}
		if kind == impl.NdText {
			text = "x"
		}
		other := impl.Node{Kind: kind, Name: name, Text: text, Parent: -1}
		checkTreeOk(t, treeOf(other), false)
		checkTreeOk(t, treeOf(other, pageNode()), false)
		checkTreeOk(t, treeOf(pageNode(), other), true)
		checkTreeOk(t, treeOf(pageNode(), other, pageNode()), false)
	}
	checkTreeOk(t, treeOf(pageNode(), pageNode()), false)
	checkTreeOk(t, treeOf(pageNode(1), impl.Node{Kind: impl.NdPage, Parent: 0}), false)
	checkTreeOk(t, treeOf(pageNode(), elementNode("p", -1, 2), impl.Node{Kind: impl.NdPage, Parent: 1}), false)
	for _, kind := range []int{-1, 0, 6, 7, 257, 258, 259, 260, 261, math.MaxInt, math.MinInt} {
		checkTreeOk(t, treeOf(impl.Node{Kind: kind, Parent: -1}), false)
		checkTreeOk(t, treeOf(pageNode(), impl.Node{Kind: kind, Parent: -1}), false)
		checkTreeOk(t, treeOf(pageNode(), impl.Node{Kind: kind, Name: "p", Parent: -1}), false)
		checkTreeOk(t, treeOf(pageNode(), impl.Node{Kind: kind, Text: "x", Parent: -1}), false)
	}
}

func TestTreeOkTheRestIsZero(t *testing.T) {
	plain := []impl.Node{
		{Kind: impl.NdPage, Parent: -1},
		{Kind: impl.NdDoctype, Name: "html", Parent: -1},
		{Kind: impl.NdElement, Name: "p", Attrs: named("a", "b"), Parent: -1},
		{Kind: impl.NdText, Text: "x", Parent: -1},
		{Kind: impl.NdComment, Text: "x", Parent: -1},
	}
	hasName := []int{impl.NdDoctype, impl.NdElement}
	hasText := []int{impl.NdText, impl.NdComment}
	hasKids := []int{impl.NdPage, impl.NdElement}
	for _, n := range plain {
		base := treeOf(pageNode(), n, elementNode("k", -1))
		at := 1
		if n.Kind == impl.NdPage {
			base, at = treeOf(n, elementNode("o", -1), elementNode("k", -1)), 0
		}
		checkTreeOk(t, base, true)
		turned := func(turn func(n *impl.Node)) impl.Tree { return with(base, at, turn) }
		checkTreeOk(t, turned(func(n *impl.Node) { n.Name = "p" }), slices.Contains(hasName, n.Kind))
		checkTreeOk(t, turned(func(n *impl.Node) { n.Name = "" }), n.Kind != impl.NdElement)
		checkTreeOk(t, turned(func(n *impl.Node) { n.Attrs = named("x") }), n.Kind == impl.NdElement)
		checkTreeOk(t, turned(func(n *impl.Node) { n.Attrs = nil }), true)
		checkTreeOk(t, turned(func(n *impl.Node) { n.Attrs = []impl.Attr{{}} }), false)
		checkTreeOk(t, turned(func(n *impl.Node) { n.Text = "t" }), slices.Contains(hasText, n.Kind))
		checkTreeOk(t, turned(func(n *impl.Node) { n.Text = "" }), n.Kind != impl.NdText)
		hung := turned(func(n *impl.Node) { n.Kids = []int{2} })
		hung.Nodes[2].Parent = at
		checkTreeOk(t, hung, slices.Contains(hasKids, n.Kind))
	}
}

func TestTreeOkNames(t *testing.T) {
	below := func(kind int, name string) impl.Tree {
		return treeOf(pageNode(1), impl.Node{Kind: kind, Name: name, Parent: 0})
	}
	for _, size := range []int{1, 2, 59, 60, 61, 62, 120, 316, 3000, 3001} {
		checkTreeOk(t, below(impl.NdDoctype, strings.Repeat("x", size)), size <= 60)
		checkTreeOk(t, below(impl.NdElement, strings.Repeat("x", size)), size <= 60)
	}
	two := strings.Repeat("\u00e9", 30)
	checkTreeOk(t, below(impl.NdDoctype, two), true)
	checkTreeOk(t, below(impl.NdDoctype, two+"x"), false)
	checkTreeOk(t, below(impl.NdElement, "xx"+two[2:]), true)
	checkTreeOk(t, below(impl.NdElement, "x"+two), false)
	checkTreeOk(t, below(impl.NdDoctype, ""), true)
	checkTreeOk(t, below(impl.NdElement, ""), false)
	for _, bad := range badTexts {
		checkTreeOk(t, below(impl.NdDoctype, bad), false)
		checkTreeOk(t, below(impl.NdElement, bad), false)
		checkTreeOk(t, below(impl.NdElement, "x"+bad), textFits("x"+bad))
		checkTreeOk(t, below(impl.NdDoctype, "x"+bad), textFits("x"+bad))
	}
	for _, s := range []string{"P", "1", "a b", "a/", "a>", "a\x00", "aB", " a", "a\n", "\u00e9"} {
		checkTreeOk(t, below(impl.NdElement, s), false)
		checkTreeOk(t, below(impl.NdDoctype, s), true)
	}
}

func TestTreeOkTexts(t *testing.T) {
	below := func(kind int, text string) impl.Tree {
		return treeOf(pageNode(1), impl.Node{Kind: kind, Text: text, Parent: 0})
	}
	for _, kind := range []int{impl.NdText, impl.NdComment} {
		for _, size := range []int{0, 1, 60, 61, 2999, 3000, 3001, 3002, 6000} {
			checkTreeOk(t, below(kind, strings.Repeat("x", size)), size <= 3000 && (size > 0 || kind == impl.NdComment))
		}
		checkTreeOk(t, below(kind, strings.Repeat("\u20ac", 1000)), true)
		checkTreeOk(t, below(kind, strings.Repeat("\u20ac", 1000)+"x"), false)
		for _, bad := range badTexts {
			checkTreeOk(t, below(kind, bad), false)
			checkTreeOk(t, below(kind, "x"+bad), textFits("x"+bad))
		}
		for _, s := range []string{"\x00", " ", "\n", "-->", "<p>", "&amp;", "A", "x\ufeff", "\U0010ffff"} {
			checkTreeOk(t, below(kind, s), true)
		}
	}
}

func TestTreeOkAttrs(t *testing.T) {
	below := func(attrs ...impl.Attr) impl.Tree {
		return treeOf(pageNode(1), withAttrs(elementNode("p", 0), attrs...))
	}
	for n := range 25 {
		checkTreeOk(t, below(manyAttrs(n)...), n <= 20)
	}
	checkTreeOk(t, below(named("a", "b", "a")...), false)
	checkTreeOk(t, below(named("a", "A", " ", "=", "\u00e9")...), true)
	checkTreeOk(t, below(named("a", "")...), false)
	checkTreeOk(t, below(named(strings.Repeat("n", 60))...), true)
	checkTreeOk(t, below(named(strings.Repeat("n", 61))...), false)
	checkTreeOk(t, below(impl.Attr{Name: "a", Value: strings.Repeat("v", 3000)}), true)
	checkTreeOk(t, below(impl.Attr{Name: "a", Value: strings.Repeat("v", 3001)}), false)
	for _, bad := range badTexts {
		checkTreeOk(t, below(impl.Attr{Name: bad}), false)
		checkTreeOk(t, below(impl.Attr{Name: "a", Value: bad}), false)
	}
}

func TestTreeOkNumbersThatAreNoNodes(t *testing.T) {
	for _, x := range []int{-1, -2, -3, 3, 4, 5, 500, 501, 1 << 32, 1<<32 + 1, math.MaxInt, math.MinInt} {
		base := treeOf(pageNode(1), elementNode("p", 0), elementNode("b", -1))
		checkTreeOk(t, with(base, 2, func(n *impl.Node) { n.Parent = x }), x == -1)
		checkTreeOk(t, with(base, 1, func(n *impl.Node) { n.Parent = x }), false)
		checkTreeOk(t, with(base, 0, func(n *impl.Node) { n.Parent = x }), x == -1)
		for at := range 3 {
			checkTreeOk(t, with(base, at, func(n *impl.Node) { n.Kids = append(n.Kids, x) }), false)
			checkTreeOk(t, with(base, at, func(n *impl.Node) { n.Kids = append([]int{x}, n.Kids...) }), false)
			checkTreeOk(t, with(base, at, func(n *impl.Node) { n.Kids = []int{x} }), false)
		}
	}
}

func TestTreeOkKidsTwice(t *testing.T) {
	checkTreeOk(t, treeOf(pageNode(1, 1), elementNode("p", 0)), false)
	checkTreeOk(t, treeOf(pageNode(1, 2, 1), elementNode("p", 0), elementNode("b", 0)), false)
	checkTreeOk(t, treeOf(pageNode(1, 2, 2), elementNode("p", 0), elementNode("b", 0)), false)
	checkTreeOk(t, treeOf(pageNode(1, 2), elementNode("p", 0, 2), elementNode("b", 0)), false)
	checkTreeOk(t, treeOf(pageNode(1, 2), elementNode("p", 0, 2), elementNode("b", 1)), false)
	checkTreeOk(t, treeOf(pageNode(1, 2), elementNode("p", 0, 3), elementNode("b", 0, 3), textNode("x", 1)), false)
	checkTreeOk(t, treeOf(pageNode(1, 2), elementNode("p", 0, 3), elementNode("b", 0, 3), textNode("x", 2)), false)
	long := manyNodes(500, belowPage)
	checkTreeOk(t, with(long, 0, func(n *impl.Node) { n.Kids = append(n.Kids, 499) }), false)
	checkTreeOk(t, with(long, 0, func(n *impl.Node) { n.Kids = append(n.Kids, n.Kids...) }), false)
	checkTreeOk(t, with(long, 0, func(n *impl.Node) { n.Kids = repeated(1, 2000) }), false)
	checkTreeOk(t, with(long, 0, func(n *impl.Node) { n.Kids[498] = 1 }), false)
	checkTreeOk(t, with(long, 0, func(n *impl.Node) { slices.Reverse(n.Kids) }), true)
}

func TestTreeOkParentsAndKidsThatDiffer(t *testing.T) {
	checkTreeOk(t, treeOf(pageNode(), elementNode("p", 0)), false)
	checkTreeOk(t, treeOf(pageNode(1), elementNode("p", -1)), false)
	checkTreeOk(t, treeOf(pageNode(1), elementNode("p", 2), elementNode("b", -1)), false)
	checkTreeOk(t, treeOf(pageNode(2), elementNode("p", 0), elementNode("b", 0)), false)
	checkTreeOk(t, treeOf(pageNode(2), elementNode("p", 0), elementNode("b", -1)), false)
	checkTreeOk(t, treeOf(pageNode(1), elementNode("p", 0), textNode("x", 1)), false)
	checkTreeOk(t, treeOf(pageNode(1), elementNode("p", 0, 2), textNode("x", -1)), false)
	checkTreeOk(t, treeOf(pageNode(1), elementNode("p", 0, 2), textNode("x", 0)), false)
}

func TestTreeOkRings(t *testing.T) {
	checkTreeOk(t, treeOf(pageNode(), elementNode("p", 1, 1)), false)
	checkTreeOk(t, treeOf(pageNode(), elementNode("p", 2, 2), elementNode("b", 1, 1)), false)
	checkTreeOk(t, treeOf(pageNode(), elementNode("p", 3, 2), elementNode("b", 1, 3), elementNode("i", 2, 1)), false)
	checkTreeOk(t, treeOf(pageNode(), elementNode("p", 2, 2, 3), elementNode("b", 1, 1), textNode("x", 1)), false)
	checkTreeOk(t, treeOf(impl.Node{Kind: impl.NdPage, Parent: 0, Kids: []int{0}}), false)
	checkTreeOk(t, treeOf(impl.Node{Kind: impl.NdPage, Parent: 1, Kids: []int{1}}, elementNode("p", 0, 0)), false)
	checkTreeOk(t, treeOf(impl.Node{Kind: impl.NdPage}), false)
	ring := manyNodes(500, belowTheLast)
	ring.Nodes[0].Kids, ring.Nodes[1].Parent = nil, 499
	ring.Nodes[499].Kids = []int{1}
	checkTreeOk(t, ring, false)
}

// The document bars no page that stands below an element: what stands below none may stand above it.
func TestTreesWhosePageHasAParent(t *testing.T) {
	tree := treeOf(impl.Node{Kind: impl.NdPage, Parent: 1, Kids: []int{2}}, elementNode("p", -1, 3, 0), textNode("x", 0), textNode("y", 1))
	checkTreeOk(t, tree, true)
	checkTreeOk(t, with(tree, 1, func(n *impl.Node) { n.Kids = []int{3} }), false)
	checkTreeOk(t, with(tree, 0, func(n *impl.Node) { n.Parent = -1 }), false)
	for at := -2; at < 6; at++ {
		checkTake(t, tree, at)
		checkWrite(t, tree, at, "z")
		for parent := -2; parent < 6; parent++ {
			checkHang(t, tree, at, parent)
		}
	}
	if got := checkTidy(t, tree); len(got.Nodes) != 2 || got.Nodes[0].Parent != -1 {
		t.Errorf("tidied: %s", treeText(got))
	}
	checkTreeSame(t, tree, treeOf(pageNode(1), textNode("x", 0)), true)
}

func eachNumbers(n int, low int, high int, use func([]int)) {
	var fill func(list []int)
	fill = func(list []int) {
		if len(list) == n {
			use(list)
			return
		}
		for x := low; x <= high; x++ {
			fill(append(slices.Clone(list), x))
		}
	}
	fill(nil)
}

// kidLists are all lists of at most two numbers.
func kidLists(low int, high int) [][]int {
	lists := [][]int{}
	for n := range 3 {
		eachNumbers(n, low, high, func(list []int) { lists = append(lists, list) })
	}
	return lists
}

func TestTreeOkOfAnyLinks(t *testing.T) {
	for n, bounds := range [][]int{1: {-2, 2}, 2: {-2, 2}, 3: {-1, 2}} {
		if n == 0 {
			continue
		}
		lists := kidLists(bounds[0], bounds[1])
		if n == 3 {
			lists = kidLists(0, 2)
		}
		eachNumbers(n, bounds[0], bounds[1], func(parents []int) {
			eachNumbers(n, 0, len(lists)-1, func(picks []int) {
				nodes := []impl.Node{}
				for i := range n {
					nodes = append(nodes, impl.Node{Kind: impl.NdElement, Name: "p", Parent: parents[i], Kids: lists[picks[i]]})
				}
				nodes[0].Kind, nodes[0].Name = impl.NdPage, ""
				tree := impl.Tree{Nodes: nodes}
				if got, want := impl.TreeOk(tree), treeFits(tree); got != want {
					t.Errorf("TreeOk(%s) = %v", treeText(tree), got)
				}
			})
		})
	}
}

// Kids that fit the Parents leave rings as the one thing that may be wrong.
func TestTreeOkOfAnyParents(t *testing.T) {
	right := 0
	for n := 1; n <= 6; n++ {
		eachNumbers(n, -1, n-1, func(parents []int) {
			nodes := []impl.Node{}
			for _, parent := range parents {
				nodes = append(nodes, elementNode("p", parent))
			}
			nodes[0].Kind, nodes[0].Name = impl.NdPage, ""
			tree := linked(nodes)
			want := treeFits(tree)
			if got := impl.TreeOk(tree); got != want {
				t.Errorf("TreeOk(%s) = %v", treeText(tree), got)
			}
			if want {
				right++
			}
		})
	}
	// So many forests there are: of n nodes n+1 to the power of n-1.
	if want := 1 + 3 + 16 + 125 + 1296 + 16807; right != want {
		t.Errorf("%d are right, want %d", right, want)
	}
}

func TestTreeAdd(t *testing.T) {
	tree := impl.TreeNew()
	for i, n := range sampleTree().Nodes[1:] {
		out, at := checkTreeAdd(t, tree, n)
		if at != i+1 {
			t.Errorf("TreeAdd tells %d, want %d", at, i+1)
		}
		last := out.Nodes[len(out.Nodes)-1]
		if last.Parent != -1 || len(last.Kids) != 0 {
			t.Errorf("what was added hangs together: %s", nodeText(last))
		}
		tree = out
		checkTreeAdd(t, sampleTree(), n)
	}
}

func TestTreeAddNodesWithLinksOfTheirOwn(t *testing.T) {
	for _, parent := range []int{-2, -1, 0, 1, 2, 3, 10, 11, 500, math.MaxInt, math.MinInt} {
		for _, kids := range [][]int{nil, {0}, {1}, {3}, {11}, {-1}, {1, 1}, {math.MaxInt}, repeated(3, 1000)} {
			for _, n := range []impl.Node{elementNode("p", parent, kids...), {Kind: impl.NdText, Text: "x", Parent: parent, Kids: kids}} {
				if _, at := checkTreeAdd(t, sampleTree(), n); at != 11 {
					t.Errorf("TreeAdd of %s tells %d", nodeText(n), at)
				}
			}
		}
	}
}

func TestTreeAddNodesThatAreWrong(t *testing.T) {
	wrong := []impl.Node{
		{}, pageNode(), {Kind: impl.NdText}, {Kind: impl.NdElement}, elementNode("P", -1), {Kind: 6, Name: "p"}, {Kind: -1},
		{Kind: impl.NdText, Text: "x", Name: "p"}, {Kind: impl.NdElement, Name: "p", Text: "x"}, {Kind: impl.NdDoctype, Text: "x"},
		{Kind: impl.NdComment, Attrs: named("a")}, withAttrs(elementNode("p", -1), manyAttrs(21)...), withAttrs(elementNode("p", -1), manyAttrs(3000)...),
		withAttrs(elementNode("p", -1), named("a", "a")...), elementNode(strings.Repeat("x", 61), -1), doctypeNode(strings.Repeat("x", 61), -1),
		textNode(strings.Repeat("x", 3001), -1), textNode("\xff", -1), commentNode("\ufeff", -1), doctypeNode("\xc3", -1),
	}
	for _, n := range wrong {
		for _, tree := range []impl.Tree{impl.TreeNew(), sampleTree()} {
			if _, at := checkTreeAdd(t, tree, n); at != -1 {
				t.Errorf("TreeAdd of %s tells %d", nodeText(n), at)
			}
		}
	}
}

func TestTreeAddBehindMaxNodes(t *testing.T) {
	for n := 498; n <= 502; n++ {
		_, at := checkTreeAdd(t, manyNodes(n, belowPage), textNode("x", -1))
		if want := map[bool]int{true: n, false: -1}[n < 500]; at != want {
			t.Errorf("TreeAdd to %d nodes tells %d", n, at)
		}
	}
}

func TestTreeAddToWrongTrees(t *testing.T) {
	for _, tree := range wrongTrees() {
		for _, n := range []impl.Node{pageNode(), elementNode("p", -1), textNode("x", 0), {}} {
			if _, at := checkTreeAdd(t, tree, n); at != -1 {
				t.Errorf("TreeAdd(%s, %s) tells %d", treeText(tree), nodeText(n), at)
			}
		}
	}
}

// noNodes are numbers of no node of a tree with n of them.
func noNodes(n int) []int {
	return []int{-1, -2, n, n + 1, n + 256, 1 << 32, math.MaxInt, math.MinInt}
}

func checkHangs(t *testing.T, tree impl.Tree, child int, parent int, want bool) impl.Tree {
	t.Helper()
	out, ok := checkHang(t, tree, child, parent)
	if ok != want {
		t.Errorf("the test's own rule hangs %d below %d of %s: %v", child, parent, treeText(tree), ok)
	}
	return out
}

func TestTreeHangRefuses(t *testing.T) {
	tree := sampleTree()
	for _, x := range noNodes(11) {
		checkHangs(t, tree, x, 0, false)
		checkHangs(t, tree, x, x, false)
		checkHangs(t, tree, 3, x, false)
		checkHangs(t, tree, 10, x, false)
	}
	for parent := range tree.Nodes {
		checkHangs(t, tree, 0, parent, false)
	}
	for _, parent := range []int{3, 4, 5, 6, 8, 10} {
		checkHangs(t, tree, 9, parent, false)
		checkHangs(t, tree, 2, parent, false)
	}
	for child := range tree.Nodes {
		checkHangs(t, tree, child, child, false)
	}
	checkHangs(t, tree, 1, 2, false)
	checkHangs(t, tree, 7, 9, false)
}

func TestTreeHangBelowItself(t *testing.T) {
	deep := manyNodes(12, belowTheLast)
	for child := 1; child < 12; child++ {
		for parent := range 12 {
			checkHangs(t, deep, child, parent, parent < child)
		}
	}
	deepest := manyNodes(500, belowTheLast)
	checkHangs(t, deepest, 1, 499, false)
	checkHangs(t, deepest, 499, 1, true)
	checkHangs(t, deepest, 498, 499, false)
}

func TestTreeHang(t *testing.T) {
	tree := sampleTree()
	for child := range tree.Nodes {
		for _, parent := range []int{0, 1, 2, 7, 9} {
			checkHang(t, tree, child, parent)
		}
	}
	there := checkHangs(t, tree, 2, 1, true)
	if !sameTree(there, tree) {
		t.Errorf("the last one that is hung there again is not the last one: %s", treeText(there))
	}
	first := checkHangs(t, tree, 3, 1, true)
	if !slices.Equal(first.Nodes[1].Kids, []int{6, 2, 3}) {
		t.Errorf("the first one that is hung there again is not the last one: %s", treeText(first))
	}
	middle := checkHangs(t, tree, 6, 1, true)
	if !slices.Equal(middle.Nodes[1].Kids, []int{3, 2, 6}) {
		t.Errorf("the one between that is hung there again is not the last one: %s", treeText(middle))
	}
	back := checkHangs(t, tree, 7, 2, true)
	if !slices.Equal(back.Nodes[2].Kids, []int{4, 7}) || !slices.Equal(back.Nodes[7].Kids, []int{9, 8}) || back.Nodes[7].Parent != 2 {
		t.Errorf("what stood below none: %s", treeText(back))
	}
	away := checkHangs(t, tree, 1, 9, true)
	if !slices.Equal(away.Nodes[0].Kids, []int{5}) || !slices.Equal(away.Nodes[9].Kids, []int{1}) {
		t.Errorf("what hangs below what stands below none: %s", treeText(away))
	}
	full := manyNodes(500, belowPage)
	checkHangs(t, full, 499, 1, true)
	checkHangs(t, full, 1, 499, true)
	checkHangs(t, full, 1, 0, true)
}

func TestTreeTake(t *testing.T) {
	tree := sampleTree()
	for child := range tree.Nodes {
		out, ok := checkTake(t, tree, child)
		if ok != (child != 0) {
			t.Errorf("TreeTake %d tells %v", child, ok)
		}
		again, ok2 := checkTake(t, out, child)
		if ok2 != ok || !sameTree(again, out) {
			t.Errorf("TreeTake %d twice: %s", child, treeText(again))
		}
	}
	for _, x := range noNodes(11) {
		if _, ok := checkTake(t, tree, x); ok {
			t.Errorf("TreeTake %d tells true", x)
		}
	}
	with1, _ := checkTake(t, tree, 1)
	if !slices.Equal(with1.Nodes[0].Kids, []int{5}) || !slices.Equal(with1.Nodes[1].Kids, []int{3, 6, 2}) || with1.Nodes[1].Parent != -1 {
		t.Errorf("what stands below it does not go with it: %s", treeText(with1))
	}
	for _, at := range []int{1, 250, 499} {
		checkTake(t, manyNodes(500, belowPage), at)
		checkTake(t, manyNodes(500, belowTheLast), at)
	}
}

func checkWrites(t *testing.T, tree impl.Tree, parent int, s string, want bool) impl.Tree {
	t.Helper()
	out, ok := checkWrite(t, tree, parent, s)
	if ok != want {
		t.Errorf("the test's own rule writes %s below %d of %s: %v", short(s), parent, treeText(tree), ok)
	}
	return out
}

func TestTreeWrite(t *testing.T) {
	tree := sampleTree()
	for parent := range tree.Nodes {
		mayHaveKids := slices.Contains([]int{0, 1, 2, 7, 9}, parent)
		checkWrites(t, tree, parent, "x", mayHaveKids)
		checkWrites(t, tree, parent, "", false)
		for _, bad := range badTexts {
			checkWrites(t, tree, parent, bad, false)
		}
	}
	for _, x := range noNodes(11) {
		checkWrites(t, tree, x, "x", false)
	}
	if out := checkWrites(t, tree, 7, "!", true); len(out.Nodes) != 11 || out.Nodes[8].Text != "away!" {
		t.Errorf("behind an NdText: %s", treeText(out))
	}
	if out := checkWrites(t, tree, 1, "!", true); len(out.Nodes) != 12 || !slices.Equal(out.Nodes[1].Kids, []int{3, 6, 2, 11}) {
		t.Errorf("behind an element: %s", treeText(out))
	}
	if out := checkWrites(t, tree, 2, "!", true); len(out.Nodes) != 12 || !slices.Equal(out.Nodes[2].Kids, []int{4, 11}) {
		t.Errorf("behind a comment: %s", treeText(out))
	}
	if out := checkWrites(t, tree, 9, "!", true); len(out.Nodes) != 12 || out.Nodes[11].Parent != 9 || !slices.Equal(out.Nodes[9].Kids, []int{11}) {
		t.Errorf("behind nothing: %s", treeText(out))
	}
	moved, _ := checkHang(t, tree, 3, 2)
	if out := checkWrites(t, moved, 2, "!", true); out.Nodes[3].Text != "one!" {
		t.Errorf("behind a text that was hung there: %s", treeText(out))
	}
	away, _ := checkTake(t, moved, 3)
	if out := checkWrites(t, away, 2, "!", true); out.Nodes[3].Text != "one" || len(out.Nodes) != 12 {
		t.Errorf("behind a text that was taken from there: %s", treeText(out))
	}
}

func TestTreeWriteTextsThatGrow(t *testing.T) {
	tree := impl.TreeNew()
	for i := range 1000 {
		next, ok := impl.TreeWrite(tree, 0, "abc")
		if !ok || len(next.Nodes) != 2 || next.Nodes[1].Text != strings.Repeat("abc", i+1) {
			t.Fatalf("TreeWrite %d times: %v, %s", i+1, ok, treeText(next))
		}
		tree = next
	}
	checkWrites(t, tree, 0, "x", false)
	checkWrites(t, tree, 0, strings.Repeat("x", 3000), false)
	for _, size := range []int{2997, 2998, 2999, 3000} {
		near := treeOf(pageNode(1), textNode(strings.Repeat("x", size), 0))
		for _, s := range []string{"y", "yz", "\u00e9", "\u20ac", "\U0001f600"} {
			out := checkWrites(t, near, 0, s, size+len(s) <= 3000)
			if want := near.Nodes[1].Text + s; size+len(s) <= 3000 && out.Nodes[1].Text != want {
				t.Errorf("TreeWrite %q behind %d bytes: %s", s, size, treeText(out))
			}
		}
	}
	checkWrites(t, impl.TreeNew(), 0, strings.Repeat("x", 3000), true)
	checkWrites(t, impl.TreeNew(), 0, strings.Repeat("x", 3001), false)
	long := treeOf(pageNode(1), commentNode(strings.Repeat("x", 3000), 0))
	checkWrites(t, long, 0, strings.Repeat("x", 3000), true)
}

// A text that would be right only behind what stands there is refused all the same.
func TestTreeWriteTextsThatAreRightOnlyBehindOthers(t *testing.T) {
	tree := treeOf(pageNode(1), textNode("x", 0))
	checkWrites(t, tree, 0, "\ufeff", false)
	checkWrites(t, tree, 0, "y\ufeff", true)
	checkWrites(t, tree, 0, "\xa9", false)
}

func TestTreeWriteAtMaxNodes(t *testing.T) {
	for n := 498; n <= 501; n++ {
		tree := manyNodes(n, belowPage)
		checkWrites(t, tree, 0, "x", n < 500)
		checkWrites(t, tree, 1, "x", n < 500)
		last := n - 1
		tree.Nodes[last].Kind, tree.Nodes[last].Name, tree.Nodes[last].Text = impl.NdText, "", "t"
		checkWrites(t, tree, 0, "x", n <= 500)
		checkWrites(t, tree, 1, "x", n < 500)
	}
	loose := manyNodes(500, belowNone)
	checkWrites(t, loose, 0, "x", false)
	checkWrites(t, loose, 499, "x", false)
}

func TestWrongTreesAreToldEmpty(t *testing.T) {
	for _, tree := range wrongTrees() {
		for child := -2; child < 5; child++ {
			if out, ok := checkTake(t, tree, child); ok || len(out.Nodes) != 0 {
				t.Errorf("TreeTake %d of %s is done", child, treeText(tree))
			}
			checkWrites(t, tree, child, "x", false)
			checkWrites(t, tree, child, "", false)
			for parent := -2; parent < 5; parent++ {
				checkHangs(t, tree, child, parent, false)
			}
		}
		checkTidy(t, tree)
		checkTreeSame(t, tree, tree, false)
		checkTreeSame(t, tree, impl.TreeNew(), false)
		checkTreeSame(t, tree, sampleTree(), false)
		checkTreeSame(t, tree, impl.Tree{}, false)
	}
}

func TestTreeTidy(t *testing.T) {
	want := treeOf(
		pageNode(1, 2),
		doctypeNode("html", 0),
		withAttrs(elementNode("p", 0, 3, 4, 5), impl.Attr{Name: "id", Value: "1"}, impl.Attr{Name: "class", Value: "x y"}),
		textNode("one", 2),
		textNode("two", 2),
		elementNode("b", 2, 6),
		commentNode("", 5),
	)
	if got := checkTidy(t, sampleTree()); !sameTree(got, want) {
		t.Errorf("the test's own rule tidies to %s", treeText(got))
	}
	order := treeOf(pageNode(2, 1), elementNode("c", 0, 4, 3), elementNode("a", 0, 5), elementNode("e", 1), elementNode("d", 1), elementNode("b", 2))
	if got := checkTidy(t, order); printed(got, 0) != printed(order, 0) || got.Nodes[2].Name != "b" || got.Nodes[3].Name != "c" || got.Nodes[5].Name != "e" {
		t.Errorf("each stands ahead of those below it, and these ahead of the next one: %s", treeText(got))
	}
	checkTidy(t, impl.TreeNew())
	for _, parentOf := range []func(int) int{belowPage, belowNone, belowTheLast, func(i int) int { return i / 3 }} {
		checkTidy(t, manyNodes(300, parentOf))
	}
	for _, n := range []int{499, 500, 501} {
		checkAnswer(t, "TreeTidy", manyNodes(n, belowNone), expectedTidy(manyNodes(n, belowNone)), impl.TreeTidy)
		checkAnswer(t, "TreeTidy", manyNodes(n, belowTheLast), asRefused(manyNodes(n, belowTheLast)), impl.TreeTidy)
	}
}

func TestTreeSame(t *testing.T) {
	tree := sampleTree()
	checkTreeSame(t, tree, tree, true)
	checkTreeSame(t, tree, impl.TreeTidy(tree), true)
	checkTreeSame(t, tree, impl.TreeNew(), false)
	checkTreeSame(t, impl.TreeNew(), impl.TreeNew(), true)
	checkTreeSame(t, impl.TreeNew(), manyNodes(500, belowNone), true)
	for _, at := range []int{7, 8, 9, 10} {
		gone, _ := checkTake(t, tree, at)
		checkTreeSame(t, tree, gone, true)
	}
	for _, at := range []int{1, 2, 3, 4, 5, 6} {
		gone, _ := checkTake(t, tree, at)
		checkTreeSame(t, tree, gone, false)
		last, _ := checkHang(t, tree, at, 0)
		checkTreeSame(t, tree, last, at == 1)
	}
	turns := []func(n *impl.Node){
		func(n *impl.Node) { slices.Reverse(n.Attrs) },
		func(n *impl.Node) { n.Attrs = n.Attrs[:1] },
		func(n *impl.Node) { n.Attrs = nil },
		func(n *impl.Node) { n.Attrs[0].Value = "2" },
		func(n *impl.Node) { n.Attrs[1].Name = "Class" },
		func(n *impl.Node) { n.Name = "q" },
		func(n *impl.Node) { slices.Reverse(n.Kids) },
	}
	for _, turn := range turns {
		checkTreeSame(t, tree, with(tree, 1, turn), false)
	}
	checkTreeSame(t, tree, with(tree, 3, func(n *impl.Node) { n.Text = "One" }), false)
	checkTreeSame(t, tree, with(tree, 3, func(n *impl.Node) { n.Kind = impl.NdComment }), false)
	checkTreeSame(t, tree, with(tree, 4, func(n *impl.Node) { n.Kind, n.Name = impl.NdDoctype, "" }), false)
	checkTreeSame(t, tree, with(tree, 8, func(n *impl.Node) { n.Text = "gone" }), true)
	empty := treeOf(pageNode(1), impl.Node{Kind: impl.NdElement, Name: "p", Attrs: []impl.Attr{}, Kids: []int{}})
	checkTreeSame(t, empty, treeOf(pageNode(1), elementNode("p", 0)), true)
}

// Trees of one row of names differ by how deep these stand.
func TestTreeSameShapes(t *testing.T) {
	shapes := []impl.Tree{}
	eachNumbers(4, 0, 3, func(parents []int) {
		nodes := []impl.Node{pageNode()}
		for i, parent := range parents {
			if parent > i {
				return
			}
			nodes = append(nodes, elementNode("p", parent))
		}
		shapes = append(shapes, linked(nodes))
	})
	for _, a := range shapes {
		checkTidy(t, a)
		for _, b := range shapes {
			checkTreeSame(t, a, b, printed(a, 0) == printed(b, 0))
		}
	}
}

// renumbered is the tree with its nodes but for the page in another order.
func renumbered(t impl.Tree, order []int) impl.Tree {
	nodes, kids := []impl.Node{}, map[int][]int{}
	for place, at := range order {
		nodes = append(nodes, t.Nodes[at])
		for _, kid := range t.Nodes[at].Kids {
			kids[place] = append(kids[place], slices.Index(order, kid))
		}
	}
	return rebuilt(nodes, kids)
}

func TestNodesInAnotherOrder(t *testing.T) {
	tree := treeOf(pageNode(1, 4), elementNode("p", 0, 2, 3), textNode("x", 1), elementNode("b", 1), commentNode("c", 0), elementNode("i", -1))
	eachNumbers(5, 1, 5, func(order []int) {
		if len(slices.Compact(slices.Sorted(slices.Values(order)))) < 5 {
			return
		}
		turned := renumbered(tree, append([]int{0}, order...))
		checkTreeSame(t, tree, turned, true)
		if got := checkTidy(t, turned); !sameTree(got, impl.TreeTidy(tree)) {
			t.Errorf("%s is tidied to %s", treeText(turned), treeText(got))
		}
	})
}

// Nodes that share a list in the argument have lists of their own in the answer, also where it is as it was.
func TestListsThatAreSharedInTheArgument(t *testing.T) {
	attrs := append(make([]impl.Attr, 0, 30), named("a", "b")...)
	numbers := []int{1, 2, 3}
	tree := treeOf(pageNode(), withAttrs(elementNode("p", 0), attrs...), withAttrs(elementNode("b", 0), attrs...), withAttrs(elementNode("i", 1), attrs...))
	for at := range tree.Nodes {
		tree.Nodes[at].Kids = numbers[3:]
	}
	tree.Nodes[0].Kids, tree.Nodes[1].Kids = numbers[:2], numbers[2:]
	want := cloneTree(tree)
	answers := []func() impl.Tree{
		func() impl.Tree { out, _ := impl.TreeAdd(tree, tree.Nodes[1]); return out },
		func() impl.Tree { out, _ := impl.TreeAdd(tree, impl.Node{}); return out },
		func() impl.Tree { out, _ := impl.TreeHang(tree, 2, 1); return out },
		func() impl.Tree { out, _ := impl.TreeHang(tree, 1, 3); return out },
		func() impl.Tree { out, _ := impl.TreeTake(tree, 3); return out },
		func() impl.Tree { out, _ := impl.TreeTake(tree, 0); return out },
		func() impl.Tree { out, _ := impl.TreeWrite(tree, 0, "x"); return out },
		func() impl.Tree { out, _ := impl.TreeWrite(tree, 0, ""); return out },
		func() impl.Tree { return impl.TreeTidy(tree) },
	}
	for i, answer := range answers {
		if fillTree(answer()) || !sameTree(tree, want) {
			t.Errorf("answer %d shares memory with the argument or with itself", i)
		}
	}
}

// nextTrees does to a tree all that can be done to it with few numbers, texts and nodes.
func nextTrees(t *testing.T, tree impl.Tree) []impl.Tree {
	out := []impl.Tree{}
	for _, n := range []impl.Node{elementNode("p", 0, 0), textNode("x", 1), doctypeNode("", 0)} {
		next, _ := checkTreeAdd(t, tree, n)
		out = append(out, next)
	}
	for child := -1; child <= len(tree.Nodes); child++ {
		taken, _ := checkTake(t, tree, child)
		written, _ := checkWrite(t, tree, child, "w")
		out = append(out, taken, written)
		for parent := -1; parent <= len(tree.Nodes); parent++ {
			hung, _ := checkHang(t, tree, child, parent)
			out = append(out, hung)
		}
	}
	return out
}

func TestEveryTreeThatCanBeMadeOfFewNodes(t *testing.T) {
	seen := map[string]bool{}
	work := []impl.Tree{impl.TreeNew()}
	for len(work) > 0 {
		tree := work[0]
		work = work[1:]
		key := treeText(tree)
		if seen[key] || len(tree.Nodes) > 4 || slices.ContainsFunc(tree.Nodes, func(n impl.Node) bool { return len(n.Text) > 1 }) {
			continue
		}
		seen[key] = true
		checkTreeOk(t, tree, true)
		checkTidy(t, tree)
		work = append(work, nextTrees(t, tree)...)
	}
	if len(seen) < 500 {
		t.Errorf("only %d trees were made", len(seen))
	}
}

// step does one thing to the tree as three bytes tell it, and asks for its answer.
func step(t *testing.T, tree impl.Tree, what byte, a byte, b byte) impl.Tree {
	texts := []string{"x", "", "\u00e9", "\xff", "\ufeff", strings.Repeat("long", 300)}
	nodes := []impl.Node{
		elementNode("p", int(b), int(a)), withAttrs(elementNode("b", -1), named("a", "b")...), textNode("t", 0), commentNode("", 0),
		doctypeNode("html", 0), pageNode(), {}, textNode("", 0), elementNode("P", 0),
	}
	first, second := int(a)%(len(tree.Nodes)+2)-1, int(b)%(len(tree.Nodes)+2)-1
	switch what % 6 {
	case 0:
		tree, _ = checkTreeAdd(t, tree, nodes[int(a)%len(nodes)])
	case 1, 2:
		tree, _ = checkHang(t, tree, first, second)
	case 3:
		tree, _ = checkTake(t, tree, first)
	case 4:
		tree, _ = checkWrite(t, tree, first, texts[int(b)%len(texts)])
	case 5:
		tidied := checkTidy(t, tree)
		checkTreeSame(t, tree, tidied, true)
		if b%4 == 0 {
			tree = tidied
		}
	}
	return tree
}

func checkSteps(t *testing.T, steps []byte) {
	tree := impl.TreeNew()
	for len(steps) >= 3 {
		tree = step(t, tree, steps[0], steps[1], steps[2])
		steps = steps[3:]
	}
	checkTreeOk(t, tree, true)
	checkTidy(t, tree)
}

// manySteps is a row of bytes from a short rule, the same each time.
func manySteps(seed uint32, n int) []byte {
	steps := make([]byte, n)
	for i := range steps {
		seed = seed*1664525 + 1013904223
		steps[i] = byte(seed >> 24)
	}
	return steps
}

func TestTreesStayTreesThroughManySteps(t *testing.T) {
	for seed := range uint32(40) {
		checkSteps(t, manySteps(seed, 450))
	}
}

func FuzzTree(f *testing.F) {
	for seed := range uint32(4) {
		f.Add(manySteps(seed+100, 90))
	}
	f.Fuzz(func(t *testing.T, steps []byte) {
		checkSteps(t, steps[:min(len(steps), 300)])
	})
}
