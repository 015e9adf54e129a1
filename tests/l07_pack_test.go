package tests

import (
	"bytes"
	"encoding/binary"
	"fmt"
	"math"
	"slices"
	"strconv"
	"strings"
	"testing"

	"loop.example/g00118/impl"
)

// numForm is the library's form of a number, which is the document's one.
func numForm(x int) []byte {
	if x < 0 {
		return nil
	}
	return binary.AppendUvarint(nil, uint64(x))
}

func textForm(s string) []byte {
	return append(numForm(len(s)), s...)
}

// longForm has the same number as numForm in one byte more.
func longForm(x int) []byte {
	form := numForm(x)
	form[len(form)-1] += 128
	return append(form, 0)
}

func expectedGetNum(b []byte, at int) (int, int, bool) {
	if at < 0 || at >= len(b) {
		return 0, 0, false
	}
	for size := 1; size <= 9 && at+size <= len(b); size++ {
		form := b[at : at+size]
		x, taken := binary.Uvarint(form)
		if taken == size && bytes.Equal(numForm(int(x)), form) {
			return int(x), at + size, true
		}
	}
	return 0, 0, false
}

// expectedGetText tries each length that may stand there.
func expectedGetText(b []byte, at int) (string, int, bool) {
	for size := 0; at >= 0 && at+size < len(b); size++ {
		form := append(numForm(size), make([]byte, size)...)
		if end := at + len(form); end <= len(b) {
			s := string(b[end-size : end])
			if bytes.Equal(textForm(s), b[at:end]) {
				return s, end, true
			}
		}
	}
	return "", 0, false
}

func checkPutNum(t *testing.T, x int) {
	t.Helper()
	want := numForm(x)
	got, second := impl.PutNum(x), impl.PutNum(x)
	if !bytes.Equal(got, want) {
		t.Errorf("PutNum(%d) = %v, want %v", x, got, want)
	}
	overwrite(got, 77)
	if !bytes.Equal(second, want) {
		t.Errorf("two answers of PutNum(%d) share memory", x)
	}
}

func checkGetNum(t *testing.T, b []byte, at int) {
	t.Helper()
	g := guard(b, 1)
	x, next, ok := impl.GetNum(g.arg, at)
	wantX, wantNext, wantOk := expectedGetNum(b, at)
	if x != wantX || next != wantNext || ok != wantOk {
		t.Errorf("GetNum(%v, %d) = %d, %d, %v, want %d, %d, %v", b, at, x, next, ok, wantX, wantNext, wantOk)
	}
	if !g.untouched() {
		t.Errorf("GetNum(%v, %d) wrote into its argument", b, at)
	}
}

func checkPutText(t *testing.T, s string) {
	t.Helper()
	want := textForm(s)
	got, second := impl.PutText(s), impl.PutText(s)
	if !bytes.Equal(got, want) {
		t.Errorf("PutText(%s) = %s, want %s", short(s), short(string(got)), short(string(want)))
	}
	overwrite(got, 77)
	if !bytes.Equal(second, want) {
		t.Errorf("two answers of PutText(%s) share memory", short(s))
	}
}

func checkGetText(t *testing.T, b []byte, at int) {
	t.Helper()
	g := guard(b, 1)
	s, next, ok := impl.GetText(g.arg, at)
	wantS, wantNext, wantOk := expectedGetText(b, at)
	if s != wantS || next != wantNext || ok != wantOk {
		t.Errorf("GetText(%s, %d) = %s, %d, %v, want %s, %d, %v", short(string(b)), at, short(s), next, ok, short(wantS), wantNext, wantOk)
	}
	if !g.untouched() {
		t.Errorf("GetText(%s, %d) wrote into its argument", short(string(b)), at)
	}
	overwrite(g.arg, 77)
	if s != wantS {
		t.Errorf("GetText(%s, %d) shares memory with its argument", short(string(b)), at)
	}
}

// numEdges are numbers at which a form grows by a byte, and the greatest one.
func numEdges() []int {
	edges := []int{0, 1, 2, 63, 64, 126, 255, 256, 257, 300, 499, 500, 2999, 3000, 20000, math.MaxInt - 1, math.MaxInt}
	for bits := 7; bits < 63; bits += 7 {
		edges = append(edges, 1<<bits-1, 1<<bits, 1<<bits+1)
	}
	return edges
}

// farPlaces are places of no list of n bytes.
func farPlaces(n int) []int {
	return []int{-1, -2, -n, -n - 1, n, n + 1, n + 256, 1 << 32, math.MaxInt, math.MaxInt - 1, math.MinInt, math.MinInt + 1}
}

func TestPutNum(t *testing.T) {
	told := map[int][]byte{
		0: {0}, 1: {1}, 127: {127}, 128: {128, 1}, 129: {129, 1}, 300: {172, 2}, 16383: {255, 127}, 16384: {128, 128, 1},
		math.MaxInt: {255, 255, 255, 255, 255, 255, 255, 255, 127}, 1 << 56: {128, 128, 128, 128, 128, 128, 128, 128, 1},
		1<<56 - 1: {255, 255, 255, 255, 255, 255, 255, 127}, -1: nil, -128: nil, math.MinInt: nil,
	}
	for x, want := range told {
		if got := impl.PutNum(x); !bytes.Equal(got, want) {
			t.Errorf("PutNum(%d) = %v, want %v", x, got, want)
		}
	}
	for _, x := range numEdges() {
		checkPutNum(t, x)
		checkPutNum(t, -x)
		checkPutNum(t, -x-1)
	}
	for x := range 70000 {
		checkPutNum(t, x)
	}
}

// Each number is read from its form as it was, whatever stands around that.
func TestNumbersAreReadAsTheyWere(t *testing.T) {
	for _, x := range numEdges() {
		for _, ahead := range [][]byte{nil, {0}, {128}, {255, 255}, {1, 2, 3}} {
			for _, behind := range [][]byte{nil, {0}, {128}, {255, 255}, {1, 2, 3}} {
				b := joined(ahead, impl.PutNum(x), behind)
				got, next, ok := impl.GetNum(b, len(ahead))
				if got != x || next != len(b)-len(behind) || !ok {
					t.Errorf("GetNum(%v, %d) = %d, %d, %v, want %d", b, len(ahead), got, next, ok, x)
				}
				for at := range b {
					checkGetNum(t, b, at)
				}
			}
		}
	}
}

func TestGetNumPlaces(t *testing.T) {
	for _, b := range [][]byte{nil, {}, {0}, {5}, {128}, {128, 1}, {1, 2, 3}, {255, 255, 255}} {
		for _, at := range farPlaces(len(b)) {
			checkGetNum(t, b, at)
			if x, next, ok := impl.GetNum(b, at); x != 0 || next != 0 || ok && at != 0 {
				t.Errorf("GetNum(%v, %d) = %d, %d, %v", b, at, x, next, ok)
			}
		}
	}
}

func TestGetNumRefuses(t *testing.T) {
	wrong := [][]byte{
		{128}, {255}, {128, 128}, {255, 255, 255, 255, 255, 255, 255, 255}, // they end within the form
		{128, 0}, {129, 0}, {255, 0}, {128, 128, 0}, {255, 255, 0}, {128, 1 + 127, 0, 1}, // not the shortest
		{128, 128, 128, 128, 128, 128, 128, 128, 0}, {255, 255, 255, 255, 255, 255, 255, 255, 0},
		{255, 255, 255, 255, 255, 255, 255, 255, 255},    // 9 bytes, and no end
		{128, 128, 128, 128, 128, 128, 128, 128, 128, 1}, // one more than the greatest number
		{255, 255, 255, 255, 255, 255, 255, 255, 255, 1},
		{255, 255, 255, 255, 255, 255, 255, 255, 255, 0},
		{255, 255, 255, 255, 255, 255, 255, 255, 255, 127},
		repeated[byte](128, 20), repeated[byte](255, 3000),
	}
	for _, b := range wrong {
		if x, next, ok := impl.GetNum(b, 0); x != 0 || next != 0 || ok {
			t.Errorf("GetNum(%v, 0) = %d, %d, %v", b, x, next, ok)
		}
		for at := range min(len(b), 12) {
			checkGetNum(t, b, at)
			checkGetNum(t, joined([]byte{7}, b), at)
		}
	}
	if x, next, ok := impl.GetNum([]byte{255, 255, 255, 255, 255, 255, 255, 255, 127}, 0); x != math.MaxInt || next != 9 || !ok {
		t.Errorf("the greatest number is read as %d, %d, %v", x, next, ok)
	}
	for size := 1; size <= 12; size++ {
		form := append(repeated[byte](128, size-1), 1)
		if x, next, ok := impl.GetNum(form, 0); ok != (size <= 9) || ok && (x != 1<<(7*(size-1)) || next != size) {
			t.Errorf("a form of %d bytes is read as %d, %d, %v", size, x, next, ok)
		}
	}
}

func TestGetNumOfAnyFewBytes(t *testing.T) {
	pieces := []string{"\x00", "\x01", "\x7f", "\x80", "\x81", "\xff"}
	checkGetNum(t, nil, 0)
	eachRow(pieces, 5, func(row string) {
		for at := -1; at <= len(row); at++ {
			checkGetNum(t, []byte(row), at)
		}
	})
	eachRow(pieces, 3, func(row string) {
		for size := range 9 {
			checkGetNum(t, append(repeated[byte](200, size), row...), 0)
		}
	})
}

// sampleTexts have lengths at which the form grows, and bytes of all kinds.
func sampleTexts() []string {
	every := make([]byte, 256)
	for i := range every {
		every[i] = byte(i)
	}
	texts := append(slices.Clone(badTexts), "", "a", "ab", "\x00", "\x80", "\u00e9", "\u20ac", "\U0001f600", string(every))
	for _, size := range []int{126, 127, 128, 129, 255, 256, 16383, 16384, 16385, 20001} {
		texts = append(texts, strings.Repeat("x", size))
	}
	return texts
}

func TestPutText(t *testing.T) {
	for s, want := range map[string]string{"": "\x00", "ab": "\x02ab", "\xff\x00": "\x02\xff\x00", "\u20ac": "\x03\u20ac"} {
		if got := impl.PutText(s); string(got) != want {
			t.Errorf("PutText(%q) = %q, want %q", s, got, want)
		}
	}
	for _, s := range sampleTexts() {
		checkPutText(t, s)
	}
	for size := range 300 {
		checkPutText(t, strings.Repeat("\x80", size))
	}
}

func TestTextsAreReadAsTheyWere(t *testing.T) {
	for _, s := range sampleTexts() {
		for _, ahead := range []string{"", "\x00", "\x80", "ahead"} {
			for _, behind := range []string{"", "\x00", "\x80", "behind"} {
				b := []byte(ahead + string(impl.PutText(s)) + behind)
				got, next, ok := impl.GetText(b, len(ahead))
				if got != s || next != len(b)-len(behind) || !ok {
					t.Errorf("GetText(%s, %d) = %s, %d, %v", short(string(b)), len(ahead), short(got), next, ok)
				}
				if len(s) < 300 {
					checkGetText(t, b, len(ahead))
				}
			}
		}
	}
}

func TestGetTextThatEndsTooSoon(t *testing.T) {
	for _, size := range []int{1, 2, 5, 127, 128, 300} {
		form := textForm(strings.Repeat("x", size))
		for cut := range form {
			checkGetText(t, form[:cut], 0)
			if s, next, ok := impl.GetText(form[:cut], 0); s != "" || next != 0 || ok {
				t.Errorf("GetText of %d of %d bytes = %s, %d, %v", cut, len(form), short(s), next, ok)
			}
		}
		// What stands in the room behind the argument is none of its bytes.
		if s, _, ok := impl.GetText(form[:len(form)-1:len(form)], 0); s != "" || ok {
			t.Errorf("GetText reads behind its argument: %s", short(s))
		}
		for more := range 3 {
			b := append(slices.Clone(form), repeated[byte](9, more)...)
			if s, next, ok := impl.GetText(b, 0); len(s) != size || next != len(form) || !ok {
				t.Errorf("GetText of %d bytes more = %s, %d, %v", more, short(s), next, ok)
			}
		}
	}
}

func TestGetTextLengths(t *testing.T) {
	behind := repeated[byte]('x', 40)
	for _, size := range append(numEdges(), 40, 41, math.MaxInt-40, math.MaxInt-41) {
		checkGetText(t, joined(numForm(size), behind), 0)
		checkGetText(t, joined([]byte{3, 1, 2}, numForm(size), behind), 3)
		checkGetText(t, joined(longForm(size), behind), 0)
		if s, next, ok := impl.GetText(joined(longForm(size), behind), 0); s != "" || next != 0 || ok {
			t.Errorf("GetText of a length that is not in its shortest form = %s, %d, %v", short(s), next, ok)
		}
	}
	for _, form := range [][]byte{repeated[byte](255, 9), repeated[byte](255, 10), {255, 255, 255, 255, 255, 255, 255, 255, 255, 1}} {
		checkGetText(t, joined(form, behind), 0)
	}
}

func TestGetTextPlaces(t *testing.T) {
	for _, b := range [][]byte{nil, {}, {0}, {1}, {1, 'a'}, {0, 0, 0}, {2, 'a', 'b', 1, 'c'}} {
		for _, at := range farPlaces(len(b)) {
			checkGetText(t, b, at)
			if s, next, ok := impl.GetText(b, at); s != "" || next != 0 || ok && at != 0 {
				t.Errorf("GetText(%v, %d) = %q, %d, %v", b, at, s, next, ok)
			}
		}
		for at := range b {
			checkGetText(t, b, at)
		}
	}
}

func TestGetTextOfAnyFewBytes(t *testing.T) {
	eachRow([]string{"\x00", "\x01", "\x02", "\x03", "\x80", "\xff", "a"}, 5, func(row string) {
		for at := -1; at <= len(row); at++ {
			checkGetText(t, []byte(row), at)
		}
	})
}

// A part is one number form, or one text form, of what a tree is packed to.
type part struct {
	num   int
	text  string
	isNum bool
}

func numPart(x int) part {
	return part{num: x, isNum: true}
}

func textPart(s string) part {
	return part{text: s}
}

func (p part) form() []byte {
	if p.isNum {
		return numForm(p.num)
	}
	return textForm(p.text)
}

func formOf(parts []part) []byte {
	out := []byte{}
	for _, p := range parts {
		out = append(out, p.form()...)
	}
	return out
}

// namesIn are the texts that are the Name of a node or of an attribute; of an NdDoctype that may be the empty one.
func namesIn(t impl.Tree) []string {
	all := []string{}
	for _, n := range t.Nodes {
		if n.Kind == 2 || n.Kind == 3 {
			all = append(all, n.Name)
		}
		for _, a := range n.Attrs {
			all = append(all, a.Name)
		}
	}
	once := []string{}
	for i, name := range all {
		if slices.Index(all, name) == i {
			once = append(once, name)
		}
	}
	return once
}

func headParts(names []string, count int) []part {
	parts := []part{numPart(len(names))}
	for _, name := range names {
		parts = append(parts, textPart(name))
	}
	return append(parts, numPart(count))
}

// nodeParts is one node by a list of names, as if it were right.
func nodeParts(n impl.Node, names []string) []part {
	place := func(name string) part { return numPart(slices.Index(names, name)) }
	parts := []part{numPart(n.Kind), numPart(len(n.Kids))}
	if n.Kind == 2 || n.Kind == 3 {
		parts = append(parts, place(n.Name))
	}
	if n.Kind == 3 {
		parts = append(parts, numPart(len(n.Attrs)))
	}
	for _, a := range n.Attrs {
		parts = append(parts, place(a.Name), textPart(a.Value))
	}
	if n.Kind == 4 || n.Kind == 5 {
		parts = append(parts, textPart(n.Text))
	}
	return parts
}

// treeParts is a tree by a list of names, as if both were right.
func treeParts(t impl.Tree, names []string) []part {
	parts := headParts(names, len(t.Nodes))
	for _, n := range t.Nodes {
		parts = append(parts, nodeParts(n, names)...)
	}
	return parts
}

// formed is what a tree would be packed to, if it were right.
func formed(t impl.Tree) []byte {
	return formOf(treeParts(t, namesIn(t)))
}

func expectedPack(t impl.Tree) ([]byte, bool) {
	if !treeFits(t) || !sameTree(t, expectedTidy(t)) {
		return nil, false
	}
	out := formed(t)
	if len(out) > 20000 {
		return nil, false
	}
	return out, true
}

// A strictReader reads by the rules one by one, and packs nothing again.
type strictReader struct {
	b     []byte
	at    int
	wrong bool
	names []string
	used  int
}

func (r *strictReader) num() int {
	x, next, ok := expectedGetNum(r.b, r.at)
	r.at, r.wrong = next, r.wrong || !ok
	return x
}

func (r *strictReader) text() string {
	size := r.num()
	if r.wrong || size > len(r.b)-r.at {
		r.wrong = true
		return ""
	}
	r.at += size
	return string(r.b[r.at-size : r.at])
}

// name asks that a name comes first by the place behind all that came ahead of it.
func (r *strictReader) name() string {
	place := r.num()
	if r.wrong || place > r.used || place >= len(r.names) {
		r.wrong = true
		return ""
	}
	if place == r.used {
		r.used++
	}
	return r.names[place]
}

func (r *strictReader) list() {
	for n := r.num(); n > 0 && !r.wrong; n-- {
		name := r.text()
		if slices.Contains(r.names, name) {
			r.wrong = true
		}
		r.names = append(r.names, name)
	}
}

func (r *strictReader) node() (impl.Node, int) {
	n := impl.Node{Kind: r.num()}
	kids := r.num()
	if n.Kind == 2 || n.Kind == 3 {
		n.Name = r.name()
	}
	if n.Kind == 3 {
		for more := r.num(); more > 0 && !r.wrong; more-- {
			name := r.name()
			n.Attrs = append(n.Attrs, impl.Attr{Name: name, Value: r.text()})
		}
	}
	if n.Kind == 4 || n.Kind == 5 {
		n.Text = r.text()
	}
	return n, kids
}

// expectedTreeRead keeps for each node how many of its kids are still to come.
func expectedTreeRead(b []byte) (impl.Tree, bool) {
	r := &strictReader{b: b}
	r.list()
	count := r.num()
	if r.wrong || len(b) > 20000 || count < 1 || count > 500 {
		return impl.Tree{}, false
	}
	nodes, missing := []impl.Node{}, []int{}
	for at := range count {
		parent := at - 1
		for parent >= 0 && missing[parent] == 0 {
			parent--
		}
		n, kids := r.node()
		if r.wrong || (at > 0) != (parent >= 0) || (at == 0) != (n.Kind == 1) {
			return impl.Tree{}, false
		}
		n.Parent = parent
		nodes, missing = append(nodes, n), append(missing, kids)
		if parent >= 0 {
			missing[parent]--
		}
	}
	t := linked(nodes)
	over := slices.ContainsFunc(missing, func(n int) bool { return n != 0 })
	if over || r.at != len(b) || r.used != len(r.names) || !treeFits(t) {
		return impl.Tree{}, false
	}
	return t, true
}

// checkPack asks for the promise as well: the tree is read from its bytes as it was.
func checkPack(t *testing.T, tree impl.Tree) ([]byte, bool) {
	t.Helper()
	want, wantOk := expectedPack(tree)
	g := guardTree(tree)
	got, ok := impl.TreePack(g.arg)
	if !bytes.Equal(got, want) || ok != wantOk {
		t.Errorf("TreePack(%s)\n got  %s %v\n want %s %v", treeText(tree), short(string(got)), ok, short(string(want)), wantOk)
	}
	second, _ := impl.TreePack(g.arg)
	overwrite(got, 77)
	if !g.untouched() {
		t.Errorf("TreePack(%s) wrote into its argument", treeText(tree))
	}
	fillTree(g.arg)
	if !bytes.Equal(second, want) {
		t.Errorf("TreePack(%s): a second answer shares memory with the first one or with the argument", treeText(tree))
	}
	if wantOk {
		if read, ok := checkRead(t, want); !ok || !sameTree(read, tree) || !impl.TreeSame(read, tree) {
			t.Errorf("%s is read from its bytes as %s, %v", treeText(tree), treeText(read), ok)
		}
	}
	return want, wantOk
}

// checkRead asks for the promise as well: what is read packs to just those bytes.
func checkRead(t *testing.T, b []byte) (impl.Tree, bool) {
	t.Helper()
	want, wantOk := expectedTreeRead(b)
	g := guard(b, 1)
	got, ok := impl.TreeRead(g.arg)
	if !sameTree(got, want) || ok != wantOk {
		t.Errorf("TreeRead(%s)\n got  %s %v\n want %s %v", short(string(b)), treeText(got), ok, treeText(want), wantOk)
	}
	if !g.untouched() {
		t.Errorf("TreeRead(%s) wrote into its argument", short(string(b)))
	}
	if again, packs := impl.TreePack(got); packs != ok || ok && !bytes.Equal(again, b) {
		t.Errorf("TreeRead(%s): what is read packs to %s, %v", short(string(b)), short(string(again)), packs)
	}
	if !ok {
		return want, wantOk
	}
	second, _ := impl.TreeRead(g.arg)
	if fillTree(got) {
		t.Errorf("TreeRead(%s): two lists of the answer share memory", short(string(b)))
	}
	overwrite(g.arg, 77)
	if !sameTree(second, want) {
		t.Errorf("TreeRead(%s): a second answer shares memory with the first one or with the argument", short(string(b)))
	}
	return want, wantOk
}

func checkPacks(t *testing.T, tree impl.Tree, bytesWanted string) {
	t.Helper()
	if got, ok := checkPack(t, tree); !ok || string(got) != bytesWanted {
		t.Errorf("%s packs to %q, want %q", treeText(tree), got, bytesWanted)
	}
}

func checkNoPack(t *testing.T, tree impl.Tree) {
	t.Helper()
	if got, ok := checkPack(t, tree); ok || len(got) != 0 {
		t.Errorf("%s packs to %s", treeText(tree), short(string(got)))
	}
}

func checkNoRead(t *testing.T, why string, b []byte) {
	t.Helper()
	if got, ok := checkRead(t, b); ok || len(got.Nodes) != 0 {
		t.Errorf("%s: %s is read as %s", why, short(string(b)), treeText(got))
	}
}

// fullTree has each kind, names that come twice in each way, and is its own TreeTidy.
func fullTree() impl.Tree {
	return treeOf(
		pageNode(1, 2, 9),
		doctypeNode("p", 0),
		withAttrs(elementNode("p", 0, 3, 4, 8), impl.Attr{Name: "id", Value: "1"}, impl.Attr{Name: "class", Value: ""}),
		textNode("one", 2),
		withAttrs(elementNode("id", 2, 5, 7), impl.Attr{Name: "id", Value: "\u00e9"}, impl.Attr{Name: "p", Value: "x y"}),
		withAttrs(elementNode("b", 4, 6), impl.Attr{Name: "b"}),
		commentNode("", 5),
		commentNode("c", 4),
		elementNode("p", 2),
		doctypeNode("", 0),
	)
}

// packTrees are trees that pack, small ones and great ones.
func packTrees() []impl.Tree {
	wide := manyNodes(500, belowPage)
	for i := range wide.Nodes[1:] {
		wide.Nodes[i+1].Name = "e" + strconv.Itoa(i%130)
	}
	return []impl.Tree{
		impl.TreeNew(),
		treeOf(pageNode(1), elementNode("p", 0)),
		treeOf(pageNode(1), doctypeNode("", 0)),
		treeOf(pageNode(1), doctypeNode("html", 0)),
		treeOf(pageNode(1), textNode("x", 0)),
		treeOf(pageNode(1), commentNode("", 0)),
		treeOf(pageNode(1), withAttrs(elementNode("p", 0, 2), impl.Attr{Name: "id", Value: "7"}), textNode("hi", 1)),
		impl.TreeTidy(sampleTree()),
		fullTree(),
		wide,
		manyNodes(500, belowTheLast),
		treeOf(pageNode(1, 2), withAttrs(elementNode("p", 0), manyAttrs(20)...), withAttrs(elementNode("b", 0), manyAttrs(20)...)),
		treeOf(pageNode(1, 2), textNode(strings.Repeat("x", 3000), 0), commentNode(strings.Repeat("\u20ac", 1000), 0)),
		treeOf(pageNode(1), withAttrs(elementNode("p", 0), impl.Attr{Name: strings.Repeat("n", 60), Value: strings.Repeat("v", 3000)})),
	}
}

func TestMaxPacked(t *testing.T) {
	if impl.MaxPacked != 20000 {
		t.Errorf("MaxPacked is %d", impl.MaxPacked)
	}
}

func TestTreePackOrdinary(t *testing.T) {
	checkPacks(t, impl.TreeNew(), "\x00\x01\x01\x00")
	checkPacks(t, treeOf(pageNode(1), elementNode("p", 0)), "\x01\x01p\x02\x01\x01\x03\x00\x00\x00")
	checkPacks(t, treeOf(pageNode(1), doctypeNode("html", 0)), "\x01\x04html\x02\x01\x01\x02\x00\x00")
	checkPacks(t, treeOf(pageNode(1), textNode("hi", 0)), "\x00\x02\x01\x01\x04\x00\x02hi")
	checkPacks(t, treeOf(pageNode(1), commentNode("c", 0)), "\x00\x02\x01\x01\x05\x00\x01c")
	checkPacks(t, treeOf(pageNode(1), commentNode("", 0)), "\x00\x02\x01\x01\x05\x00\x00")
	checkPacks(t, treeOf(pageNode(1), withAttrs(elementNode("p", 0, 2), impl.Attr{Name: "id", Value: "7"}), textNode("hi", 1)),
		"\x02\x01p\x02id\x03\x01\x01\x03\x01\x00\x01\x01\x017\x04\x00\x02hi")
	for _, tree := range packTrees() {
		if _, ok := checkPack(t, tree); !ok {
			t.Errorf("%s does not pack", treeText(tree))
		}
	}
}

func TestTreePackNamesThatComeTwice(t *testing.T) {
	value := func(name string) impl.Attr { return impl.Attr{Name: name, Value: "v"} }
	checkPacks(t, treeOf(pageNode(1, 2), elementNode("p", 0), elementNode("p", 0)),
		"\x01\x01p\x03\x01\x02\x03\x00\x00\x00\x03\x00\x00\x00")
	checkPacks(t, treeOf(pageNode(1), withAttrs(elementNode("p", 0), value("p"))),
		"\x01\x01p\x02\x01\x01\x03\x00\x00\x01\x00\x01v")
	checkPacks(t, treeOf(pageNode(1, 2), withAttrs(elementNode("p", 0), value("b")), elementNode("b", 0)),
		"\x02\x01p\x01b\x03\x01\x02\x03\x00\x00\x01\x01\x01v\x03\x00\x01\x00")
	checkPacks(t, treeOf(pageNode(1, 2), elementNode("p", 0), withAttrs(elementNode("b", 0), value("p"))),
		"\x02\x01p\x01b\x03\x01\x02\x03\x00\x00\x00\x03\x00\x01\x01\x00\x01v")
	checkPacks(t, treeOf(pageNode(1, 2), withAttrs(elementNode("p", 0), value("x")), withAttrs(elementNode("b", 0), value("x"))),
		"\x03\x01p\x01x\x01b\x03\x01\x02\x03\x00\x00\x01\x01\x01v\x03\x00\x02\x01\x01\x01v")
	checkPacks(t, treeOf(pageNode(1, 2), doctypeNode("p", 0), elementNode("p", 0)),
		"\x01\x01p\x03\x01\x02\x02\x00\x00\x03\x00\x00\x00")
	checkPacks(t, treeOf(pageNode(1, 3), elementNode("p", 0, 2), elementNode("b", 1), elementNode("p", 0)),
		"\x02\x01p\x01b\x04\x01\x02\x03\x01\x00\x00\x03\x00\x01\x00\x03\x00\x00\x00")
}

// Texts and Values are no names, whatever they are alike to.
func TestTreePackTextsThatAreAlikeToNames(t *testing.T) {
	checkPacks(t, treeOf(pageNode(1, 2, 3), withAttrs(elementNode("p", 0), impl.Attr{Name: "x", Value: "p"}), textNode("p", 0), commentNode("q", 0)),
		"\x02\x01p\x01x\x04\x01\x03\x03\x00\x00\x01\x01\x01p\x04\x00\x01p\x05\x00\x01q")
}

// An NdDoctype has a Name also where that is empty: so the empty text stands in the list, where it comes first.
func TestTreePackDoctypesWithoutAName(t *testing.T) {
	checkPacks(t, treeOf(pageNode(1), doctypeNode("", 0)), "\x01\x00\x02\x01\x01\x02\x00\x00")
	checkPacks(t, treeOf(pageNode(1, 2), doctypeNode("", 0), doctypeNode("", 0)), "\x01\x00\x03\x01\x02\x02\x00\x00\x02\x00\x00")
	checkPacks(t, treeOf(pageNode(1, 2), doctypeNode("", 0), elementNode("p", 0)), "\x02\x00\x01p\x03\x01\x02\x02\x00\x00\x03\x00\x01\x00")
	checkPacks(t, treeOf(pageNode(1, 2, 3), elementNode("p", 0), doctypeNode("", 0), doctypeNode("p", 0)),
		"\x02\x01p\x00\x04\x01\x03\x03\x00\x00\x00\x02\x00\x01\x02\x00\x00")
	checkPacks(t, treeOf(pageNode(1, 2), textNode("x", 0), commentNode("", 0)), "\x00\x03\x01\x02\x04\x00\x01x\x05\x00\x00")
	checkNoRead(t, "no place of a name", []byte("\x00\x02\x01\x01\x02\x00"))
	checkNoRead(t, "a place of no name", []byte("\x00\x02\x01\x01\x02\x00\x00"))
}

func TestTreePackOfManyNames(t *testing.T) {
	for _, n := range []int{127, 128, 129, 130, 200, 256, 257, 300} {
		tree := manyNodes(n, belowPage)
		b, ok := checkPack(t, tree)
		if want := string(numForm(n-1)) + "\x02e1"; !ok || !strings.HasPrefix(string(b), want) {
			t.Errorf("%d nodes pack to %s", n, short(string(b)))
		}
	}
	same := manyNodes(500, belowPage)
	for i := range same.Nodes[1:] {
		same.Nodes[i+1].Name = "e"
	}
	b, _ := checkPack(t, same)
	if want := "\x01\x01e\xf4\x03\x01\xf3\x03" + strings.Repeat("\x03\x00\x00\x00", 499); string(b) != want {
		t.Errorf("500 nodes of one name pack to %s", short(string(b)))
	}
}

func TestTreePackRefusesWrongTrees(t *testing.T) {
	for _, tree := range wrongTrees() {
		checkNoPack(t, tree)
	}
	for _, n := range []impl.Node{
		{}, {Kind: 6}, pageNode(), textNode("", 0), elementNode("", 0), elementNode("P", 0), textNode("\xff", 0), commentNode("\ufeff", 0),
		doctypeNode("\xff", 0), withAttrs(elementNode("p", 0), named("a", "a")...), withAttrs(textNode("x", 0), named("a")...),
		withAttrs(elementNode("p", 0), manyAttrs(21)...), {Kind: impl.NdText, Text: "x", Name: "p"},
	} {
		n.Parent = 0
		checkNoPack(t, treeOf(pageNode(1), n))
	}
	checkNoPack(t, manyNodes(501, belowPage))
}

func TestTreePackRefusesTreesThatAreNotTidy(t *testing.T) {
	checkNoPack(t, sampleTree())
	checkNoPack(t, treeOf(pageNode(), elementNode("p", -1)))
	checkNoPack(t, treeOf(pageNode(1), elementNode("p", 0), commentNode("", -1)))
	checkNoPack(t, treeOf(pageNode(2, 1), elementNode("p", 0), elementNode("p", 0)))
	checkNoPack(t, treeOf(pageNode(1, 2), elementNode("p", 0, 3), elementNode("p", 0), textNode("x", 1)))
	checkNoPack(t, treeOf(impl.Node{Kind: impl.NdPage, Parent: 1}, elementNode("p", -1, 0)))
	checkPack(t, treeOf(pageNode(1, 3), elementNode("p", 0, 2), textNode("x", 1), elementNode("p", 0)))
	tree := impl.TreeTidy(treeOf(pageNode(1, 4), elementNode("p", 0, 2, 3), textNode("x", 1), elementNode("b", 1), commentNode("c", 0)))
	right := 0
	eachNumbers(4, 1, 4, func(order []int) {
		if len(slices.Compact(slices.Sorted(slices.Values(order)))) == 4 {
			if _, ok := checkPack(t, renumbered(tree, append([]int{0}, order...))); ok {
				right++
			}
		}
	})
	if right != 1 {
		t.Errorf("%d orders of one tree pack", right)
	}
	empty := treeOf(pageNode(1), impl.Node{Kind: impl.NdElement, Name: "p", Attrs: []impl.Attr{}, Kids: []int{}})
	checkPacks(t, empty, "\x01\x01p\x02\x01\x01\x03\x00\x00\x00")
}

// packedTo is a tree of texts whose bytes are so many.
func packedTo(size int) impl.Tree {
	nodes := []impl.Node{pageNode()}
	for left := size - len(formed(treeOf(pageNode(1)))); left > 0; {
		text := min(3000, left-4)
		if rest := left - text - 4; rest > 0 && rest < 200 {
			text -= 200
		}
		nodes = append(nodes, textNode(strings.Repeat("x", text), 0))
		left -= text + 4
	}
	return linked(nodes)
}

func TestTreePackLimit(t *testing.T) {
	for size := 19990; size <= 20010; size++ {
		tree := packedTo(size)
		if got := len(formed(tree)); got != size {
			t.Fatalf("the test's own tree has %d bytes, want %d", got, size)
		}
		if b, ok := checkPack(t, tree); ok != (size <= 20000) || ok && len(b) != size {
			t.Errorf("a tree of %d bytes packs to %d, %v", size, len(b), ok)
		}
		if _, ok := checkRead(t, formed(tree)); ok != (size <= 20000) {
			t.Errorf("%d bytes are read: %v", size, ok)
		}
	}
	far := manyNodes(500, belowPage)
	for i := range far.Nodes[1:] {
		far.Nodes[i+1].Attrs = []impl.Attr{{Name: "a", Value: strings.Repeat("v", 300)}}
	}
	checkNoPack(t, far)
	checkNoRead(t, "more than MaxPacked bytes", formed(far))
	names := manyNodes(500, belowPage)
	for i := range names.Nodes[1:] {
		names.Nodes[i+1].Name = strings.Repeat("n", 50) + strconv.Itoa(i)
	}
	checkNoPack(t, names)
	checkNoRead(t, "more than MaxPacked bytes", formed(names))
}

func TestTreeReadOfWhatPacks(t *testing.T) {
	for _, tree := range packTrees() {
		b := formed(tree)
		read, ok := checkRead(t, b)
		if !ok || !sameTree(read, tree) {
			t.Errorf("%s is read as %s, %v", treeText(tree), treeText(read), ok)
		}
	}
}

func TestTreeReadBytesBehindAndAway(t *testing.T) {
	for _, tree := range packTrees() {
		b := formed(tree)
		for _, more := range [][]byte{{0}, {1}, {128}, {255}, {0, 0}, {4, 0, 1, 'x'}, {5, 0, 0}, b} {
			checkNoRead(t, "bytes behind", joined(b, more))
			checkRead(t, joined(more[:1], b))
		}
		cuts := []int{}
		for cut := range b {
			if cut < 40 || cut > len(b)-40 || cut%97 == 0 {
				cuts = append(cuts, cut)
			}
		}
		for _, cut := range cuts {
			checkNoRead(t, "the end is away", b[:cut])
			checkRead(t, b[cut+1:])
		}
	}
	// What stands in the room behind the argument is none of its bytes.
	b := formed(fullTree())
	if _, ok := impl.TreeRead(b[: len(b)-1 : len(b)]); ok {
		t.Error("TreeRead reads behind its argument")
	}
}

func TestTreeReadNoBytes(t *testing.T) {
	checkNoRead(t, "nothing", nil)
	checkNoRead(t, "nothing", []byte{})
	for x := range 256 {
		checkNoRead(t, "one byte", []byte{byte(x)})
		checkNoRead(t, "many bytes", repeated(byte(x), 300))
		checkNoRead(t, "MaxPacked bytes", repeated(byte(x), 20000))
		checkNoRead(t, "more than MaxPacked bytes", repeated(byte(x), 20001))
	}
}

func TestTreeReadNames(t *testing.T) {
	tree := treeOf(pageNode(1, 2), withAttrs(elementNode("p", 0), impl.Attr{Name: "id"}), elementNode("b", 0))
	if _, ok := checkRead(t, formOf(treeParts(tree, []string{"p", "id", "b"}))); !ok {
		t.Error("names in their order are refused")
	}
	for _, names := range [][]string{
		{"p", "b", "id"}, {"id", "p", "b"}, {"id", "b", "p"}, {"b", "p", "id"}, {"b", "id", "p"}, // in another order
		{"p", "id", "b", "x"}, {"x", "p", "id", "b"}, {"p", "x", "id", "b"}, {"p", "id", "b", ""}, // one that is the Name of nothing
		{"p", "id", "b", "p"}, {"p", "id", "b", "b"}, {"p", "p", "id", "b"}, {"p", "id", "p", "b"}, // one that stands twice
	} {
		checkNoRead(t, fmt.Sprint("names ", names), formOf(treeParts(tree, names)))
	}
	checkNoRead(t, "names of nothing", formOf(treeParts(impl.TreeNew(), []string{"p"})))
	checkNoRead(t, "names of nothing", formOf(treeParts(impl.TreeNew(), []string{""})))
	checkNoRead(t, "names of nothing", formOf(treeParts(treeOf(pageNode(1), textNode("p", 0)), []string{"p"})))
	two := headParts([]string{"p", "p"}, 3)
	two = append(two, numPart(1), numPart(2), numPart(3), numPart(0), numPart(0), numPart(0), numPart(3), numPart(0), numPart(1), numPart(0))
	checkNoRead(t, "a name that stands twice, each asked for", formOf(two))
	long := treeOf(pageNode(1), elementNode(strings.Repeat("n", 61), 0))
	checkNoRead(t, "a name that is too long", formed(long))
}

// checkEachNumber turns each number of what a tree packs to, and asks what is read then.
func checkEachNumber(t *testing.T, tree impl.Tree, to []int) {
	t.Helper()
	parts := treeParts(tree, namesIn(tree))
	for i, p := range parts {
		if !p.isNum {
			continue
		}
		for _, x := range append(to, p.num-1, p.num+1, p.num+128, p.num+256) {
			turned := slices.Clone(parts)
			turned[i].num = x
			checkRead(t, formOf(turned))
		}
		long := joined(formOf(parts[:i]), longForm(p.num), formOf(parts[i+1:]))
		checkNoRead(t, "a number that is not in its shortest form", long)
	}
	for i, p := range parts {
		if !p.isNum {
			long := joined(formOf(parts[:i]), longForm(len(p.text)), []byte(p.text), formOf(parts[i+1:]))
			checkNoRead(t, "a length that is not in its shortest form", long)
		}
	}
}

func TestTreeReadOtherNumbers(t *testing.T) {
	to := []int{0, 1, 2, 3, 4, 5, 6, 7, 127, 128, 499, 500, 501, 20000, 1 << 32, math.MaxInt - 1, math.MaxInt}
	for _, tree := range packTrees() {
		if len(tree.Nodes) < 100 {
			checkEachNumber(t, tree, to)
		}
	}
}

func TestTreeReadPlacesOfNames(t *testing.T) {
	for _, place := range []int{1, 2, 127, 128, 256, 1 << 32, math.MaxInt} {
		parts := append(headParts([]string{"p"}, 2), numPart(1), numPart(1))
		checkNoRead(t, "an NdDoctype's place", formOf(append(slices.Clone(parts), numPart(2), numPart(0), numPart(place))))
		checkNoRead(t, "an NdElement's place", formOf(append(slices.Clone(parts), numPart(3), numPart(0), numPart(place), numPart(0))))
		attr := append(slices.Clone(parts), numPart(3), numPart(0), numPart(0), numPart(1), numPart(place), textPart("v"))
		checkNoRead(t, "an attribute's place", formOf(attr))
	}
}

func TestTreeReadKinds(t *testing.T) {
	for _, kind := range []int{0, 1, 6, 7, 127, 128, 129, 130, 131, 132, 133, 257, 258, 259, 260, 261, 1<<32 + 3, math.MaxInt} {
		for _, rest := range [][]part{nil, {numPart(0)}, {numPart(0), numPart(0)}, {textPart("x")}} {
			parts := append(headParts(nil, 2), numPart(1), numPart(1), numPart(kind), numPart(0))
			checkNoRead(t, fmt.Sprint("Kind ", kind), formOf(append(parts, rest...)))
			named := append(headParts([]string{"p"}, 2), numPart(1), numPart(1), numPart(kind), numPart(0))
			checkNoRead(t, fmt.Sprint("Kind ", kind), formOf(append(named, rest...)))
		}
		if kind != 1 {
			checkNoRead(t, fmt.Sprint("node 0 of Kind ", kind), formOf(append(headParts(nil, 1), numPart(kind), numPart(0))))
		}
	}
	checkNoRead(t, "a second NdPage", formed(treeOf(pageNode(1), impl.Node{Kind: impl.NdPage})))
	checkNoRead(t, "an NdPage below an element", formed(treeOf(pageNode(1), elementNode("p", 0, 2), impl.Node{Kind: impl.NdPage, Parent: 1})))
	for _, first := range []impl.Node{elementNode("p", -1), doctypeNode("p", -1), textNode("x", -1), commentNode("x", -1)} {
		checkNoRead(t, "node 0 of another Kind", formed(treeOf(first)))
		first.Kids = []int{1}
		checkNoRead(t, "node 0 of another Kind", formed(treeOf(first, textNode("x", 0))))
		checkNoRead(t, "node 0 of another Kind", formed(treeOf(first, pageNode())))
	}
}

func TestTreeReadHowManyKids(t *testing.T) {
	tree := treeOf(pageNode(1, 3), elementNode("p", 0, 2), textNode("x", 1), elementNode("p", 0))
	right := map[string]bool{}
	eachNumbers(3, 0, 3, func(counts []int) {
		turned := cloneTree(tree)
		for i, at := range []int{0, 1, 3} {
			turned.Nodes[at].Kids = make([]int, counts[i])
		}
		if _, ok := checkRead(t, formed(turned)); ok {
			right[fmt.Sprint(counts)] = true
		}
	})
	if len(right) != 3 || !right["[2 1 0]"] || !right["[3 0 0]"] || !right["[1 2 0]"] {
		t.Errorf("with how many Kids they are read: %v", right)
	}
	for _, at := range []int{0, 1, 3} {
		for _, count := range []int{4, 127, 128, 500, 1 << 40, math.MaxInt} {
			parts := headParts([]string{"p"}, 4)
			for i, n := range tree.Nodes {
				more := nodeParts(n, []string{"p"})
				if i == at {
					more[1].num = count
				}
				parts = append(parts, more...)
			}
			checkNoRead(t, "more Kids than come", formOf(parts))
		}
	}
	for _, n := range []impl.Node{textNode("x", 0), commentNode("x", 0), doctypeNode("x", 0)} {
		n.Kids = []int{2}
		checkNoRead(t, "Kids of what may have none", formed(treeOf(pageNode(1), n, textNode("y", 1))))
		checkNoRead(t, "Kids of what may have none, and none come", formed(treeOf(pageNode(1), n)))
	}
}

func TestTreeReadHowManyNodes(t *testing.T) {
	one := "\x01\x00"
	if _, ok := checkRead(t, []byte("\x00\x01"+one)); !ok {
		t.Error("a page alone is not read")
	}
	checkNoRead(t, "no nodes", []byte("\x00\x00"))
	checkNoRead(t, "no nodes, and one comes", []byte("\x00\x00"+one))
	checkNoRead(t, "two nodes, and one comes", []byte("\x00\x02"+one))
	checkNoRead(t, "one node, and two come", []byte("\x00\x01"+one+one))
	checkNoRead(t, "two nodes that stand below none", []byte("\x00\x02"+one+one))
	for _, n := range []int{499, 500, 501, 502, 600} {
		for _, parentOf := range []func(int) int{belowPage, belowTheLast} {
			tree := manyNodes(n, parentOf)
			for i := range tree.Nodes[1:] {
				tree.Nodes[i+1].Name = "e"
			}
			if _, ok := checkRead(t, formed(tree)); ok != (n <= 500) {
				t.Errorf("%d nodes are read: %v", n, ok)
			}
		}
	}
	deep := joined([]byte{0}, numForm(9000), []byte(strings.Repeat("\x01\x01", 8999)), []byte{1, 0})
	checkNoRead(t, "many pages, each below the last one", deep)
	for _, n := range []int{1 << 20, 1 << 40, math.MaxInt} {
		checkNoRead(t, "many names that don't come", joined(numForm(n), []byte{0, 1, 1, 0}))
		checkNoRead(t, "many nodes that don't come", joined([]byte{0}, numForm(n), []byte{1, 1, 5, 0, 0}))
	}
}

func TestTreeReadWhatIsNoRightTree(t *testing.T) {
	below := func(n impl.Node) []byte {
		n.Parent = 0
		return formed(treeOf(pageNode(1), n))
	}
	for _, name := range []string{"", "P", "1", "a b", "a/", "a>", "\u00e9", "\xff", strings.Repeat("x", 61)} {
		checkNoRead(t, "an element's Name that is none", below(elementNode(name, 0)))
	}
	checkNoRead(t, "a doctype's Name that is too long", below(doctypeNode(strings.Repeat("x", 61), 0)))
	checkNoRead(t, "a text that is empty", below(textNode("", 0)))
	checkNoRead(t, "a text that is too long", below(textNode(strings.Repeat("x", 3001), 0)))
	checkNoRead(t, "a comment that is too long", below(commentNode(strings.Repeat("x", 3001), 0)))
	for _, bad := range badTexts {
		checkNoRead(t, "a bad text", below(textNode(bad, 0)))
		checkNoRead(t, "a bad comment", below(commentNode(bad, 0)))
		checkNoRead(t, "a bad doctype", below(doctypeNode(bad, 0)))
		checkNoRead(t, "a bad Name of an attribute", below(withAttrs(elementNode("p", 0), impl.Attr{Name: bad})))
		checkNoRead(t, "a bad Value", below(withAttrs(elementNode("p", 0), impl.Attr{Name: "a", Value: bad})))
	}
	element := func(attrs ...impl.Attr) []byte { return below(withAttrs(elementNode("p", 0), attrs...)) }
	checkNoRead(t, "Attrs with a name twice", element(named("a", "a")...))
	checkNoRead(t, "Attrs with a name twice", element(named("a", "b", "a")...))
	checkNoRead(t, "an empty Name of an attribute", element(impl.Attr{}))
	checkNoRead(t, "a Name of an attribute that is too long", element(named(strings.Repeat("n", 61))...))
	checkNoRead(t, "a Value that is too long", element(impl.Attr{Name: "a", Value: strings.Repeat("v", 3001)}))
	for n := range 25 {
		if _, ok := checkRead(t, element(manyAttrs(n)...)); ok != (n <= 20) {
			t.Errorf("%d Attrs are read: %v", n, ok)
		}
	}
}

// turnedBytes are all that differ in one byte, have one less, or one more.
func turnedBytes(b []byte, use func([]byte)) {
	for i := range b {
		for x := range 256 {
			turned := slices.Clone(b)
			turned[i] = byte(x)
			use(turned)
		}
		use(slices.Delete(slices.Clone(b), i, i+1))
		for _, x := range []byte{0, 1, 2, 3, 4, 5, 'p', 128, 255} {
			use(slices.Insert(slices.Clone(b), i, x))
		}
	}
}

func TestTreeReadOfOneByteTurned(t *testing.T) {
	for _, tree := range packTrees() {
		if b := formed(tree); len(b) < 120 {
			turnedBytes(b, func(turned []byte) { checkRead(t, turned) })
		}
	}
}

func TestTreeReadOfAnyFewBytes(t *testing.T) {
	few := []string{"\x00", "\x01", "\x02", "\x03", "\x04", "\x05", "\x80", "a"}
	right := 0
	for _, ahead := range []string{"", "\x00\x02\x01\x01", "\x01\x00\x02\x01\x01", "\x01\x01a\x02\x01\x01", "\x00\x03\x01", "\x02\x01a\x01b\x02\x01\x01\x03\x00"} {
		eachRow(few, 5, func(row string) {
			if _, ok := checkRead(t, []byte(ahead+row)); ok {
				right++
			}
		})
	}
	if right < 10 {
		t.Errorf("only %d rows of bytes are read", right)
	}
}

// Every tree of few nodes packs to bytes of its own.
func TestEveryTreeOfFewNodesPacks(t *testing.T) {
	makers := []func(parent int) impl.Node{
		func(parent int) impl.Node { return elementNode("p", parent) },
		func(parent int) impl.Node { return withAttrs(elementNode("b", parent), named("p", "x")...) },
		func(parent int) impl.Node { return doctypeNode("", parent) },
		func(parent int) impl.Node { return doctypeNode("x", parent) },
		func(parent int) impl.Node { return textNode("p", parent) },
		func(parent int) impl.Node { return commentNode("", parent) },
	}
	seen := map[string]string{}
	for n := range 4 {
		eachNumbers(n, -1, n-1, func(parents []int) {
			eachNumbers(n, 0, len(makers)-1, func(picks []int) {
				nodes := []impl.Node{pageNode()}
				for i, pick := range picks {
					nodes = append(nodes, makers[pick](parents[i]))
				}
				tree := linked(nodes)
				b, ok := checkPack(t, tree)
				if !ok {
					return
				}
				if other, there := seen[string(b)]; there && other != treeText(tree) {
					t.Errorf("two trees pack to %q: %s %s", b, other, treeText(tree))
				}
				seen[string(b)] = treeText(tree)
			})
		})
	}
	if len(seen) < 300 {
		t.Errorf("only %d trees pack", len(seen))
	}
}

// madeTree is a tree that steps make, with nodes of all kinds and names, in any order.
func madeTree(steps []byte) impl.Tree {
	names := []string{"p", "b", "id", "x", "class"}
	nodes := []impl.Node{pageNode()}
	for i := 0; i+3 < len(steps) && len(nodes) < 500; i += 4 {
		parent := int(steps[i]) % len(nodes)
		for nodes[parent].Kind != impl.NdPage && nodes[parent].Kind != impl.NdElement {
			parent--
		}
		name := names[int(steps[i+1])%len(names)]
		switch steps[i+2] % 6 {
		case 0:
			nodes = append(nodes, textNode(strings.Repeat(name, 1+int(steps[i+3])%140), parent))
		case 1:
			nodes = append(nodes, commentNode(strings.Repeat(name, int(steps[i+3])%3), parent))
		case 2:
			nodes = append(nodes, doctypeNode(strings.Repeat(name, int(steps[i+3])%3), parent))
		case 3:
			nodes = append(nodes, elementNode(name, parent))
		default:
			from := int(steps[i+3]) % len(names)
			nodes = append(nodes, withAttrs(elementNode(name, parent), named(names[from:]...)...))
		}
	}
	return linked(nodes)
}

func checkMade(t *testing.T, steps []byte) {
	tree := madeTree(steps)
	checkPack(t, tree)
	tidied := expectedTidy(tree)
	b, ok := checkPack(t, tidied)
	if !ok {
		return
	}
	for i := 0; i+1 < min(len(steps), 60); i += 2 {
		turned := slices.Clone(b)
		turned[(int(steps[i])*256+int(steps[i+1]))%len(b)] = steps[i] % 8
		checkRead(t, turned)
	}
}

func TestTreesThatAreMadePack(t *testing.T) {
	for seed := range uint32(40) {
		checkMade(t, manySteps(seed, 20+int(seed)*8))
	}
}

func FuzzTreePack(f *testing.F) {
	for seed := range uint32(4) {
		f.Add(manySteps(seed+200, 60))
	}
	f.Fuzz(func(t *testing.T, steps []byte) {
		checkMade(t, steps[:min(len(steps), 120)])
	})
}

func FuzzTreeRead(f *testing.F) {
	for _, tree := range packTrees() {
		if b := formed(tree); len(b) < 1000 {
			f.Add(b, 0)
		}
	}
	f.Add([]byte{255, 255, 255, 255, 255, 255, 255, 255, 127}, 0)
	f.Fuzz(func(t *testing.T, b []byte, at int) {
		checkRead(t, b)
		checkGetNum(t, b, at)
		if len(b) < 1000 {
			checkGetText(t, b, at)
		}
	})
}
