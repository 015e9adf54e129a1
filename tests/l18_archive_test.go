package tests

import (
	"bytes"
	"math"
	"slices"
	"strconv"
	"strings"
	"sync"
	"testing"

	"loop.example/g00118/impl"
)

// The codes by the numbers of the document.
const (
	arDone, arBad, arDown, arUrl, arPage, arFull, arNone, arUp = 0, 1, 2, 3, 4, 5, 6, 7
)

const lastNo = 1000000000

// archiveFits and what is expected below go by the sentences of the document.
func archiveFits(a impl.Archive) bool {
	if !diskFits(a.Disk) || len(a.Disk.Late) != 0 {
		return false
	}
	if !a.Up {
		return a.Head == head(0, 0, 0) && len(a.List) == 0
	}
	if !headFits(a.Head) || a.Head != expectedHeadNow(a.Disk) {
		return false
	}
	list, ok := countedRecords(a.Disk, a.Head)
	return ok && slices.Equal(a.List, expectedIndex(list))
}

func countedRecords(d impl.Disk, h impl.Head) ([]impl.Record, bool) {
	b, _ := expectedAreaGet(d, h.Area, 0, h.End)
	return expectedRecords(b)
}

func madeSafe(d impl.Disk) impl.Disk {
	safe, _ := expectedCrash(d, 1<<31-1)
	return safe
}

// expectedLaid is what adding and making compact have in common: the bytes, and behind them the head.
func expectedLaid(a impl.Archive, area int, at int, b []byte) (impl.Archive, int) {
	laid, ok := expectedAreaPut(a.Disk, area, at, b)
	if !ok || a.Head.No == lastNo {
		return cloneArchive(a), arFull
	}
	next := head(a.Head.No+1, area, at+len(b))
	headed, ok := expectedHeadPut(madeSafe(laid), next)
	if !ok {
		return cloneArchive(a), arFull
	}
	d := madeSafe(headed)
	list, _ := countedRecords(d, next)
	return impl.Archive{Up: true, Disk: d, Head: next, List: expectedIndex(list)}, arDone
}

// notUp tells the code that comes ahead of all others, or done.
func notUp(a impl.Archive) (impl.Archive, int) {
	switch {
	case !archiveFits(a):
		return impl.Archive{}, arBad
	case !a.Up:
		return cloneArchive(a), arDown
	}
	return cloneArchive(a), arDone
}

func bodyOf(s string) (string, bool) {
	tree, code := impl.ParsePage([]byte(s))
	if code != impl.PgWell {
		return "", false
	}
	packed, ok := expectedPack(tree)
	return string(packed), ok
}

func expectedKeep(a impl.Archive, address string, s string) (impl.Archive, int) {
	same, code := notUp(a)
	if code != arDone {
		return same, code
	}
	if !urlFits(address) {
		return same, arUrl
	}
	body, ok := bodyOf(s)
	if !ok {
		return same, arPage
	}
	return expectedLaid(a, a.Head.Area, a.Head.End, packedRecord(keeping(address, body)))
}

func expectedDrop(a impl.Archive, address string) (impl.Archive, int) {
	same, code := notUp(a)
	if code != arDone {
		return same, code
	}
	if !urlFits(address) {
		return same, arUrl
	}
	if _, kept := expectedIndexFind(a.List, address); !kept {
		return same, arNone
	}
	return expectedLaid(a, a.Head.Area, a.Head.End, packedRecord(dropping(address)))
}

func expectedArchiveGet(a impl.Archive, address string) (impl.Tree, int) {
	if _, code := notUp(a); code != arDone {
		return impl.Tree{}, code
	}
	body, kept := expectedIndexFind(a.List, address)
	if !kept {
		return impl.Tree{}, arNone
	}
	tree, ok := expectedTreeRead([]byte(body))
	if !ok {
		return impl.Tree{}, arBad
	}
	return tree, arDone
}

func expectedUrls(a impl.Archive) ([]string, int) {
	if _, code := notUp(a); code != arDone {
		return nil, code
	}
	urls := []string{}
	for _, e := range a.List {
		urls = append(urls, e.Url)
	}
	return urls, arDone
}

func expectedCompact(a impl.Archive) (impl.Archive, int) {
	same, code := notUp(a)
	if code != arDone {
		return same, code
	}
	b, _ := expectedIndexPack(a.List)
	return expectedLaid(a, []int{1, 0}[a.Head.Area], 0, b)
}

func expectedArchiveCrash(a impl.Archive) (impl.Archive, int) {
	same, code := notUp(a)
	if code != arDone {
		return same, code
	}
	return impl.Archive{Disk: same.Disk}, arDone
}

func expectedOpen(a impl.Archive) (impl.Archive, int) {
	same, code := notUp(a)
	switch code {
	case arBad:
		return same, arBad
	case arDone:
		return same, arUp
	}
	h := expectedHeadNow(a.Disk)
	list, ok := countedRecords(a.Disk, h)
	if h.No == 0 || !ok {
		return same, arNone
	}
	return impl.Archive{Up: true, Disk: same.Disk, Head: h, List: expectedIndex(list)}, arDone
}

func cloneArchive(a impl.Archive) impl.Archive {
	return impl.Archive{Up: a.Up, Disk: cloneDisk(a.Disk), Head: a.Head, List: slices.Clone(a.List)}
}

func sameArchive(a impl.Archive, b impl.Archive) bool {
	return a.Up == b.Up && sameDisk(a.Disk, b.Disk) && a.Head == b.Head && slices.Equal(a.List, b.List)
}

func archiveText(a impl.Archive) string {
	return "{up " + strconv.FormatBool(a.Up) + ", " + headText(a.Head) + ", " + entriesText(a.List) + ", " + diskText(a.Disk) + "}"
}

// guardedArchive is an archive with spare room behind each of its lists.
type guardedArchive struct {
	archive impl.Archive
	disk    guardedDisk
	list    guarded[impl.Entry]
}

func guardArchive(a impl.Archive) guardedArchive {
	disk, list := guardDisk(a.Disk), guard(a.List, fillEntry)
	a.Disk, a.List = disk.disk, list.arg
	return guardedArchive{archive: a, disk: disk, list: list}
}

func (g guardedArchive) untouched() bool {
	return g.disk.untouched() && g.list.untouched()
}

// fillArchive writes over all lists and all the room behind them, and appends to them.
func fillArchive(a impl.Archive) {
	fillDisk(a.Disk)
	overwrite(a.List, fillEntry)
	overwrite(append(a.List, fillEntry), fillEntry)
}

// checkArchiveAnswer asks for the answer, and that it is new memory, also where the archive is as it was.
func checkArchiveAnswer(t *testing.T, name string, in impl.Archive, want impl.Archive, wantCode int, call func(impl.Archive) (impl.Archive, int)) {
	t.Helper()
	g := guardArchive(in)
	got, code := call(g.archive)
	if code != wantCode || !sameArchive(got, want) {
		t.Fatalf("%s of %s\n got  %s, %d\n want %s, %d", name, archiveText(in), archiveText(got), code, archiveText(want), wantCode)
	}
	if code != arBad && !impl.ArchiveOk(got) {
		t.Fatalf("%s of %s: the answer is not right: %s", name, archiveText(in), archiveText(got))
	}
	if !g.untouched() {
		t.Fatalf("%s of %s wrote into the archive, or behind it", name, archiveText(in))
	}
	second, _ := call(g.archive)
	fillArchive(got)
	if !g.untouched() || !sameArchive(second, want) {
		t.Fatalf("%s of %s: what is answered shares memory with the archive or with another answer", name, archiveText(in))
	}
	fillArchive(g.archive)
	if !sameArchive(second, want) {
		t.Fatalf("%s of %s: a later change of the archive is seen in the answer", name, archiveText(in))
	}
	checkListsApart(t, name, second.Disk)
}

func checkArchiveOk(t *testing.T, what string, a impl.Archive, want bool) {
	t.Helper()
	g := guardArchive(a)
	if got := impl.ArchiveOk(g.archive); got != want {
		t.Errorf("%s: ArchiveOk of %s = %v", what, archiveText(a), got)
	}
	if archiveFits(a) != want {
		t.Errorf("%s: the tests' own rule holds %s to be %v", what, archiveText(a), !want)
	}
	if !g.untouched() {
		t.Errorf("%s: ArchiveOk wrote into %s", what, archiveText(a))
	}
}

func checkKeep(t *testing.T, a impl.Archive, address string, s string) (impl.Archive, int) {
	t.Helper()
	want, code := expectedKeep(a, address, s)
	name := "ArchiveKeep of " + short(address) + " with " + short(s)
	g := guard([]byte(s), 77)
	checkArchiveAnswer(t, name, a, want, code, func(a impl.Archive) (impl.Archive, int) { return impl.ArchiveKeep(a, address, g.arg) })
	if !g.untouched() {
		t.Fatalf("%s wrote into the page, or behind it", name)
	}
	got, _ := impl.ArchiveKeep(a, address, g.arg)
	overwrite(g.arg, 78)
	if !sameArchive(got, want) {
		t.Fatalf("%s: a later change of the page is seen in the archive", name)
	}
	return want, code
}

func checkDrop(t *testing.T, a impl.Archive, address string) (impl.Archive, int) {
	t.Helper()
	want, code := expectedDrop(a, address)
	checkArchiveAnswer(t, "ArchiveDrop of "+short(address), a, want, code, func(a impl.Archive) (impl.Archive, int) { return impl.ArchiveDrop(a, address) })
	return want, code
}

func checkCompact(t *testing.T, a impl.Archive) (impl.Archive, int) {
	t.Helper()
	want, code := expectedCompact(a)
	checkArchiveAnswer(t, "ArchiveCompact", a, want, code, impl.ArchiveCompact)
	return want, code
}

func checkArchiveCrash(t *testing.T, a impl.Archive) (impl.Archive, int) {
	t.Helper()
	want, code := expectedArchiveCrash(a)
	checkArchiveAnswer(t, "ArchiveCrash", a, want, code, impl.ArchiveCrash)
	return want, code
}

func checkOpen(t *testing.T, a impl.Archive) (impl.Archive, int) {
	t.Helper()
	want, code := expectedOpen(a)
	checkArchiveAnswer(t, "ArchiveOpen", a, want, code, impl.ArchiveOpen)
	return want, code
}

func checkArchiveGet(t *testing.T, a impl.Archive, address string) (impl.Tree, int) {
	t.Helper()
	want, wantCode := expectedArchiveGet(a, address)
	g := guardArchive(a)
	got, code := impl.ArchiveGet(g.archive, address)
	if code != wantCode || !sameTree(got, want) {
		t.Fatalf("ArchiveGet of %s of %s\n got  %s, %d\n want %s, %d", short(address), archiveText(a), treeText(got), code, treeText(want), wantCode)
	}
	second, _ := impl.ArchiveGet(g.archive, address)
	if fillTree(got) || !sameTree(second, want) {
		t.Fatalf("ArchiveGet of %s: lists of one answer, or two answers, share memory", short(address))
	}
	if !g.untouched() {
		t.Fatalf("ArchiveGet of %s turns the archive", short(address))
	}
	return want, wantCode
}

func checkUrls(t *testing.T, a impl.Archive) ([]string, int) {
	t.Helper()
	want, wantCode := expectedUrls(a)
	g := guardArchive(a)
	got, code := impl.ArchiveUrls(g.archive)
	if code != wantCode || !slices.Equal(got, want) {
		t.Fatalf("ArchiveUrls of %s = %q, %d; want %q, %d", archiveText(a), got, code, want, wantCode)
	}
	second, _ := impl.ArchiveUrls(g.archive)
	overwrite(got, "over")
	overwrite(append(got, "behind"), "behind")
	if !g.untouched() || !slices.Equal(second, want) {
		t.Fatal("ArchiveUrls shares memory with the archive or with another answer")
	}
	return want, wantCode
}

// checkGot goes by promise 18: what is got is the tree of the page that was kept last.
func checkGot(t *testing.T, a impl.Archive, address string, s string) {
	t.Helper()
	want, _ := impl.ParsePage([]byte(s))
	if got, code := checkArchiveGet(t, a, address); code != arDone || !sameTree(got, want) {
		t.Fatalf("ArchiveGet of %s = %s, %d; kept was %s", short(address), treeText(got), code, short(s))
	}
}

func checkNotGot(t *testing.T, a impl.Archive, address string, want int) {
	t.Helper()
	if got, code := checkArchiveGet(t, a, address); code != want || len(got.Nodes) != 0 {
		t.Fatalf("ArchiveGet of %s = %s, %d; want %d", short(address), treeText(got), code, want)
	}
}

func checkHasJust(t *testing.T, a impl.Archive, pages map[string]string) {
	t.Helper()
	urls := []string{}
	for address, s := range pages {
		checkGot(t, a, address, s)
		urls = append(urls, address)
	}
	slices.Sort(urls)
	if got, code := checkUrls(t, a); code != arDone || !slices.Equal(got, urls) {
		t.Fatalf("ArchiveUrls = %q, %d; want %q", got, code, urls)
	}
}

// mustDo takes an answer of the checks above, and asks that it was done.
func mustDo(t *testing.T, a impl.Archive, code int) impl.Archive {
	t.Helper()
	if code != arDone {
		t.Fatalf("code %d of %s", code, archiveText(a))
	}
	return a
}

func withKept(t *testing.T, a impl.Archive, address string, s string) impl.Archive {
	t.Helper()
	a, code := checkKeep(t, a, address, s)
	return mustDo(t, a, code)
}

func withDropped(t *testing.T, a impl.Archive, address string) impl.Archive {
	t.Helper()
	a, code := checkDrop(t, a, address)
	return mustDo(t, a, code)
}

func madeCompact(t *testing.T, a impl.Archive) impl.Archive {
	t.Helper()
	a, code := checkCompact(t, a)
	return mustDo(t, a, code)
}

func takenDown(t *testing.T, a impl.Archive) impl.Archive {
	t.Helper()
	a, code := checkArchiveCrash(t, a)
	return mustDo(t, a, code)
}

func openedAgain(t *testing.T, a impl.Archive) impl.Archive {
	t.Helper()
	a, code := checkOpen(t, a)
	return mustDo(t, a, code)
}

// diskOf has the bytes in the area of the head, and the head in its sector; all other bytes are 0.
func diskOf(h impl.Head, b []byte) impl.Disk {
	d, _ := expectedAreaPut(impl.DiskNew(), h.Area, 0, b)
	d, _ = expectedDiskPut(d, h.No%2, headSector(h))
	return madeSafe(d)
}

// archiveOf is up, and has the records with that No and Area.
func archiveOf(no int, area int, records ...impl.Record) impl.Archive {
	b := packedRecords(records...)
	h := head(no, area, len(b))
	return impl.Archive{Up: true, Disk: diskOf(h, b), Head: h, List: expectedIndex(records)}
}

// recordsOfSize are of that many bytes in all, at least 6: drops of addresses that are not kept, the last two of which
// make it even.
func recordsOfSize(size int) []impl.Record {
	list := []impl.Record{}
	for ; size > 100; size -= 50 {
		list = append(list, dropping(strings.Repeat("f", 48)))
	}
	first := size / 2
	return append(list, dropping(strings.Repeat("g", first-2)), dropping(strings.Repeat("g", size-first-2)))
}

// filledTo has just that many bytes that count, in which the other records stand first.
func filledTo(no int, area int, size int, records ...impl.Record) impl.Archive {
	more := recordsOfSize(size - len(packedRecords(records...)))
	return archiveOf(no, area, joined(records, more)...)
}

func downOf(a impl.Archive) impl.Archive {
	return impl.Archive{Disk: cloneDisk(a.Disk)}
}

// downOn is not up, and has that disk.
func downOn(d impl.Disk) impl.Archive {
	return impl.Archive{Disk: d}
}

// twoKept has b and a, and something that was dropped and kept over.
func twoKept() impl.Archive {
	one, _ := bodyOf("<p>x")
	two, _ := bodyOf("y")
	return archiveOf(9, 0, keeping("b", two), keeping("c", two), keeping("b", one), dropping("c"), keeping("a", two))
}

func somePages() []string {
	return []string{
		"", "x", "<p>x", "<title>A &amp; B</title><p><b>1<p>2</b>3 <a href=x>y", "\xff\xfe", "<!doctype html><!--c--><html id=1><body>\r\n",
		"<ul><li>1<li>2</ul>", "<script>if (a < b) {}</script>", "<b><i>x</b>y</i>", "</p>", strings.Repeat("long ", 60), "<x y=1 z=\"2\">",
	}
}

func tooDeep() string { return strings.Repeat("<div>", 39) }

func tooLarge() string { return strings.Repeat("<br>", 497) }

func tooLong() string { return strings.Repeat("x", 3001) }

// tooMuchToPack is read well, but its tree has more than MaxPacked bytes.
func tooMuchToPack() string {
	return "<p><b t=" + strings.Repeat("v", 200) + "></p>" + strings.Repeat("<p>x</p>", 100)
}

func wrongPages() []string {
	return []string{tooLong(), tooLong() + "x", tooDeep(), tooLarge(), tooMuchToPack(), strings.Repeat("\xff", 3001), strings.Repeat("<b>", 1000), strings.Repeat("x", 100000)}
}

// badArchives are each wrong in one way.
func badArchives() map[string]impl.Archive {
	turned := func(turn func(a *impl.Archive)) impl.Archive {
		a := twoKept()
		turn(&a)
		return a
	}
	all := map[string]impl.Archive{
		"zero":                           {},
		"up alone":                       {Up: true},
		"up on a new disk":               {Up: true, Disk: impl.DiskNew()},
		"up on a disk without a head":    {Up: true, Disk: impl.DiskNew(), Head: head(1, 0, 0)},
		"something late":                 turned(func(a *impl.Archive) { a.Disk.Late = putsTo(100) }),
		"late as it is":                  turned(func(a *impl.Archive) { a.Disk.Late = []impl.Put{put(100, a.Disk.Safe[100])} }),
		"a head that is late":            turned(func(a *impl.Archive) { a.Disk.Late = []impl.Put{put(1, headSector(a.Head))} }),
		"not up, something late":         {Disk: diskWith(putsTo(3)...)},
		"not up, as if up":               turned(func(a *impl.Archive) { a.Up = false }),
		"not up, with a head":            turned(func(a *impl.Archive) { a.Up, a.List = false, nil }),
		"not up, with a list":            turned(func(a *impl.Archive) { a.Up, a.Head = false, impl.Head{} }),
		"not up, with a No":              {Disk: impl.DiskNew(), Head: head(1, 0, 0)},
		"not up, with an Area":           {Disk: impl.DiskNew(), Head: head(0, 1, 0)},
		"not up, with an End":            {Disk: impl.DiskNew(), Head: head(0, 0, 1)},
		"not up, with an entry":          {Disk: impl.DiskNew(), List: []impl.Entry{entry("a", "x")}},
		"not up, with a zero entry":      {Disk: impl.DiskNew(), List: []impl.Entry{{}}},
		"a No that is one more":          turned(func(a *impl.Archive) { a.Head.No++ }),
		"a No that is one less":          turned(func(a *impl.Archive) { a.Head.No-- }),
		"another Area":                   turned(func(a *impl.Archive) { a.Head.Area = 1 }),
		"an End that is one more":        turned(func(a *impl.Archive) { a.Head.End++ }),
		"an End that is one less":        turned(func(a *impl.Archive) { a.Head.End-- }),
		"no End":                         turned(func(a *impl.Archive) { a.Head.End = 0 }),
		"no head at all":                 turned(func(a *impl.Archive) { a.Head = impl.Head{} }),
		"one entry less":                 turned(func(a *impl.Archive) { a.List = a.List[:1] }),
		"the first entry less":           turned(func(a *impl.Archive) { a.List = a.List[1:] }),
		"no entries":                     turned(func(a *impl.Archive) { a.List = nil }),
		"one entry more":                 turned(func(a *impl.Archive) { a.List = append(a.List, entry("d", "")) }),
		"an entry twice":                 turned(func(a *impl.Archive) { a.List = append(a.List, a.List[1]) }),
		"what was dropped":               turned(func(a *impl.Archive) { a.List = append(a.List, entry("c", a.List[0].Body)) }),
		"another order":                  turned(func(a *impl.Archive) { slices.Reverse(a.List) }),
		"another Body":                   turned(func(a *impl.Archive) { a.List[0].Body += "x" }),
		"a Body that was kept over":      turned(func(a *impl.Archive) { a.List[1].Body = a.List[0].Body }),
		"an empty Body":                  turned(func(a *impl.Archive) { a.List[1].Body = "" }),
		"another Url":                    turned(func(a *impl.Archive) { a.List[0].Url = "A" }),
		"an index too large for an area": turned(func(a *impl.Archive) { a.List[0].Body = strings.Repeat("x", 4096) }),
	}
	addWrongDisks(all)
	addWrongHeads(all)
	addWrongBytes(all)
	return all
}

func addWrongDisks(all map[string]impl.Archive) {
	for what, d := range wrongDisks() {
		all["not up, disk: "+what] = downOn(d)
		all["up, disk: "+what] = impl.Archive{Up: true, Disk: d, Head: head(1, 0, 0)}
	}
	short := twoKept()
	short.Disk.Safe = short.Disk.Safe[:129]
	all["a right one with a sector less"] = short
	long := twoKept()
	long.Disk.Safe = append(long.Disk.Safe, sectorOfOne(0))
	all["a right one with a sector more"] = long
}

func addWrongHeads(all map[string]impl.Archive) {
	for _, h := range wrongHeads() {
		a := twoKept()
		a.Head = h
		all["head "+headText(h)] = a
	}
	for _, h := range []impl.Head{head(3, 2, 0), head(3, 0, 4097), head(1000000001, 0, 0), head(0, 0, 0)} {
		d := impl.DiskNew()
		d.Safe[h.No%2] = paddedForms(numForm(h.No), numForm(h.Area), numForm(h.End))
		all["a wrong head that is on the disk: "+headText(h)] = impl.Archive{Up: true, Disk: d, Head: h}
	}
	for _, at := range []int{0, 1} {
		newer := twoKept()
		newer.Disk.Safe[at] = headSector(head(10, 0, newer.Head.End))
		all["a newer head in "+strconv.Itoa(at)] = newer
	}
	older := twoKept()
	older.Disk.Safe[0] = headSector(head(8, 0, 0))
	older.Head, older.List = head(8, 0, 0), nil
	all["an older head that is on the disk"] = older
}

// noRecords are bytes that are not records as a whole.
func noRecords() []string {
	return []string{"\x00", "\x01", "\x03\x01u\x00", "\x01\x01u\x02x", "\x02\x01 ", "\x02\x01v\x00", "\x01\x01u\x80\x00", "\x02\x81\x00v", "\x01\x01a\x01x\x00", strings.Repeat("\x00", 4096), strings.Repeat("\xff", 4096)}
}

func addWrongBytes(all map[string]impl.Archive) {
	for _, b := range noRecords() {
		for area := range 2 {
			h := head(5, area, len(b))
			name := "bytes " + short(b) + " in area " + strconv.Itoa(area)
			all[name] = impl.Archive{Up: true, Disk: diskOf(h, []byte(b)), Head: h}
			all[name+" with an entry"] = impl.Archive{Up: true, Disk: diskOf(h, []byte(b)), Head: h, List: []impl.Entry{entry("u", "x")}}
		}
	}
	cut := twoKept()
	h := head(cut.Head.No, cut.Head.Area, cut.Head.End-1)
	cut.Disk.Safe[h.No%2], cut.Head = headSector(h), h
	all["the last record is cut"] = cut
}

// rightArchives are of many kinds.
func rightArchives() map[string]impl.Archive {
	body, _ := bodyOf("<p>x")
	all := map[string]impl.Archive{
		"new":                          impl.ArchiveNew(),
		"two kept":                     twoKept(),
		"all dropped":                  archiveOf(6, 1, keeping("a", body), dropping("a")),
		"in area 1":                    archiveOf(4, 1, keeping("a", body), keeping("b", "")),
		"no tree":                      archiveOf(2, 0, keeping("a", "no tree"), keeping("z", body)),
		"full":                         filledTo(7, 0, 4096, keeping("a", body)),
		"full, in area 1":              filledTo(7, 1, 4096, keeping("a", body)),
		"the last No":                  archiveOf(lastNo, 0, keeping("a", body)),
		"the last No but one":          archiveOf(lastNo-1, 1, keeping("a", body)),
		"the last No, full":            filledTo(lastNo, 1, 4096, keeping("a", body)),
		"the first No, many":           archiveOf(1, 0, keeping("~", body), keeping("!", body), keeping("B", body), keeping("a", body), keeping("Ba", body)),
		"a No that was never put":      archiveOf(127, 0),
		"a drop of what was never put": archiveOf(3, 1, dropping("u")),
	}
	other := twoKept()
	other.Disk.Safe[0], other.Disk.Safe[1] = other.Disk.Safe[1], headSector(head(9, 1, 77))
	all["heads in the sectors of each other, one No"] = other
	noise := twoKept()
	copy(noise.Disk.Safe[40:], markedSafe()[40:])
	noise.Disk.Safe[0] = sectorOfOne(255)
	all["other bytes where none count"] = noise
	for _, what := range []string{"new", "two kept", "full", "in area 1"} {
		all[what+", not up"] = downOf(all[what])
	}
	all["not up, a new disk"] = downOn(impl.DiskNew())
	all["not up, other bytes"] = downOn(diskWith())
	all["not up, no records"] = downOn(diskOf(head(3, 0, 5), []byte("other")))
	return all
}

func TestArchiveCodes(t *testing.T) {
	codes := []int{impl.ArDone, impl.ArBad, impl.ArDown, impl.ArUrl, impl.ArPage, impl.ArFull, impl.ArNone, impl.ArUp}
	if !slices.Equal(codes, []int{0, 1, 2, 3, 4, 5, 6, 7}) {
		t.Error(codes)
	}
}

func TestArchiveNew(t *testing.T) {
	a := impl.ArchiveNew()
	want := impl.DiskNew()
	want.Safe[1] = "\x01" + strings.Repeat("\x00", 63)
	if !a.Up || a.Head != head(1, 0, 0) || len(a.List) != 0 || !sameDisk(a.Disk, want) {
		t.Fatal(archiveText(a))
	}
	checkArchiveOk(t, "a new one", a, true)
	checkHasJust(t, a, map[string]string{})
	second := impl.ArchiveNew()
	fillArchive(a)
	if !sameDisk(second.Disk, want) || len(second.List) != 0 || !sameArchive(second, impl.ArchiveNew()) {
		t.Error("two answers share memory")
	}
}

func TestArchiveOk(t *testing.T) {
	for what, a := range rightArchives() {
		checkArchiveOk(t, what, a, true)
		if len(a.List) == 0 {
			a.List = []impl.Entry{}
			checkArchiveOk(t, what+", with an empty list", a, true)
			a.List = nil
			checkArchiveOk(t, what+", without a list", a, true)
		}
	}
	for what, a := range badArchives() {
		checkArchiveOk(t, what, a, false)
	}
}

func TestArchiveOkOfEachPlaceInTheList(t *testing.T) {
	records := []impl.Record{}
	for i := range 20 {
		records = append(records, keeping("u"+strconv.Itoa(10+i), strconv.Itoa(i)))
	}
	right := archiveOf(3, 1, records...)
	checkArchiveOk(t, "20 entries", right, true)
	for at := range 20 {
		a := cloneArchive(right)
		a.List[at].Body += "\x00"
		checkArchiveOk(t, "another Body", a, false)
		a = cloneArchive(right)
		a.List[at].Url += "!"
		checkArchiveOk(t, "another Url", a, false)
		a = cloneArchive(right)
		a.List = slices.Delete(a.List, at, at+1)
		checkArchiveOk(t, "one less", a, false)
		a = cloneArchive(right)
		a.List = slices.Insert(a.List, at, entry("u", ""))
		checkArchiveOk(t, "one more", a, false)
		if at > 0 {
			a = cloneArchive(right)
			a.List[at], a.List[at-1] = a.List[at-1], a.List[at]
			checkArchiveOk(t, "another order", a, false)
		}
	}
}

// A byte that counts may be turned, so that there are other records, none, or another head; another byte may not matter.
func TestArchiveOkOfTurnedBytes(t *testing.T) {
	right := archiveOf(300, 1, keeping("b", "xy"), keeping("a", "z"), dropping("b"))
	for _, at := range []int{0, 1, 2, 3, 65, 66, 67, 129} {
		for i := range 64 {
			for _, b := range []byte{0, 1, 2, 3, 'a', 'b', 127, 128, 255} {
				a := cloneArchive(right)
				turned := []byte(a.Disk.Safe[at])
				turned[i] = b
				a.Disk.Safe[at] = string(turned)
				checkArchiveOk(t, "a turned byte", a, archiveFits(a))
				checkArchiveOk(t, "a turned byte, not up", downOf(a), true)
				if i < 10 {
					checkOpen(t, downOf(a))
				}
			}
		}
	}
}

func TestBadArchivesAreRefused(t *testing.T) {
	for what, a := range badArchives() {
		for _, address := range []string{"a", "q", "", "a b"} {
			if got, code := checkKeep(t, a, address, "x"); code != arBad || !sameArchive(got, impl.Archive{}) {
				t.Errorf("%s: keep = %d", what, code)
			}
			if got, code := checkDrop(t, a, address); code != arBad || !sameArchive(got, impl.Archive{}) {
				t.Errorf("%s: drop = %d", what, code)
			}
			checkNotGot(t, a, address, arBad)
		}
		if _, code := checkKeep(t, a, "", tooDeep()); code != arBad {
			t.Errorf("%s: keep of what is wrong = %d", what, code)
		}
		if got, code := checkUrls(t, a); code != arBad || len(got) != 0 {
			t.Errorf("%s: urls = %q, %d", what, got, code)
		}
		for name, call := range map[string]func(*testing.T, impl.Archive) (impl.Archive, int){"compact": checkCompact, "crash": checkArchiveCrash, "open": checkOpen} {
			if got, code := call(t, a); code != arBad || !sameArchive(got, impl.Archive{}) {
				t.Errorf("%s: %s = %s, %d", what, name, archiveText(got), code)
			}
		}
	}
}

// firstOf is the first code that is not done.
func firstOf(codes ...int) int {
	for _, code := range codes {
		if code != arDone {
			return code
		}
	}
	return arDone
}

func codeIf(applies bool, code int) int {
	if applies {
		return code
	}
	return arDone
}

// TestWhichCodeComesFirst goes over all reasons together: the archive, the address, the page and the room.
func TestWhichCodeComesFirst(t *testing.T) {
	late := twoKept()
	late.Disk.Late = putsTo(100)
	body, _ := bodyOf("x")
	for _, s := range []struct {
		archive      impl.Archive
		first, later int
	}{
		{impl.Archive{}, arBad, arDone}, {late, arBad, arDone}, {downOf(twoKept()), arDown, arDone}, {downOn(impl.DiskNew()), arDown, arDone},
		{downOf(filledTo(7, 0, 4096, keeping("a", body))), arDown, arFull},
		{twoKept(), arDone, arDone}, {filledTo(7, 0, 4096, keeping("a", body)), arDone, arFull}, {filledTo(7, 1, 4096, keeping("a", body)), arDone, arFull},
		{archiveOf(lastNo, 1, keeping("a", body)), arDone, arFull}, {filledTo(lastNo, 0, 4096, keeping("a", body)), arDone, arFull},
	} {
		for _, address := range []string{"a", "q", "", "a b", strings.Repeat("u", 61), "\x7f", longestUrl()} {
			ofUrl := codeIf(!urlFits(address), arUrl)
			for _, x := range []string{"", "x", tooLong(), tooDeep(), tooLarge(), tooMuchToPack()} {
				want := firstOf(s.first, ofUrl, codeIf(len(x) > 1, arPage), s.later)
				if got, code := checkKeep(t, s.archive, address, x); code != want || code != arDone && code != arBad && !sameArchive(got, s.archive) {
					t.Errorf("keep of %s with %s = %d, want %d", short(address), short(x), code, want)
				}
			}
			want := firstOf(s.first, ofUrl, codeIf(address != "a", arNone), s.later)
			if got, code := checkDrop(t, s.archive, address); code != want || code != arDone && code != arBad && !sameArchive(got, s.archive) {
				t.Errorf("drop of %s = %d, want %d", short(address), code, want)
			}
			checkArchiveGet(t, s.archive, address)
			if want := firstOf(s.first, codeIf(address != "a", arNone)); want != arDone {
				checkNotGot(t, s.archive, address, want)
			}
		}
	}
}

func TestArchiveKeep(t *testing.T) {
	a := impl.ArchiveNew()
	pages := map[string]string{}
	for i, s := range somePages() {
		address := rightUrls()[i]
		before := a
		a = withKept(t, a, address, s)
		pages[address] = s
		body, _ := bodyOf(s)
		size := len(packedRecord(keeping(address, body)))
		if a.Head != head(before.Head.No+1, 0, before.Head.End+size) || len(a.List) != len(pages) {
			t.Errorf("keep of %s: %s, %d entries", short(s), headText(a.Head), len(a.List))
		}
		checkHasJust(t, a, pages)
	}
	for i, s := range somePages() {
		address := rightUrls()[(i*5+3)%len(somePages())]
		a = withKept(t, a, address, s)
		pages[address] = s
		checkHasJust(t, a, pages)
	}
}

func TestArchiveKeepToldBytes(t *testing.T) {
	a := withKept(t, impl.ArchiveNew(), "u", "")
	// html, head and body below the page.
	tree := "\x03\x04html\x04head\x04body\x04" + "\x01\x01" + "\x03\x02\x00\x00" + "\x03\x00\x01\x00" + "\x03\x00\x02\x00"
	record := "\x01\x01u" + string([]byte{byte(len(tree))}) + tree
	want := impl.DiskNew()
	want.Safe[1] = "\x01" + strings.Repeat("\x00", 63)
	want.Safe[0] = "\x02\x00" + string([]byte{byte(len(record))}) + strings.Repeat("\x00", 61)
	want.Safe[2] = record + strings.Repeat("\x00", 64-len(record))
	if !sameDisk(a.Disk, want) || a.Head != head(2, 0, len(record)) || !slices.Equal(a.List, []impl.Entry{entry("u", tree)}) {
		t.Error(archiveText(a))
	}
	a = withDropped(t, a, "u")
	want.Safe[1] = "\x03\x00" + string([]byte{byte(len(record) + 3)}) + strings.Repeat("\x00", 61)
	want.Safe[2] = record + "\x02\x01u" + strings.Repeat("\x00", 61-len(record))
	if !sameDisk(a.Disk, want) || a.Head != head(3, 0, len(record)+3) || len(a.List) != 0 {
		t.Error(archiveText(a))
	}
	a = madeCompact(t, a)
	want.Safe[0] = "\x04\x01\x00" + strings.Repeat("\x00", 61)
	if !sameDisk(a.Disk, want) || a.Head != head(4, 1, 0) || len(a.List) != 0 {
		t.Error(archiveText(a))
	}
}

func TestArchiveKeepsWhatWasKeptLast(t *testing.T) {
	a := withKept(t, impl.ArchiveNew(), "u", "first")
	a = withKept(t, a, "u", "<p>second")
	checkHasJust(t, a, map[string]string{"u": "<p>second"})
	a = withKept(t, a, "u", "")
	checkHasJust(t, a, map[string]string{"u": ""})
	a = withKept(t, a, "u", "")
	checkHasJust(t, a, map[string]string{"u": ""})
	a = withDropped(t, a, "u")
	checkHasJust(t, a, map[string]string{})
	a = withKept(t, a, "u", "third")
	a = withKept(t, a, "U", "another")
	checkHasJust(t, a, map[string]string{"u": "third", "U": "another"})
	a = withKept(t, withDropped(t, a, "u"), "u", "first")
	checkHasJust(t, a, map[string]string{"u": "first", "U": "another"})
}

func TestArchiveKeepPages(t *testing.T) {
	longest := strings.Repeat("x", 3000)
	checkGot(t, withKept(t, impl.ArchiveNew(), "u", longest), "u", longest)
	checkGot(t, withKept(t, impl.ArchiveNew(), "u", tooDeep()[5:]), "u", tooDeep()[5:])
	for _, s := range wrongPages() {
		for _, a := range []impl.Archive{impl.ArchiveNew(), twoKept()} {
			if same, code := checkKeep(t, a, "a", s); code != arPage || !sameArchive(same, a) {
				t.Errorf("a page of %d bytes: %d", len(s), code)
			}
		}
	}
	if got, code := impl.ArchiveKeep(impl.ArchiveNew(), "u", nil); code != arDone || len(got.List) != 1 {
		t.Error("no page at all:", code)
	}
	// It is read well and packs, but no area has room for its bytes: each byte of the page is three of the stand-in.
	for size, want := range map[int]int{500: arDone, 1300: arDone, 1400: arFull, 3000: arPage} {
		s := strings.Repeat("\xff", min(size, 1000)) + "<p>" + strings.Repeat("\xff", max(size-1000, 0))
		if size == 3000 {
			s = strings.Repeat("\xff", 3000)
		}
		if _, code := checkKeep(t, impl.ArchiveNew(), "u", s); code != want {
			t.Errorf("%d stand-ins: %d, want %d", size, code, want)
		}
	}
}

func TestArchiveKeepAddresses(t *testing.T) {
	for _, address := range rightUrls() {
		a := withKept(t, twoKept(), address, "x")
		checkGot(t, a, address, "x")
		checkNotGot(t, withDropped(t, a, address), address, arNone)
	}
	for _, address := range wrongUrls() {
		for _, a := range []impl.Archive{impl.ArchiveNew(), twoKept()} {
			if same, code := checkKeep(t, a, address, "x"); code != arUrl || !sameArchive(same, a) {
				t.Errorf("keep of %s: %d", short(address), code)
			}
			if same, code := checkDrop(t, a, address); code != arUrl || !sameArchive(same, a) {
				t.Errorf("drop of %s: %d", short(address), code)
			}
			checkNotGot(t, a, address, arNone)
		}
	}
}

// TestArchiveFull fills an area to its last byte, and by one byte more.
func TestArchiveFull(t *testing.T) {
	for _, s := range []string{"", "x", "<p>x", strings.Repeat("long ", 60), strings.Repeat("x", 3000)} {
		body, _ := bodyOf(s)
		size := len(packedRecord(keeping("u", body)))
		for area := range 2 {
			for _, no := range []int{1, 2, 255} {
				for _, room := range []int{size, size + 10, size + 64} {
					a := withKept(t, filledTo(no, area, 4096-room), "u", s)
					if a.Head != head(no+1, area, 4096-room+size) {
						t.Errorf("room for %d: %s", room, headText(a.Head))
					}
					checkGot(t, a, "u", s)
				}
				for _, room := range []int{size - 1, size - 2, size / 2, 4, 0} {
					a := filledTo(no, area, 4096-room)
					if same, code := checkKeep(t, a, "u", s); code != arFull || !sameArchive(same, a) {
						t.Errorf("room for %d: %d", room, code)
					}
				}
			}
		}
	}
}

func TestArchiveDropFull(t *testing.T) {
	for _, address := range []string{"u", "long", longestUrl()} {
		size := 2 + len(address)
		for area := range 2 {
			for no := 8; no < 10; no++ {
				a := filledTo(no, area, 4096-size, keeping(address, "x"))
				a = withDropped(t, a, address)
				if a.Head != head(no+1, area, 4096) || len(a.List) != 0 {
					t.Errorf("a drop to the last byte: %s", headText(a.Head))
				}
				for _, room := range []int{size - 1, size - 2, 0} {
					a := filledTo(no, area, 4096-room, keeping(address, "x"))
					if same, code := checkDrop(t, a, address); code != arFull || !sameArchive(same, a) {
						t.Errorf("room for %d of %d bytes: %d", room, size, code)
					}
					checkDrop(t, madeCompact(t, a), address)
				}
			}
		}
	}
}

func TestArchiveLastNo(t *testing.T) {
	body, _ := bodyOf("x")
	for area := range 2 {
		for no := lastNo - 3; no < lastNo; no++ {
			a := archiveOf(no, area, keeping("a", body))
			for _, next := range []impl.Archive{withKept(t, a, "b", "y"), withDropped(t, a, "a"), madeCompact(t, a)} {
				if next.Head.No != no+1 {
					t.Errorf("behind %d: %s", no, headText(next.Head))
				}
			}
		}
		a := archiveOf(lastNo, area, keeping("a", body))
		if same, code := checkKeep(t, a, "b", "y"); code != arFull || !sameArchive(same, a) {
			t.Error("keep:", code)
		}
		if same, code := checkDrop(t, a, "a"); code != arFull || !sameArchive(same, a) {
			t.Error("drop:", code)
		}
		if same, code := checkCompact(t, a); code != arFull || !sameArchive(same, a) {
			t.Error("compact:", code)
		}
		checkHasJust(t, a, map[string]string{"a": "x"})
		checkHasJust(t, openedAgain(t, takenDown(t, a)), map[string]string{"a": "x"})
	}
}

func TestArchiveDrop(t *testing.T) {
	a := twoKept()
	for _, address := range []string{"c", "q", "A", "aa", "B", longestUrl()} {
		if same, code := checkDrop(t, a, address); code != arNone || !sameArchive(same, a) {
			t.Errorf("drop of %s: %d", address, code)
		}
	}
	less := withDropped(t, a, "b")
	if less.Head != head(10, 0, a.Head.End+3) {
		t.Error(headText(less.Head))
	}
	checkHasJust(t, less, map[string]string{"a": "y"})
	if same, code := checkDrop(t, less, "b"); code != arNone || !sameArchive(same, less) {
		t.Error("a second drop:", code)
	}
	checkHasJust(t, withDropped(t, less, "a"), map[string]string{})
	checkHasJust(t, withKept(t, less, "b", "new"), map[string]string{"a": "y", "b": "new"})
	if _, code := checkDrop(t, impl.ArchiveNew(), "u"); code != arNone {
		t.Error("of a new one:", code)
	}
}

func TestArchiveGet(t *testing.T) {
	a := twoKept()
	checkGot(t, a, "a", "y")
	checkGot(t, a, "b", "<p>x")
	for _, address := range joined([]string{"c", "q", "A", "ab", " a", "a "}, wrongUrls()) {
		checkNotGot(t, a, address, arNone)
		checkNotGot(t, impl.ArchiveNew(), address, arNone)
		checkNotGot(t, downOf(a), address, arDown)
	}
	checkNotGot(t, downOf(a), "a", arDown)
}

func TestArchiveGetOfWhatIsNoTree(t *testing.T) {
	body, _ := bodyOf("x")
	for _, wrong := range []string{"", "x", "\x00", body + "\x00", body[:len(body)-1], body[1:], body + body, "\x00\x01\x02\x00", everyByte(), strings.Repeat("\xff", 2000)} {
		a := archiveOf(3, 0, keeping("a", wrong), keeping("b", body))
		checkNotGot(t, a, "a", arBad)
		checkGot(t, a, "b", "x")
		checkNotGot(t, a, "c", arNone)
		checkNotGot(t, downOf(a), "a", arDown)
		again := madeCompact(t, a)
		checkNotGot(t, again, "a", arBad)
		checkGot(t, withKept(t, again, "a", "y"), "a", "y")
		checkNotGot(t, withDropped(t, again, "a"), "a", arNone)
	}
	bare := "\x00\x01\x01\x00"
	a := archiveOf(3, 0, keeping("a", bare), keeping("b", "other"), keeping("b", bare), keeping("c", bare), keeping("c", "no tree"))
	for address, want := range map[string]int{"a": arDone, "b": arDone, "c": arBad} {
		tree, code := checkArchiveGet(t, a, address)
		if code != want || code == arDone && !sameTree(tree, impl.TreeNew()) {
			t.Errorf("get of %s = %s, %d", address, treeText(tree), code)
		}
	}
}

func TestArchiveUrls(t *testing.T) {
	for what, a := range rightArchives() {
		urls, code := checkUrls(t, a)
		if a.Up != (code == arDone) || len(urls) != len(a.List) {
			t.Errorf("%s: %q, %d", what, urls, code)
		}
	}
	a, want := impl.ArchiveNew(), []string{}
	for _, address := range ascending() {
		if urlFits(address) {
			want = append(want, address)
		}
	}
	for i := range want {
		a = withKept(t, a, want[(i*7+3)%len(want)], "")
	}
	if urls, code := checkUrls(t, a); code != arDone || !slices.Equal(urls, want) {
		t.Errorf("%q, want %q", urls, want)
	}
	if urls, code := checkUrls(t, takenDown(t, a)); code != arDown || len(urls) != 0 {
		t.Errorf("not up: %q, %d", urls, code)
	}
}

// checkCompacted goes by promise 18: what is made compact has what it had, in the other area and in no more bytes.
func checkCompacted(t *testing.T, a impl.Archive) impl.Archive {
	t.Helper()
	next := madeCompact(t, a)
	packed, _ := expectedIndexPack(a.List)
	if next.Head != head(a.Head.No+1, 1-a.Head.Area, len(packed)) || next.Head.End > a.Head.End {
		t.Fatalf("behind %s: %s", headText(a.Head), headText(next.Head))
	}
	if !slices.Equal(next.List, a.List) {
		t.Fatalf("had %s, has %s", entriesText(a.List), entriesText(next.List))
	}
	was, _ := expectedAreaGet(a.Disk, a.Head.Area, 0, 4096)
	is, _ := expectedAreaGet(next.Disk, a.Head.Area, 0, 4096)
	if !bytes.Equal(was, is) {
		t.Fatal("the area that counted is turned")
	}
	again := openedAgain(t, takenDown(t, next))
	if !sameArchive(again, next) {
		t.Fatalf("%s is opened again as %s", archiveText(next), archiveText(again))
	}
	return next
}

func TestArchiveCompact(t *testing.T) {
	for what, a := range rightArchives() {
		switch {
		case !a.Up:
			if same, code := checkCompact(t, a); code != arDown || !sameArchive(same, a) {
				t.Errorf("%s: %d", what, code)
			}
		case a.Head.No == lastNo:
			if same, code := checkCompact(t, a); code != arFull || !sameArchive(same, a) {
				t.Errorf("%s: %d", what, code)
			}
		case a.Head.No == lastNo-1:
			checkCompacted(t, a)
		default:
			once := checkCompacted(t, a)
			twice := checkCompacted(t, once)
			if twice.Head != head(a.Head.No+2, a.Head.Area, once.Head.End) {
				t.Errorf("%s, twice: %s", what, headText(twice.Head))
			}
			checkCompacted(t, twice)
		}
	}
}

func TestArchiveCompactHasWhatItHad(t *testing.T) {
	a := impl.ArchiveNew()
	a = checkCompacted(t, a)
	if a.Head != head(2, 1, 0) {
		t.Error("of nothing:", headText(a.Head))
	}
	for _, address := range []string{"d", "b", "c", "a", "e"} {
		a = withKept(t, a, address, "<p>"+address)
	}
	a = withDropped(t, withKept(t, withDropped(t, withDropped(t, a, "c"), "a"), "a", "again"), "e")
	pages := map[string]string{"a": "again", "b": "<p>b", "d": "<p>d"}
	checkHasJust(t, a, pages)
	end := a.Head.End
	for range 4 {
		a = checkCompacted(t, a)
		checkHasJust(t, a, pages)
		if a.Head.End >= end {
			t.Error("no bytes are spared:", a.Head.End)
		}
	}
	a = withKept(t, a, "c", "new")
	pages["c"] = "new"
	checkHasJust(t, checkCompacted(t, a), pages)
}

// TestArchiveCompactOfFullAreas: what counts of an area goes into the other one, however full that was.
func TestArchiveCompactOfFullAreas(t *testing.T) {
	for area := range 2 {
		body := strings.Repeat("b", 4096-5)
		whole := archiveOf(5, area, keeping("u", body))
		if whole.Head.End != 4096 {
			t.Fatal(headText(whole.Head))
		}
		next := checkCompacted(t, whole)
		if next.Head != head(6, 1-area, 4096) {
			t.Error(headText(next.Head))
		}
		if same, code := checkKeep(t, next, "u", ""); code != arFull || !sameArchive(same, next) {
			t.Error("keep behind it:", code)
		}
		spared := checkCompacted(t, filledTo(5, area, 4096, keeping("u", "x")))
		if spared.Head != head(6, 1-area, 5) {
			t.Error(headText(spared.Head))
		}
		checkGot(t, withKept(t, spared, "v", "y"), "v", "y")
	}
}

func TestArchiveCrash(t *testing.T) {
	for what, a := range rightArchives() {
		got, code := checkArchiveCrash(t, a)
		if !a.Up {
			if code != arDown || !sameArchive(got, a) {
				t.Errorf("%s: %d", what, code)
			}
			continue
		}
		if code != arDone || got.Up || got.Head != head(0, 0, 0) || len(got.List) != 0 || !sameDisk(got.Disk, a.Disk) {
			t.Errorf("%s: %s, %d", what, archiveText(got), code)
		}
		if same, code := checkArchiveCrash(t, got); code != arDown || !sameArchive(same, got) {
			t.Errorf("%s, twice: %d", what, code)
		}
	}
}

func TestArchiveOpen(t *testing.T) {
	for what, a := range rightArchives() {
		if !a.Up {
			continue
		}
		if same, code := checkOpen(t, a); code != arUp || !sameArchive(same, a) {
			t.Errorf("%s: %d", what, code)
		}
		if again := openedAgain(t, downOf(a)); !sameArchive(again, a) {
			t.Errorf("%s is opened as %s", what, archiveText(again))
		}
		if again := openedAgain(t, takenDown(t, a)); !sameArchive(again, a) {
			t.Errorf("%s is opened behind a crash as %s", what, archiveText(again))
		}
	}
}

func checkNotOpened(t *testing.T, what string, d impl.Disk) {
	t.Helper()
	a := downOn(d)
	if same, code := checkOpen(t, a); code != arNone || !sameArchive(same, a) {
		t.Errorf("%s: %s, %d", what, archiveText(same), code)
	}
}

func TestArchiveOpenRefuses(t *testing.T) {
	checkNotOpened(t, "a new disk", impl.DiskNew())
	checkNotOpened(t, "other bytes", diskWith())
	wrong := twoKept().Disk
	for _, text := range []string{sectorOfOne(0), sectorOfOne(255), sectorOfOne(1), paddedForms(numForm(3), numForm(2), numForm(0)), paddedForms(numForm(3), numForm(0), numForm(4097)), paddedForms(numForm(0), numForm(0), numForm(0)), paddedForms(longForm(9), numForm(0), numForm(3))} {
		wrong.Safe[0], wrong.Safe[1] = text, text
		checkNotOpened(t, "no right head", wrong)
	}
	for _, b := range noRecords() {
		for area := range 2 {
			d := diskOf(head(5, area, len(b)), []byte(b))
			checkNotOpened(t, "no records", d)
			d.Safe[0] = headSector(head(4, 1-area, 0))
			checkNotOpened(t, "no records, though the older head has some", d)
			d.Safe[0] = headSector(head(6, 1-area, 0))
			if a := openedAgain(t, downOn(d)); a.Head != head(6, 1-area, 0) || len(a.List) != 0 {
				t.Errorf("the newer head has none: %s", archiveText(a))
			}
		}
	}
	whole := twoKept()
	for end := range whole.Head.End + 1 {
		d := cloneDisk(whole.Disk)
		d.Safe[1] = headSector(head(9, 0, end))
		records, ok := countedRecords(d, head(9, 0, end))
		a, code := checkOpen(t, downOn(d))
		if ok != (code == arDone) || ok && !slices.Equal(a.List, expectedIndex(records)) {
			t.Errorf("up to %d: %s, %d", end, archiveText(a), code)
		}
	}
}

func TestArchiveOpenHeads(t *testing.T) {
	a := twoKept()
	text := a.Disk.Safe[1]
	for at := range 2 {
		d := cloneDisk(a.Disk)
		d.Safe[0], d.Safe[1] = sectorOfOne(0), sectorOfOne(0)
		d.Safe[at] = text
		one := openedAgain(t, downOn(d))
		if one.Head != a.Head || !slices.Equal(one.List, a.List) {
			t.Errorf("a head in %d alone: %s", at, archiveText(one))
		}
		checkHasJust(t, withKept(t, one, "n", "new"), map[string]string{"a": "y", "b": "<p>x", "n": "new"})
		checkHasJust(t, checkCompacted(t, one), map[string]string{"a": "y", "b": "<p>x"})
		d.Safe[1-at] = sectorOfOne(255)
		if again := openedAgain(t, downOn(d)); again.Head != a.Head {
			t.Errorf("other bytes beside it: %s", headText(again.Head))
		}
		d.Safe[1-at] = headSector(head(8, 1, 0))
		if again := openedAgain(t, downOn(d)); again.Head != a.Head {
			t.Errorf("an older one beside it: %s", headText(again.Head))
		}
		d.Safe[1-at] = headSector(head(10, 1, 0))
		if again := openedAgain(t, downOn(d)); again.Head != head(10, 1, 0) || len(again.List) != 0 {
			t.Errorf("a newer one beside it: %s", headText(again.Head))
		}
	}
}

// workedArchive takes a step for each two bytes, and beside it keeps by hand what was kept last.
func workedArchive(t *testing.T, steps []byte) (impl.Archive, map[string]string) {
	t.Helper()
	a, pages := impl.ArchiveNew(), map[string]string{}
	for ; len(steps) >= 2; steps = steps[2:] {
		address := rightUrls()[int(steps[1])%6]
		s := somePages()[int(steps[1])/6%len(somePages())]
		code := 0
		switch steps[0] % 8 {
		case 0, 1, 2, 3:
			if a, code = checkKeep(t, a, address, s); code == arDone {
				pages[address] = s
			}
		case 4:
			if a, code = checkDrop(t, a, address); code == arDone {
				delete(pages, address)
			}
		case 5:
			a, _ = checkCompact(t, a)
		case 6:
			a, _ = checkArchiveCrash(t, a)
		case 7:
			a, _ = checkOpen(t, a)
		}
		if a.Up {
			checkHasJust(t, a, pages)
		} else {
			checkNotGot(t, a, address, arDown)
		}
	}
	if !a.Up {
		a = openedAgain(t, a)
		checkHasJust(t, a, pages)
	}
	return a, pages
}

func TestArchivesThatAreWorkedOn(t *testing.T) {
	state, most := uint32(18), 0
	for run := range 12 {
		steps := []byte{}
		for range 8 * run {
			state = state*1664525 + 1013904223
			steps = append(steps, byte(state>>24))
		}
		a, pages := workedArchive(t, steps)
		most = max(most, len(pages))
		checkArchiveOk(t, "behind all steps", a, true)
		checkHasJust(t, checkCompacted(t, a), pages)
	}
	if most < 4 {
		t.Error("no more kept than", most)
	}
}

// TestArchiveFilledAgainAndAgain keeps until it is full, and goes on when it has been made compact.
func TestArchiveFilledAgainAndAgain(t *testing.T) {
	a, pages, fulls := impl.ArchiveNew(), map[string]string{}, 0
	for i := range 60 {
		address, s := "u"+strconv.Itoa(i%4), "<p>"+strings.Repeat(strconv.Itoa(i), 100)
		next, code := checkKeep(t, a, address, s)
		if code == arFull {
			fulls++
			checkHasJust(t, a, pages)
			a = checkCompacted(t, openedAgain(t, takenDown(t, a)))
			next, code = checkKeep(t, a, address, s)
		}
		a = mustDo(t, next, code)
		pages[address] = s
		checkHasJust(t, a, pages)
	}
	if fulls < 3 || a.Head.No != 61+fulls {
		t.Errorf("%d times full, %s", fulls, headText(a.Head))
	}
}

func TestArchiveCallsOneBehindTheOther(t *testing.T) {
	a := twoKept()
	for what, other := range joinedArchives(rightArchives(), badArchives()) {
		impl.ArchiveKeep(other, "z", []byte("other"))
		impl.ArchiveDrop(other, "a")
		impl.ArchiveGet(other, "a")
		impl.ArchiveUrls(other)
		impl.ArchiveCompact(other)
		impl.ArchiveCrash(other)
		impl.ArchiveOpen(other)
		tree, code := impl.ArchiveGet(a, "b")
		urls, _ := impl.ArchiveUrls(a)
		if code != arDone || impl.PageCount(tree, "p") != 1 || !slices.Equal(urls, []string{"a", "b"}) {
			t.Fatalf("behind calls of %s: %s, %q, %d", what, treeText(tree), urls, code)
		}
	}
	for _, address := range []string{"a", "b", "c"} {
		checkDrop(t, a, address)
		checkKeep(t, a, address, "<p>new")
	}
	checkHasJust(t, a, map[string]string{"a": "y", "b": "<p>x"})
}

func joinedArchives(lists ...map[string]impl.Archive) map[string]impl.Archive {
	all := map[string]impl.Archive{}
	for _, list := range lists {
		for what, a := range list {
			all[what] = a
		}
	}
	return all
}

func TestArchiveAskedByManyAtOnce(t *testing.T) {
	a := twoKept()
	more, _ := expectedKeep(a, "n", "new")
	compact, _ := expectedCompact(a)
	var all sync.WaitGroup
	for range 8 {
		all.Go(func() {
			for range 20 {
				next, _ := impl.ArchiveKeep(a, "n", []byte("new"))
				less, _ := impl.ArchiveCompact(a)
				urls, _ := impl.ArchiveUrls(a)
				tree, code := impl.ArchiveGet(a, "b")
				if !sameArchive(next, more) || !sameArchive(less, compact) || !slices.Equal(urls, []string{"a", "b"}) || code != arDone || len(tree.Nodes) != 6 {
					t.Error("another answer, asked by many")
				}
				fillArchive(next)
				fillArchive(less)
				overwrite(urls, "over")
			}
		})
	}
	all.Wait()
	checkArchiveOk(t, "behind all", a, true)
}

func FuzzArchive(f *testing.F) {
	f.Add([]byte{0, 0, 1, 7, 4, 0, 5, 0, 6, 0, 7, 0}, "u", []byte("<p>x"))
	f.Add([]byte{0, 200, 0, 66, 0, 67, 5, 0, 0, 68}, "", []byte{255})
	f.Add([]byte{6, 0}, "a b", []byte("<b><i>x</b>"))
	f.Fuzz(func(t *testing.T, steps []byte, address string, s []byte) {
		a, pages := workedArchive(t, steps[:min(len(steps), 60)])
		if next, code := checkKeep(t, a, address, string(s)); code == arDone {
			pages[address] = string(s)
			checkHasJust(t, next, pages)
		}
		checkDrop(t, a, address)
		checkArchiveGet(t, a, address)
		checkKeep(t, takenDown(t, a), address, string(s))
	})
}

func FuzzArchiveOpen(f *testing.F) {
	f.Add([]byte("\x01\x01u\x02xy\x02\x01v"), 3, 0, 9, 4, 100, byte(7))
	f.Add([]byte("\x01\x01u\x02xy"), 2, 1, 5, 3, 0, byte(0))
	f.Add([]byte{}, lastNo, 1, 0, math.MaxInt, -1, byte(1))
	f.Fuzz(func(t *testing.T, b []byte, no int, area int, end int, otherNo int, place int, turned byte) {
		d, _ := expectedAreaPut(impl.DiskNew(), area, 0, b)
		if len(d.Safe) == 0 {
			d = impl.DiskNew()
		}
		d, _ = expectedHeadPut(d, head(no, area, end))
		d, _ = expectedHeadPut(d, head(otherNo, 1-area, end/2))
		d = madeSafe(d)
		if place >= 0 {
			at := place % (130 * 64)
			text := []byte(d.Safe[at/64])
			text[at%64] = turned
			d.Safe[at/64] = string(text)
		}
		a, code := checkOpen(t, downOn(d))
		if code == arDone {
			checkArchiveOk(t, "opened", a, true)
			checkCompact(t, a)
			checkDrop(t, a, "u")
			checkArchiveGet(t, a, "u")
		}
		claimed := impl.Archive{Up: true, Disk: d, Head: head(no, area, end)}
		checkArchiveOk(t, "claimed", claimed, archiveFits(claimed))
	})
}
