package tests

import (
	"bytes"
	"math"
	"slices"
	"strconv"
	"strings"
	"sync"
	"testing"

	"loop.example/g00118/impl"
)

// The kinds of deeds by the numbers of the document, and the greatest Keep.
const (
	doKeep, doDrop, doCompact, doCrash, doOpen = 1, 2, 3, 4, 5

	keepAll = 2147483647
)

var fillDeed = impl.Deed{Kind: -7, Url: "filler", Page: "filled", Step: -7, Keep: -7}

func deedKeep(address string, s string) impl.Deed {
	return impl.Deed{Kind: doKeep, Url: address, Page: s}
}

func deedDrop(address string) impl.Deed {
	return impl.Deed{Kind: doDrop, Url: address}
}

func deedOf(kind int) impl.Deed {
	return impl.Deed{Kind: kind}
}

func tornAt(d impl.Deed, step int, keep int) impl.Deed {
	d.Step, d.Keep = step, keep
	return d
}

// deedFits and what is expected below go by the sentences of the document.
func deedFits(d impl.Deed) bool {
	hasUrl := d.Kind == 1 || d.Kind == 2
	hasStep := hasUrl || d.Kind == 3
	switch {
	case d.Kind <= 0 || d.Kind >= 6:
		return false
	case hasUrl && len(d.Url) >= 61 || !hasUrl && len(d.Url) > 0:
		return false
	case d.Kind == 1 && len(d.Page) >= 3001 || d.Kind != 1 && len(d.Page) > 0:
		return false
	case !hasStep || d.Step == 0:
		return d.Step == 0 && d.Keep == 0
	}
	return slices.Contains([]int{1, 2, 3, 4}, d.Step) && d.Keep >= 0 && d.Keep <= keepAll
}

// expectedCall is the deed's call of chapter 18.
func expectedCall(a impl.Archive, d impl.Deed) (impl.Archive, int) {
	switch d.Kind {
	case doKeep:
		return expectedKeep(a, d.Url, d.Page)
	case doDrop:
		return expectedDrop(a, d.Url)
	case doCompact:
		return expectedCompact(a)
	case doCrash:
		return expectedArchiveCrash(a)
	}
	return expectedOpen(a)
}

// laidBy are the bytes that the deed puts, the area to which they go, and the place from which on they stand there.
func laidBy(a impl.Archive, d impl.Deed) ([]byte, int, int) {
	switch d.Kind {
	case doKeep:
		body, _ := bodyOf(d.Page)
		return packedRecord(keeping(d.Url, body)), a.Head.Area, a.Head.End
	case doDrop:
		return packedRecord(dropping(d.Url)), a.Head.Area, a.Head.End
	}
	b, _ := expectedIndexPack(a.List)
	return b, 1 - a.Head.Area, 0
}

// begunOn is the disk when just the first steps of a deed are done that could be done as a whole.
func begunOn(a impl.Archive, d impl.Deed) impl.Disk {
	b, area, at := laidBy(a, d)
	disk, _ := expectedAreaPut(a.Disk, area, at, b)
	if d.Step >= 2 {
		disk = madeSafe(disk)
	}
	if d.Step >= 3 {
		disk, _ = expectedHeadPut(disk, head(a.Head.No+1, area, at+len(b)))
	}
	if d.Step == 4 {
		disk = madeSafe(disk)
	}
	return disk
}

func expectedDo(a impl.Archive, d impl.Deed) (impl.Archive, int) {
	if !archiveFits(a) || !deedFits(d) {
		return impl.Archive{}, arBad
	}
	whole, code := expectedCall(a, d)
	if d.Step == 0 || code != arDone {
		return whole, code
	}
	crashed, _ := expectedCrash(begunOn(a, d), d.Keep)
	return downOn(crashed), arDone
}

func expectedRun(a impl.Archive, list []impl.Deed) (impl.Archive, []int) {
	last, codes := cloneArchive(a), []int{}
	if len(list) >= 101 || !archiveFits(a) {
		return last, codes
	}
	for _, d := range list {
		next, code := expectedDo(last, d)
		if code == arDone {
			last = next
		}
		codes = append(codes, code)
	}
	return last, codes
}

func deedText(d impl.Deed) string {
	return "{" + strconv.Itoa(d.Kind) + " " + short(d.Url) + " " + short(d.Page) + " step " + strconv.Itoa(d.Step) + " keep " + strconv.Itoa(d.Keep) + "}"
}

func deedsText(list []impl.Deed) string {
	all := []string{}
	for _, d := range list[:min(len(list), 10)] {
		all = append(all, deedText(d))
	}
	return strconv.Itoa(len(list)) + " [" + strings.Join(all, " ") + "]"
}

func checkDeed(t *testing.T, d impl.Deed, want bool) {
	t.Helper()
	if got := impl.DeedOk(d); got != want {
		t.Errorf("DeedOk of %s = %v", deedText(d), got)
	}
	if deedFits(d) != want {
		t.Errorf("the tests' own rule holds %s to be %v", deedText(d), !want)
	}
}

func checkDo(t *testing.T, a impl.Archive, d impl.Deed) (impl.Archive, int) {
	t.Helper()
	want, code := expectedDo(a, d)
	checkArchiveAnswer(t, "ArchiveDo of "+deedText(d), a, want, code, func(a impl.Archive) (impl.Archive, int) { return impl.ArchiveDo(a, d) })
	return want, code
}

// checkDoBad asks for ArBad, and for an archive of which all is zero.
func checkDoBad(t *testing.T, what string, a impl.Archive, d impl.Deed) {
	t.Helper()
	if got, code := checkDo(t, a, d); code != arBad || !sameArchive(got, impl.Archive{}) {
		t.Errorf("%s: ArchiveDo of %s = %s, %d", what, deedText(d), archiveText(got), code)
	}
}

// checkRun asks for the archive and the codes, and that neither shares memory with what was given, nor with each other.
func checkRun(t *testing.T, a impl.Archive, list []impl.Deed) (impl.Archive, []int) {
	t.Helper()
	want, wantCodes := expectedRun(a, list)
	name := "ArchiveRun of " + deedsText(list)
	g := guard(list, fillDeed)
	bad := codeIf(!archiveFits(a), arBad)
	checkArchiveAnswer(t, name, a, want, bad, func(a impl.Archive) (impl.Archive, int) {
		got, codes := impl.ArchiveRun(a, g.arg)
		if !slices.Equal(codes, wantCodes) {
			t.Fatalf("%s: codes %v, want %v", name, codes, wantCodes)
		}
		overwrite(codes, -7)
		overwrite(append(codes, -8), -9)
		return got, bad
	})
	got, codes := impl.ArchiveRun(a, g.arg)
	if !g.untouched() {
		t.Fatalf("%s wrote into the deeds, or behind them", name)
	}
	overwrite(g.arg, fillDeed)
	if !sameArchive(got, want) || !slices.Equal(codes, wantCodes) {
		t.Fatalf("%s: a later change of the deeds is seen in the answer", name)
	}
	return want, wantCodes
}

// isWholeBehind tells whether the deed is there behind its tear: its head alone decides, which is the only put that is
// late in its step.
func isWholeBehind(d impl.Deed) bool {
	return d.Step == 4 || d.Step == 3 && d.Keep%2 == 1
}

// checkTear goes by promise 19: behind the tear the archive is not up, and opened then it has what it had, or that with
// the whole deed.
func checkTear(t *testing.T, a impl.Archive, d impl.Deed) impl.Archive {
	t.Helper()
	torn, code := checkDo(t, a, d)
	whole, wholeCode := expectedCall(a, tornAt(d, 0, 0))
	if code != arDone || wholeCode != arDone {
		t.Fatalf("%s of %s: %d, as a whole %d", deedText(d), archiveText(a), code, wholeCode)
	}
	if torn.Up || torn.Head != head(0, 0, 0) || len(torn.List) != 0 || len(torn.Disk.Late) != 0 {
		t.Fatalf("behind %s: %s", deedText(d), archiveText(torn))
	}
	got, code := impl.ArchiveOpen(torn)
	if code != arDone {
		t.Fatalf("%s behind %s is not opened: %d", archiveText(a), deedText(d), code)
	}
	want := a
	if isWholeBehind(d) {
		want = whole
		if !sameDisk(torn.Disk, whole.Disk) {
			t.Fatalf("behind %s all is safe, but %s is not %s", deedText(d), diskText(torn.Disk), diskText(whole.Disk))
		}
	}
	if got.Head != want.Head || !slices.Equal(got.List, want.List) {
		t.Fatalf("%s behind %s is opened as %s, %s", archiveText(a), deedText(d), headText(got.Head), entriesText(got.List))
	}
	return got
}

// singleKeeps are none, all, and each bit alone.
func singleKeeps() []int {
	keeps := []int{0, keepAll}
	for bit := range 31 {
		keeps = append(keeps, 1<<bit)
	}
	return keeps
}

func fewKeeps() []int {
	return []int{0, 1, 2, 3, 4, 1 << 30, keepAll - 1, keepAll}
}

// longPage is of many sectors when it is kept.
func longPage(n int) string {
	return "<p>" + strings.Repeat("0123456789", n)
}

// tornKinds are a deed of each kind that can be torn; a is kept in the archives on which they are done.
func tornKinds() []impl.Deed {
	return []impl.Deed{deedKeep("n", "<p>new"), deedKeep("a", longPage(20)), deedDrop("a"), deedOf(doCompact)}
}

// rightDeeds have just what their Kind has.
func rightDeeds() []impl.Deed {
	longest := strings.Repeat("x", 3000)
	list := []impl.Deed{
		deedOf(doKeep), deedOf(doDrop), deedOf(doCompact), deedOf(doCrash), deedOf(doOpen),
		deedKeep("a", ""), deedKeep("", "x"), deedKeep(longestUrl(), longest), deedKeep("a b", "x"), deedKeep(strings.Repeat("\x00", 60), strings.Repeat("\xff", 3000)),
		deedKeep("a", tooDeep()), deedKeep("a", tooLarge()), deedDrop("a"), deedDrop(longestUrl()), deedDrop(strings.Repeat(" ", 60)), deedDrop("\xff"), deedDrop(strings.Repeat("é", 30)),
	}
	for _, d := range tornKinds() {
		list = append(list, d)
		for step := 1; step <= 4; step++ {
			for _, keep := range fewKeeps() {
				list = append(list, tornAt(d, step, keep))
			}
		}
	}
	return list
}

// wrongDeeds are each wrong in one way.
func wrongDeeds() []impl.Deed {
	list := []impl.Deed{{}, {Url: "a"}, {Page: "x"}, {Url: "a", Page: "x"}, {Step: 1}, {Keep: 1}, {Step: 1, Keep: 1}}
	for _, kind := range []int{-1, 6, 7, 257, 258, -5, 1<<32 + 1, 1<<32 + 3, math.MaxInt, math.MinInt} {
		list = append(list, deedOf(kind), impl.Deed{Kind: kind, Url: "a"}, impl.Deed{Kind: kind, Url: "a", Page: "x"}, impl.Deed{Kind: kind, Step: 1})
	}
	for _, size := range []int{61, 62, 120, 316, 65536, 65596} {
		address := strings.Repeat("u", size)
		list = append(list, deedKeep(address, ""), deedKeep(address, "x"), deedDrop(address), tornAt(deedKeep(address, "x"), 3, 1), tornAt(deedDrop(address), 3, 1))
	}
	for _, size := range []int{3001, 3002, 6000, 65536, 68536} {
		s := strings.Repeat("x", size)
		list = append(list, deedKeep("a", s), deedKeep("", s), tornAt(deedKeep("a", s), 4, keepAll))
	}
	list = append(list, deedKeep("\x00"+longestUrl(), "x"), deedDrop(longestUrl()+" "), deedDrop(strings.Repeat("é", 31)))
	for kind := doDrop; kind <= doOpen; kind++ {
		list = append(list, impl.Deed{Kind: kind, Page: "x"}, impl.Deed{Kind: kind, Url: "a", Page: "x"}, impl.Deed{Kind: kind, Page: "\x00"})
	}
	for _, kind := range []int{doCompact, doCrash, doOpen} {
		list = append(list, impl.Deed{Kind: kind, Url: "a"}, impl.Deed{Kind: kind, Url: "\x00"}, impl.Deed{Kind: kind, Url: longestUrl()})
	}
	list = append(list, tornAt(impl.Deed{Kind: doCompact, Url: "a"}, 1, 1), tornAt(impl.Deed{Kind: doDrop, Url: "a", Page: "x"}, 2, 1))
	return append(list, wrongTears()...)
}

func wrongTears() []impl.Deed {
	list := []impl.Deed{}
	for _, d := range tornKinds() {
		for _, step := range []int{-1, -4, 5, 6, 256, 257, 1<<32 + 1, math.MaxInt, math.MinInt} {
			list = append(list, tornAt(d, step, 0), tornAt(d, step, 1), tornAt(d, step, keepAll))
		}
		for _, keep := range wrongKeeps() {
			for step := 0; step <= 4; step++ {
				list = append(list, tornAt(d, step, keep))
			}
		}
		list = append(list, tornAt(d, 0, 1), tornAt(d, 0, 2), tornAt(d, 0, keepAll))
	}
	for _, kind := range []int{doCrash, doOpen} {
		for _, step := range []int{-1, 1, 2, 3, 4, 5} {
			list = append(list, tornAt(deedOf(kind), step, 0), tornAt(deedOf(kind), step, 1))
		}
		for _, keep := range []int{-1, 1, keepAll, keepAll + 1} {
			list = append(list, tornAt(deedOf(kind), 0, keep))
		}
	}
	return list
}

func TestDeedNumbers(t *testing.T) {
	kinds := []int{impl.DoKeep, impl.DoDrop, impl.DoCompact, impl.DoCrash, impl.DoOpen}
	if !slices.Equal(kinds, []int{1, 2, 3, 4, 5}) || impl.MaxDeeds != 100 {
		t.Error(kinds, impl.MaxDeeds)
	}
}

func TestDeedOk(t *testing.T) {
	for _, d := range rightDeeds() {
		checkDeed(t, d, true)
	}
	for _, d := range wrongDeeds() {
		checkDeed(t, d, false)
	}
}

// TestDeedOkOfEachStep goes over all kinds, steps and keeps together, by a table of what each kind may have.
func TestDeedOkOfEachStep(t *testing.T) {
	for kind := -2; kind <= 8; kind++ {
		mayBeTorn := kind == doKeep || kind == doDrop || kind == doCompact
		isKind := kind >= doKeep && kind <= doOpen
		for step := -2; step <= 6; step++ {
			for _, keep := range []int{-1, 0, 1, 2, keepAll - 1, keepAll, keepAll + 1} {
				asWhole := isKind && step == 0 && keep == 0
				torn := mayBeTorn && step >= 1 && step <= 4 && keep >= 0 && keep <= keepAll
				checkDeed(t, tornAt(deedOf(kind), step, keep), asWhole || torn)
			}
		}
	}
}

func TestDeedOkOfEachLength(t *testing.T) {
	for size := range 130 {
		address := strings.Repeat("\xff", size)
		for step := range 5 {
			checkDeed(t, tornAt(deedKeep(address, ""), step, 0), size <= 60)
			checkDeed(t, tornAt(deedDrop(address), step, 0), size <= 60)
			checkDeed(t, tornAt(impl.Deed{Kind: doCompact, Url: address}, step, 0), size == 0)
			checkDeed(t, tornAt(impl.Deed{Kind: doCrash, Url: address}, step, 0), size == 0 && step == 0)
		}
		checkDeed(t, impl.Deed{Kind: doOpen, Url: address}, size == 0)
	}
	for _, size := range []int{0, 1, 60, 61, 2999, 3000, 3001, 4096} {
		s := strings.Repeat("<", size)
		for step := range 5 {
			checkDeed(t, tornAt(deedKeep("a", s), step, 0), size <= 3000)
			checkDeed(t, tornAt(impl.Deed{Kind: doDrop, Url: "a", Page: s}, step, 0), size == 0)
			checkDeed(t, tornAt(impl.Deed{Kind: doCompact, Page: s}, step, 0), size == 0)
		}
		checkDeed(t, impl.Deed{Kind: doCrash, Page: s}, size == 0)
		checkDeed(t, impl.Deed{Kind: doOpen, Page: s}, size == 0)
	}
}

func TestArchiveDoRefusesBadArchives(t *testing.T) {
	deeds := []impl.Deed{deedKeep("n", "x"), deedKeep("", tooDeep()), deedDrop("a"), deedDrop(""), deedOf(doCompact), deedOf(doCrash), deedOf(doOpen)}
	for step := 1; step <= 4; step++ {
		deeds = append(deeds, tornAt(deedKeep("n", "x"), step, 1), tornAt(deedDrop("a"), step, keepAll), tornAt(deedOf(doCompact), step, 0))
	}
	both := []impl.Deed{{}, deedOf(6), tornAt(deedOf(doOpen), 1, 0), tornAt(deedDrop("a"), 5, 0)}
	for what, a := range badArchives() {
		for _, d := range joined(deeds, both) {
			checkDoBad(t, what, a, d)
		}
	}
}

func TestArchiveDoRefusesWrongDeeds(t *testing.T) {
	archives := map[string]impl.Archive{"two kept": twoKept(), "not up": downOf(twoKept()), "not up, a new disk": downOn(impl.DiskNew()), "full": filledTo(lastNo, 0, 4096)}
	for what, a := range archives {
		for _, d := range wrongDeeds() {
			checkDoBad(t, what, a, d)
		}
	}
}

// TestArchiveDoWhole: a deed that is not torn is just its call.
func TestArchiveDoWhole(t *testing.T) {
	seen := map[[2]int]bool{}
	for what, a := range rightArchives() {
		for address, s := range map[string]string{"a": "<p>x", "q": longPage(3), "": "x", "a b": "", "d": tooDeep(), longestUrl(): ""} {
			calls := map[impl.Deed]func() (impl.Archive, int){
				deedKeep(address, s): func() (impl.Archive, int) { return impl.ArchiveKeep(a, address, []byte(s)) },
				deedDrop(address):    func() (impl.Archive, int) { return impl.ArchiveDrop(a, address) },
				deedOf(doCompact):    func() (impl.Archive, int) { return impl.ArchiveCompact(a) },
				deedOf(doCrash):      func() (impl.Archive, int) { return impl.ArchiveCrash(a) },
				deedOf(doOpen):       func() (impl.Archive, int) { return impl.ArchiveOpen(a) },
			}
			for d, call := range calls {
				got, code := checkDo(t, a, d)
				if told, toldCode := call(); code != toldCode || !sameArchive(got, told) {
					t.Errorf("%s: ArchiveDo of %s = %d, its call %d", what, deedText(d), code, toldCode)
				}
				if code != arDone && !sameArchive(got, a) {
					t.Errorf("%s: %s turns it, code %d", what, deedText(d), code)
				}
				seen[[2]int{d.Kind, code}] = true
			}
		}
	}
	checkCodesSeen(t, seen, map[int][]int{
		doKeep: {arDone, arDown, arUrl, arPage, arFull}, doDrop: {arDone, arDown, arUrl, arNone, arFull},
		doCompact: {arDone, arDown, arFull}, doCrash: {arDone, arDown}, doOpen: {arDone, arUp, arNone},
	})
}

func checkCodesSeen(t *testing.T, seen map[[2]int]bool, want map[int][]int) {
	t.Helper()
	for kind, codes := range want {
		for _, code := range codes {
			if !seen[[2]int{kind, code}] {
				t.Errorf("kind %d never told %d", kind, code)
			}
		}
	}
}

// TestTornDeedsThatAreRefused: what is refused as a whole is refused torn, though its first steps could be done.
func TestTornDeedsThatAreRefused(t *testing.T) {
	body, _ := bodyOf("x")
	seen := map[[2]int]bool{}
	for _, s := range []struct {
		archive impl.Archive
		deed    impl.Deed
		code    int
	}{
		{downOf(twoKept()), deedKeep("n", "x"), arDown}, {downOf(twoKept()), deedKeep("", tooDeep()), arDown}, {downOn(impl.DiskNew()), deedKeep("n", "x"), arDown},
		{downOf(twoKept()), deedDrop("a"), arDown}, {downOf(twoKept()), deedDrop("q"), arDown}, {downOf(twoKept()), deedDrop(""), arDown},
		{downOf(twoKept()), deedOf(doCompact), arDown}, {downOn(diskWith()), deedOf(doCompact), arDown},
		{twoKept(), deedKeep("", "x"), arUrl}, {twoKept(), deedKeep("a b", "x"), arUrl}, {twoKept(), deedKeep("\x7f", tooDeep()), arUrl},
		{twoKept(), deedDrop(""), arUrl}, {twoKept(), deedDrop("a "), arUrl}, {twoKept(), deedDrop(strings.Repeat("\x00", 60)), arUrl},
		{twoKept(), deedKeep("a", tooDeep()), arPage}, {twoKept(), deedKeep("n", tooLarge()), arPage}, {twoKept(), deedKeep("n", tooMuchToPack()), arPage},
		{twoKept(), deedDrop("c"), arNone}, {twoKept(), deedDrop("A"), arNone}, {impl.ArchiveNew(), deedDrop("a"), arNone},
		{filledTo(7, 0, 4096, keeping("a", body)), deedKeep("n", ""), arFull}, {filledTo(7, 1, 4096, keeping("a", body)), deedDrop("a"), arFull},
		{filledTo(7, 0, 4096-len(packedRecord(dropping("a")))+1, keeping("a", body)), deedDrop("a"), arFull},
		{filledTo(7, 1, 2000), deedKeep("n", longPage(250)), arFull},
		{archiveOf(lastNo, 0, keeping("a", body)), deedKeep("n", ""), arFull}, {archiveOf(lastNo, 1, keeping("a", body)), deedDrop("a"), arFull},
		{archiveOf(lastNo, 0, keeping("a", body)), deedOf(doCompact), arFull}, {archiveOf(lastNo, 1), deedOf(doCompact), arFull},
		{filledTo(lastNo, 1, 4096, keeping("a", body)), deedKeep("a", "x"), arFull},
	} {
		for step := 1; step <= 4; step++ {
			for _, keep := range []int{0, 1, keepAll} {
				d := tornAt(s.deed, step, keep)
				if got, code := checkDo(t, s.archive, d); code != s.code || !sameArchive(got, s.archive) {
					t.Errorf("%s of %s = %s, %d; want %d", deedText(d), archiveText(s.archive), archiveText(got), code, s.code)
				}
			}
		}
		seen[[2]int{s.deed.Kind, s.code}] = true
	}
	checkCodesSeen(t, seen, map[int][]int{doKeep: {arDown, arUrl, arPage, arFull}, doDrop: {arDown, arUrl, arNone, arFull}, doCompact: {arDown, arFull}})
}

// tearable are archives that are up and in which a is kept, with room for more.
func tearable() map[string]impl.Archive {
	body, _ := bodyOf("<p>x")
	noise := twoKept()
	copy(noise.Disk.Safe[20:], markedSafe()[20:])
	noise.Disk.Safe[0] = sectorOfOne(255)
	swapped := twoKept()
	swapped.Disk.Safe[0], swapped.Disk.Safe[1] = swapped.Disk.Safe[1], headSector(head(9, 1, 77))
	return map[string]impl.Archive{
		"two kept": twoKept(), "in area 1": archiveOf(4, 1, keeping("a", body), keeping("b", "")), "no tree": archiveOf(2, 0, keeping("a", "no tree")),
		"up to a border": filledTo(3, 1, 640, keeping("a", body)), "ahead of a border": filledTo(3, 0, 639, keeping("a", body)), "behind a border": filledTo(3, 0, 641, keeping("a", body)),
		"the last No but one": archiveOf(lastNo-1, 1, keeping("a", body)), "other bytes where none count": noise, "a head in the other sector": swapped,
	}
}

func TestTornDeeds(t *testing.T) {
	for what, a := range tearable() {
		for _, d := range tornKinds() {
			for step := 1; step <= 4; step++ {
				for _, keep := range fewKeeps() {
					checkTear(t, a, tornAt(d, step, keep))
				}
			}
			if _, code := checkDo(t, a, d); code != arDone {
				t.Errorf("%s: %s = %d", what, deedText(d), code)
			}
		}
	}
}

func TestTornDeedsByEachBit(t *testing.T) {
	for _, d := range tornKinds() {
		for step := 1; step <= 4; step++ {
			for _, keep := range singleKeeps() {
				checkTear(t, twoKept(), tornAt(d, step, keep))
			}
		}
	}
}

// turnedBy are the sectors that the tear turned.
func turnedBy(t *testing.T, a impl.Archive, d impl.Deed) []int {
	t.Helper()
	checkTear(t, a, d)
	torn, _ := impl.ArchiveDo(a, d)
	turned := []int{}
	for at := range torn.Disk.Safe {
		if torn.Disk.Safe[at] != a.Disk.Safe[at] {
			turned = append(turned, at)
		}
	}
	return turned
}

// TestTornPutsTold: a deed of one put, of three puts and of none, by the sectors that each tear turns.
func TestTornPutsTold(t *testing.T) {
	body, _ := bodyOf("<p>x")
	kept := archiveOf(5, 0, keeping("a", body))
	ends := filledTo(5, 1, 60, keeping("a", "x"))
	three := deedKeep("n", "0123456789"+strings.Repeat("x", 80))
	for _, s := range []struct {
		archive    impl.Archive
		deed       impl.Deed
		step, keep int
		turned     []int
	}{
		{kept, deedDrop("a"), 1, 0, nil}, {kept, deedDrop("a"), 1, 1, []int{2}}, {kept, deedDrop("a"), 1, keepAll - 1, nil},
		{kept, deedDrop("a"), 2, 0, []int{2}}, {kept, deedDrop("a"), 3, 0, []int{2}}, {kept, deedDrop("a"), 3, 1, []int{0, 2}},
		{kept, deedDrop("a"), 3, keepAll - 1, []int{2}}, {kept, deedDrop("a"), 4, 0, []int{0, 2}},
		{ends, three, 1, 0, nil},
		{ends, three, 1, 1, []int{66}},
		{ends, three, 1, 2, []int{67}},
		{ends, three, 1, 4, []int{68}},
		{ends, three, 1, 5, []int{66, 68}},
		{ends, three, 1, 8, nil},
		{ends, three, 2, 0, []int{66, 67, 68}},
		{ends, three, 3, 6, []int{66, 67, 68}},
		{ends, three, 3, 1, []int{0, 66, 67, 68}},
		{kept, deedOf(doCompact), 1, 1, []int{66}}, {kept, deedOf(doCompact), 2, 0, []int{66}}, {kept, deedOf(doCompact), 3, 1, []int{0, 66}},
		{impl.ArchiveNew(), deedOf(doCompact), 1, keepAll, nil}, {impl.ArchiveNew(), deedOf(doCompact), 2, keepAll, nil}, {impl.ArchiveNew(), deedOf(doCompact), 3, 0, nil},
		{impl.ArchiveNew(), deedOf(doCompact), 3, 2, nil}, {impl.ArchiveNew(), deedOf(doCompact), 3, 1, []int{0}}, {impl.ArchiveNew(), deedOf(doCompact), 4, 0, []int{0}},
	} {
		d := tornAt(s.deed, s.step, s.keep)
		if got := turnedBy(t, s.archive, d); !slices.Equal(got, s.turned) {
			t.Errorf("%s turned %v, want %v", deedText(d), got, s.turned)
		}
	}
}

// TestTornOfMoreThan31Puts: the bits begin anew behind the last one.
func TestTornOfMoreThan31Puts(t *testing.T) {
	many := archiveOf(8, 0, keeping("a", strings.Repeat("b", 2600)))
	for _, s := range []struct {
		archive impl.Archive
		deed    impl.Deed
		first   int
	}{
		{many, deedOf(doCompact), 66},
		{impl.ArchiveNew(), deedKeep("n", strings.Repeat("y", 2500)), 2},
	} {
		for bit, keep := range []int{1, 2, 4, 8, 16, 32, 64, 128} {
			want := []int{s.first + bit, s.first + bit + 31}
			if got := turnedBy(t, s.archive, tornAt(s.deed, 1, keep)); !slices.Equal(got, want) {
				t.Errorf("bit %d of %s: turned %v, want %v", bit, deedText(s.deed), got, want)
			}
		}
		for _, keep := range keptSets() {
			checkTear(t, s.archive, tornAt(s.deed, 1, keep))
		}
		for step := 2; step <= 4; step++ {
			for _, keep := range fewKeeps() {
				checkTear(t, s.archive, tornAt(s.deed, step, keep))
			}
		}
	}
}

// TestTornPagesByHand asks for the pages themselves, behind each tear and behind further work.
func TestTornPagesByHand(t *testing.T) {
	a := withKept(t, withKept(t, impl.ArchiveNew(), "a", "<p>x"), "b", longPage(10))
	had := map[string]string{"a": "<p>x", "b": longPage(10)}
	for _, s := range []struct {
		deed impl.Deed
		with map[string]string
	}{
		{deedKeep("n", "new"), map[string]string{"a": "<p>x", "b": longPage(10), "n": "new"}},
		{deedKeep("a", longPage(9)), map[string]string{"a": longPage(9), "b": longPage(10)}},
		{deedDrop("b"), map[string]string{"a": "<p>x"}},
		{deedOf(doCompact), had},
	} {
		for step := 1; step <= 4; step++ {
			for _, keep := range fewKeeps() {
				d := tornAt(s.deed, step, keep)
				pages := had
				if step == 4 || step == 3 && keep%2 == 1 {
					pages = s.with
				}
				up := checkTear(t, a, d)
				checkHasJust(t, up, pages)
				checkGoesOn(t, up, pages)
			}
		}
	}
}

// checkGoesOn does a deed of each kind behind a tear.
func checkGoesOn(t *testing.T, up impl.Archive, pages map[string]string) {
	t.Helper()
	more := map[string]string{"z": "<p>last"}
	for address, s := range pages {
		more[address] = s
	}
	list := []impl.Deed{deedKeep("z", "<p>last"), deedOf(doCompact), deedKeep("y", "1"), deedDrop("y"), deedOf(doCrash), deedOf(doOpen)}
	a, codes := impl.ArchiveRun(up, list)
	if !slices.Equal(codes, repeated(arDone, len(list))) {
		t.Fatalf("behind a tear: %v", codes)
	}
	checkHasJust(t, a, more)
}

// TestTornAgainAndAgain tears a deed at each step, one tear behind the other, on the bytes that the earlier ones left.
func TestTornAgainAndAgain(t *testing.T) {
	for _, keep := range []int{0, 1, 2, 5, 1431655765, keepAll - 1, keepAll} {
		a := twoKept()
		for step := 1; step <= 4; step++ {
			for _, d := range tornKinds() {
				if _, kept := expectedIndexFind(a.List, "a"); d.Kind == doDrop && !kept {
					continue
				}
				a = checkTear(t, a, tornAt(d, step, keep))
			}
		}
		if len(a.List) < 2 {
			t.Errorf("keep %d: in the end %s", keep, entriesText(a.List))
		}
	}
}

// TestTornIsNotUp: behind a tear all but opening is refused.
func TestTornIsNotUp(t *testing.T) {
	for step := 1; step <= 4; step++ {
		torn, code := checkDo(t, twoKept(), tornAt(deedDrop("a"), step, 0))
		mustDo(t, torn, code)
		for _, d := range []impl.Deed{deedKeep("n", "x"), deedDrop("a"), deedOf(doCompact), deedOf(doCrash), tornAt(deedDrop("a"), 1, 1), tornAt(deedOf(doCompact), 4, 0)} {
			if same, code := checkDo(t, torn, d); code != arDown || !sameArchive(same, torn) {
				t.Errorf("%s behind a tear: %d", deedText(d), code)
			}
		}
		if _, code := checkDo(t, torn, deedOf(doOpen)); code != arDone {
			t.Errorf("open behind a tear: %d", code)
		}
	}
}

// TestTornUpToTheEndOfAnArea: the last byte that can be put is torn as any other one.
func TestTornUpToTheEndOfAnArea(t *testing.T) {
	body, _ := bodyOf("x")
	size := len(packedRecord(keeping("n", body)))
	for area := range 2 {
		a := filledTo(6, area, 4096-size, keeping("a", body))
		for step := 1; step <= 4; step++ {
			for _, keep := range fewKeeps() {
				checkTear(t, a, tornAt(deedKeep("n", "x"), step, keep))
				checkTear(t, a, tornAt(deedOf(doCompact), step, keep))
			}
		}
		whole := archiveOf(6, area, keeping("a", strings.Repeat("b", 4096-5)))
		for step := 1; step <= 4; step++ {
			for _, keep := range fewKeeps() {
				checkTear(t, whole, tornAt(deedOf(doCompact), step, keep))
			}
		}
	}
}

func TestArchiveRunOfNone(t *testing.T) {
	for what, a := range joinedArchives(rightArchives(), badArchives()) {
		for _, list := range [][]impl.Deed{nil, {}} {
			if got, codes := checkRun(t, a, list); len(codes) != 0 || !sameArchive(got, a) {
				t.Errorf("%s: %s, %v", what, archiveText(got), codes)
			}
		}
	}
}

// TestArchiveRunRefuses: one deed too many, or an archive that is not right, leaves it as it was, and tells no codes.
func TestArchiveRunRefuses(t *testing.T) {
	for what, a := range badArchives() {
		for _, list := range [][]impl.Deed{{deedOf(doOpen)}, {deedKeep("n", "x"), {}}, repeated(deedOf(doOpen), 100), repeated(deedOf(doCrash), 101)} {
			if got, codes := checkRun(t, a, list); len(codes) != 0 || !sameArchive(got, a) {
				t.Errorf("%s: %s, %v", what, archiveText(got), codes)
			}
		}
	}
	for what, a := range rightArchives() {
		for _, n := range []int{101, 102, 200, 256, 1000} {
			for _, d := range []impl.Deed{deedKeep("n", ""), deedOf(doCompact), {}} {
				if got, codes := checkRun(t, a, repeated(d, n)); len(codes) != 0 || !sameArchive(got, a) {
					t.Errorf("%s, %d deeds: %s, %v", what, n, archiveText(got), codes)
				}
			}
		}
	}
}

func TestArchiveRunOfManyDeeds(t *testing.T) {
	for _, n := range []int{1, 2, 99, 100} {
		a, codes := checkRun(t, impl.ArchiveNew(), repeated(deedOf(doCompact), n))
		if len(codes) != n || a.Head != head(1+n, n%2, 0) {
			t.Errorf("%d: %v, %s", n, codes, headText(a.Head))
		}
	}
	list := []impl.Deed{}
	for i := range 100 {
		list = append(list, deedKeep("u"+strconv.Itoa(i%5), "<p>"+strconv.Itoa(i)))
	}
	list[50] = deedOf(doCompact)
	a, codes := checkRun(t, impl.ArchiveNew(), list)
	if !slices.Equal(codes, repeated(arDone, 100)) {
		t.Fatalf("%v", codes)
	}
	checkHasJust(t, a, map[string]string{"u0": "<p>95", "u1": "<p>96", "u2": "<p>97", "u3": "<p>98", "u4": "<p>99"})
	if same, codes := checkRun(t, a, append(list, deedOf(doOpen))); len(codes) != 0 || !sameArchive(same, a) {
		t.Errorf("one more: %v", codes)
	}
}

// TestArchiveRunTold: what is not done leaves the archive as it was, and the next deed goes on.
func TestArchiveRunTold(t *testing.T) {
	list := []impl.Deed{
		deedKeep("a", "<p>x"), {}, deedKeep("b b", "x"), deedKeep("b", tooDeep()), deedDrop("b"), deedOf(6), deedOf(doOpen), tornAt(deedOf(doOpen), 1, 0),
		deedKeep("b", "y"), tornAt(deedDrop("a"), 5, 0), tornAt(deedDrop("a"), 2, keepAll), deedKeep("c", "z"), deedKeep("c", strings.Repeat("x", 3001)), deedOf(doCrash), deedOf(doOpen),
		tornAt(deedDrop("q"), 4, 0), tornAt(deedDrop("b"), 3, 1), tornAt(deedOf(doCompact), 1, 1), deedOf(doOpen), tornAt(deedOf(doCompact), 0, 1), deedKeep("d", ""),
	}
	want := []int{
		arDone, arBad, arUrl, arPage, arNone, arBad, arUp, arBad,
		arDone, arBad, arDone, arDown, arBad, arDown, arDone,
		arNone, arDone, arDown, arDone, arBad, arDone,
	}
	a, codes := checkRun(t, impl.ArchiveNew(), list)
	if !slices.Equal(codes, want) {
		t.Fatalf("%v, want %v", codes, want)
	}
	checkHasJust(t, a, map[string]string{"a": "<p>x", "d": ""})
	for _, d := range wrongDeeds() {
		a, codes := impl.ArchiveRun(twoKept(), []impl.Deed{d, deedKeep("n", "x"), d})
		if !slices.Equal(codes, []int{arBad, arDone, arBad}) || len(a.List) != 3 {
			t.Errorf("beside %s: %v, %s", deedText(d), codes, entriesText(a.List))
		}
	}
}

// deedsOf takes a deed of each three bytes, of which few are wrong.
func deedsOf(b []byte) []impl.Deed {
	list := []impl.Deed{}
	for ; len(b) >= 3; b = b[3:] {
		address := rightUrls()[int(b[1])%6]
		s := somePages()[int(b[1])/6%len(somePages())]
		step, keep := int(b[2])%8, int(b[2])/8*2654435761%(keepAll+1)
		if step > 4 {
			step, keep = 0, 0
		}
		switch b[0] % 16 {
		case 0, 1, 2, 3, 4, 5:
			list = append(list, tornAt(deedKeep(address, s), step, keep))
		case 6, 7:
			list = append(list, tornAt(deedDrop(address), step, keep))
		case 8, 9:
			list = append(list, tornAt(deedOf(doCompact), step, keep))
		case 10:
			list = append(list, deedOf(doCrash))
		case 11, 12, 13, 14:
			list = append(list, deedOf(doOpen))
		default:
			list = append(list, impl.Deed{Kind: int(b[1]) % 8, Url: address, Page: s, Step: step, Keep: keep})
		}
	}
	return list
}

func someDeeds(seed uint32, n int) []impl.Deed {
	b := []byte{}
	for range 3 * n {
		seed = seed*1664525 + 1013904223
		b = append(b, byte(seed>>24))
	}
	return deedsOf(b)
}

// checkKeptByHand does the deeds, and keeps beside them by hand what was kept last; what a tear leaves is told by its
// step and its first bit alone.
func checkKeptByHand(t *testing.T, list []impl.Deed) impl.Archive {
	t.Helper()
	a, pages := impl.ArchiveNew(), map[string]string{}
	for _, d := range list {
		next, code := checkDo(t, a, d)
		if code != arDone {
			continue
		}
		a = next
		isThere := d.Step == 0 || isWholeBehind(d)
		if d.Kind == doKeep && isThere {
			pages[d.Url] = d.Page
		}
		if d.Kind == doDrop && isThere {
			delete(pages, d.Url)
		}
		if up, code := impl.ArchiveOpen(a); code == arDone {
			checkHasJust(t, up, pages)
		} else {
			checkHasJust(t, a, pages)
		}
	}
	return a
}

func TestDeedsKeptByHand(t *testing.T) {
	tears := 0
	for run := range 20 {
		list := someDeeds(uint32(run), 50)
		a := checkKeptByHand(t, list)
		got, codes := checkRun(t, impl.ArchiveNew(), list)
		if !sameArchive(got, a) {
			t.Errorf("run %d: %s, deed by deed %s", run, archiveText(got), archiveText(a))
		}
		for at, d := range list {
			if d.Step > 0 && codes[at] == arDone {
				tears++
			}
		}
	}
	if tears < 50 {
		t.Error("no more tears than", tears)
	}
}

// TestArchiveRunInHalves: a run is its deeds one behind the other, wherever it is cut.
func TestArchiveRunInHalves(t *testing.T) {
	list := someDeeds(19, 60)
	whole, codes := checkRun(t, twoKept(), list)
	for cut := range len(list) + 1 {
		first, firstCodes := impl.ArchiveRun(twoKept(), list[:cut])
		second, secondCodes := impl.ArchiveRun(first, list[cut:])
		if !sameArchive(second, whole) || !slices.Equal(joined(firstCodes, secondCodes), codes) {
			t.Fatalf("cut at %d: %v and %v, as a whole %v", cut, firstCodes, secondCodes, codes)
		}
	}
	a := twoKept()
	for at, d := range list {
		one, oneCodes := checkRun(t, a, []impl.Deed{d})
		if !slices.Equal(oneCodes, codes[at:at+1]) {
			t.Fatalf("deed %d alone: %v, in the run %d", at, oneCodes, codes[at])
		}
		a = one
	}
	if !sameArchive(a, whole) {
		t.Errorf("one behind the other: %s, in a run %s", archiveText(a), archiveText(whole))
	}
}

// TestTearsTurnOtherBytesOnly: the bytes that count are as they were behind each tear, whatever is kept of it.
func TestTearsTurnOtherBytesOnly(t *testing.T) {
	for what, a := range tearable() {
		counted, _ := expectedAreaGet(a.Disk, a.Head.Area, 0, a.Head.End)
		for _, d := range tornKinds() {
			for _, keep := range fewKeeps() {
				for step := 1; step <= 4; step++ {
					torn, _ := impl.ArchiveDo(a, tornAt(d, step, keep))
					if got, _ := expectedAreaGet(torn.Disk, a.Head.Area, 0, a.Head.End); !bytes.Equal(got, counted) {
						t.Errorf("%s: %s turned bytes that count", what, deedText(tornAt(d, step, keep)))
					}
				}
			}
		}
	}
}

func TestDeedsOneBehindTheOther(t *testing.T) {
	a := twoKept()
	tear := tornAt(deedKeep("n", longPage(20)), 1, 5)
	want, _ := expectedDo(a, tear)
	for what, other := range joinedArchives(rightArchives(), badArchives()) {
		for _, d := range tornKinds() {
			impl.ArchiveDo(other, d)
			impl.ArchiveDo(other, tornAt(d, 3, 1))
			impl.ArchiveDo(other, tornAt(d, 9, 1))
			impl.DeedOk(tornAt(d, 9, 1))
		}
		impl.ArchiveRun(other, tornKinds())
		if got, code := impl.ArchiveDo(a, tear); code != arDone || !sameArchive(got, want) {
			t.Fatalf("behind calls of %s: %s, %d", what, archiveText(got), code)
		}
	}
}

func TestTornAskedByManyAtOnce(t *testing.T) {
	a, list := twoKept(), someDeeds(3, 10)
	tear := tornAt(deedKeep("n", longPage(20)), 3, 1)
	torn, _ := expectedDo(a, tear)
	run, wantCodes := expectedRun(a, list)
	var all sync.WaitGroup
	for range 8 {
		all.Go(func() {
			for range 10 {
				one, _ := impl.ArchiveDo(a, tear)
				many, codes := impl.ArchiveRun(a, list)
				if !sameArchive(one, torn) || !sameArchive(many, run) || !slices.Equal(codes, wantCodes) {
					t.Error("another answer, asked by many")
				}
				fillArchive(one)
				fillArchive(many)
				overwrite(codes, -7)
			}
		})
	}
	all.Wait()
	checkArchiveOk(t, "behind all", a, true)
}

func FuzzDeed(f *testing.F) {
	f.Add(1, "n", "<p>x", 3, 1)
	f.Add(2, "a", "", 1, 0)
	f.Add(3, "", "", 4, keepAll)
	f.Add(5, "", "", 0, 0)
	f.Add(6, "a b", "<b>", -1, math.MaxInt)
	f.Fuzz(func(t *testing.T, kind int, address string, s string, step int, keep int) {
		d := impl.Deed{Kind: kind, Url: address, Page: s, Step: step, Keep: keep}
		checkDeed(t, d, deedFits(d))
		for _, a := range []impl.Archive{twoKept(), downOf(twoKept()), archiveOf(lastNo, 1, keeping("a", "x")), {}} {
			checkDo(t, a, d)
			checkRun(t, a, []impl.Deed{d, deedOf(doOpen), d})
			if _, code := expectedDo(a, d); code == arDone && step > 0 {
				checkTear(t, a, d)
			}
		}
	})
}

func FuzzDeeds(f *testing.F) {
	f.Add([]byte{0, 0, 0, 1, 7, 11, 14, 0, 0, 6, 0, 3, 11, 0, 0, 8, 0, 2})
	f.Add([]byte{15, 1, 2, 15, 3, 4, 10, 0, 0, 12, 0, 0})
	f.Fuzz(func(t *testing.T, b []byte) {
		list := deedsOf(b[:min(len(b), 90)])
		a := checkKeptByHand(t, list)
		if got, _ := checkRun(t, impl.ArchiveNew(), list); !sameArchive(got, a) {
			t.Fatalf("%s, deed by deed %s", archiveText(got), archiveText(a))
		}
	})
}
