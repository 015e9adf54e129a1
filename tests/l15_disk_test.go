package tests

import (
	"math"
	"slices"
	"strconv"
	"strings"
	"sync"
	"testing"

	"loop.example/g00118/impl"
)

// bytesFrom is a sector of bytes of which each is one more than the one ahead, so that 255 is followed by 0.
func bytesFrom(first int) string {
	text := make([]byte, 64)
	for i := range text {
		text[i] = byte(first + i)
	}
	return string(text)
}

func sectorOfOne(b byte) string {
	return strings.Repeat(string([]byte{b}), 64)
}

// markedSafe are 130 sectors, no two alike, and none as one that the tests put.
func markedSafe() []string {
	safe := []string{}
	for at := range 130 {
		safe = append(safe, "safe "+strconv.Itoa(1000+at)+strings.Repeat("\x00\xff.", 18)+"!")
	}
	return safe
}

func put(at int, text string) impl.Put {
	return impl.Put{At: at, Text: text}
}

// putsTo has a put for each place, no two texts alike.
func putsTo(places ...int) []impl.Put {
	late := []impl.Put{}
	for number, at := range places {
		late = append(late, put(at, numberedText(number)))
	}
	return late
}

func numberedText(number int) string {
	text := "put " + strconv.Itoa(number) + " "
	return text + bytesFrom(number * 5)[len(text):]
}

func diskWith(late ...impl.Put) impl.Disk {
	return impl.Disk{Safe: markedSafe(), Late: late}
}

// manyPuts has n puts that come to each of the first sectors again and again.
func manyPuts(n int, sectors int) impl.Disk {
	places := []int{}
	for number := range n {
		places = append(places, number*7%sectors)
	}
	return diskWith(putsTo(places...)...)
}

// diskFits and what is expected below go by the sentences of the document.
func diskFits(d impl.Disk) bool {
	bad := 0
	for _, text := range d.Safe {
		if len(text) < 64 || len(text) > 64 {
			bad++
		}
	}
	for _, p := range d.Late {
		if p.At <= -1 || p.At >= 130 || len(p.Text) < 64 || len(p.Text) > 64 {
			bad++
		}
	}
	return bad == 0 && len(d.Safe) == 130 && len(d.Late) <= 200
}

func expectedSector(d impl.Disk, at int) (string, bool) {
	if !diskFits(d) || at <= -1 || at >= 130 {
		return "", false
	}
	text := d.Safe[at]
	for _, p := range d.Late {
		if p.At == at {
			text = p.Text
		}
	}
	return text, true
}

func expectedDiskPut(d impl.Disk, at int, s string) (impl.Disk, bool) {
	if !diskFits(d) {
		return impl.Disk{}, false
	}
	more := impl.Disk{Safe: slices.Clone(d.Safe), Late: append(slices.Clone(d.Late), put(at, s))}
	if !diskFits(more) {
		return cloneDisk(d), false
	}
	return more, true
}

// expectedBits are the bits of the number from the lowest on, by halving.
func expectedBits(keep int) [31]bool {
	bits := [31]bool{}
	for i := range bits {
		bits[i] = keep%2 == 1
		keep /= 2
	}
	return bits
}

func expectedCrash(d impl.Disk, keep int) (impl.Disk, bool) {
	if !diskFits(d) || keep <= -1 || keep >= 2147483648 {
		return impl.Disk{}, false
	}
	bits, bit := expectedBits(keep), 0
	safe := slices.Clone(d.Safe)
	for _, p := range d.Late {
		if bits[bit] {
			safe[p.At] = p.Text
		}
		if bit++; bit == 31 {
			bit = 0
		}
	}
	return impl.Disk{Safe: safe}, true
}

func cloneDisk(d impl.Disk) impl.Disk {
	return impl.Disk{Safe: slices.Clone(d.Safe), Late: slices.Clone(d.Late)}
}

func sameDisk(a impl.Disk, b impl.Disk) bool {
	return slices.Equal(a.Safe, b.Safe) && slices.Equal(a.Late, b.Late)
}

// diskText shows what differs from a disk of bytes 0, as much as a reader needs.
func diskText(d impl.Disk) string {
	parts := []string{strconv.Itoa(len(d.Safe)) + " safe:"}
	for at, text := range d.Safe {
		if text != sectorOfOne(0) && len(parts) < 8 {
			parts = append(parts, strconv.Itoa(at)+"="+strconv.Quote(text[:min(len(text), 10)]))
		}
	}
	parts = append(parts, strconv.Itoa(len(d.Late))+" late:")
	for _, p := range d.Late[:min(len(d.Late), 8)] {
		parts = append(parts, strconv.Itoa(p.At)+"="+strconv.Quote(p.Text[:min(len(p.Text), 10)]))
	}
	return strings.Join(parts, " ")
}

// guardedDisk is a disk with spare room behind both of its lists.
type guardedDisk struct {
	disk impl.Disk
	safe guarded[string]
	late guarded[impl.Put]
}

func guardDisk(d impl.Disk) guardedDisk {
	safe, late := guard(d.Safe, sectorOfOne('z')), guard(d.Late, put(1, sectorOfOne('y')))
	return guardedDisk{disk: impl.Disk{Safe: safe.arg, Late: late.arg}, safe: safe, late: late}
}

func (g guardedDisk) untouched() bool {
	return g.safe.untouched() && g.late.untouched()
}

// fillDisk writes over both lists and all the room behind them, and appends to both.
func fillDisk(d impl.Disk) {
	overwrite(d.Safe, "over")
	overwrite(d.Late, put(-7, "over"))
	overwrite(append(d.Safe, "behind"), "behind")
	overwrite(append(d.Late, put(-8, "behind")), put(-9, "behind"))
}

// checkDiskAnswer asks for the answer, and that it is new memory: one list of it shares none with the other, with
// another answer, nor with what was given.
func checkDiskAnswer(t *testing.T, name string, in impl.Disk, want impl.Disk, wantOk bool, call func(impl.Disk) (impl.Disk, bool)) impl.Disk {
	t.Helper()
	g := guardDisk(in)
	got, ok := call(g.disk)
	if ok != wantOk || !sameDisk(got, want) {
		t.Fatalf("%s of %s = %s, %v; want %s, %v", name, diskText(in), diskText(got), ok, diskText(want), wantOk)
	}
	if !g.untouched() {
		t.Fatalf("%s of %s wrote into the disk, or behind it", name, diskText(in))
	}
	second, _ := call(g.disk)
	fillDisk(got)
	if !g.untouched() || !sameDisk(second, want) {
		t.Fatalf("%s of %s: what is answered shares memory with the disk or with another answer", name, diskText(in))
	}
	fillDisk(g.disk)
	if !sameDisk(second, want) {
		t.Fatalf("%s of %s: a later change of the disk is seen in the answer", name, diskText(in))
	}
	checkListsApart(t, name, second)
	return want
}

func checkListsApart(t *testing.T, name string, d impl.Disk) {
	t.Helper()
	late := slices.Clone(d.Late)
	overwrite(append(d.Safe, "over"), "over")
	overwrite(d.Safe, "over")
	if !slices.Equal(d.Late, late) {
		t.Fatalf("%s: Safe and Late share memory", name)
	}
}

func checkDiskOk(t *testing.T, what string, d impl.Disk, want bool) {
	t.Helper()
	g := guardDisk(d)
	if got := impl.DiskOk(g.disk); got != want {
		t.Errorf("DiskOk of %s (%s) = %v", what, diskText(d), got)
	}
	if diskFits(d) != want {
		t.Errorf("the tests' own rule holds %s to be %v", what, !want)
	}
	if !g.untouched() {
		t.Errorf("DiskOk wrote into %s", what)
	}
}

func checkSector(t *testing.T, d impl.Disk, at int) string {
	t.Helper()
	g := guardDisk(d)
	got, ok := impl.SectorOf(g.disk, at)
	if want, wantOk := expectedSector(d, at); got != want || ok != wantOk {
		t.Errorf("SectorOf of %s at %d = %q, %v; want %q, %v", diskText(d), at, got, ok, want, wantOk)
	}
	if !g.untouched() {
		t.Errorf("SectorOf at %d wrote into the disk", at)
	}
	fillDisk(g.disk)
	if want, _ := expectedSector(d, at); got != want {
		t.Errorf("SectorOf at %d: a later change of the disk is seen", at)
	}
	return got
}

func checkPut(t *testing.T, d impl.Disk, at int, s string) (impl.Disk, bool) {
	t.Helper()
	want, ok := expectedDiskPut(d, at, s)
	name := "DiskPut to " + strconv.Itoa(at) + " of " + strconv.Itoa(len(s)) + " bytes"
	checkDiskAnswer(t, name, d, want, ok, func(d impl.Disk) (impl.Disk, bool) { return impl.DiskPut(d, at, s) })
	return want, ok
}

func checkSync(t *testing.T, d impl.Disk) impl.Disk {
	t.Helper()
	want, ok := expectedCrash(d, 2147483647)
	checkDiskAnswer(t, "DiskSync", d, want, ok, impl.DiskSync)
	for at := range want.Safe {
		if text, _ := impl.SectorOf(d, at); text != want.Safe[at] {
			t.Fatalf("DiskSync of %s: sector %d is not as SectorOf told it", diskText(d), at)
		}
	}
	return want
}

func checkCrash(t *testing.T, d impl.Disk, keep int) impl.Disk {
	t.Helper()
	want, ok := expectedCrash(d, keep)
	name := "DiskCrash by " + strconv.Itoa(keep)
	checkDiskAnswer(t, name, d, want, ok, func(d impl.Disk) (impl.Disk, bool) { return impl.DiskCrash(d, keep) })
	got, _ := impl.DiskCrash(d, keep)
	checkPromisedSectors(t, name, d, got)
	return got
}

// checkPromisedSectors goes by promise 15.
func checkPromisedSectors(t *testing.T, name string, before impl.Disk, after impl.Disk) {
	t.Helper()
	for at, text := range after.Safe {
		fits := before.Safe[at] == text
		for _, p := range before.Late {
			fits = fits || p == put(at, text)
		}
		if !fits {
			t.Fatalf("%s of %s: sector %d is neither as it was nor as one of its puts: %q", name, diskText(before), at, text)
		}
	}
	if len(after.Late) != 0 {
		t.Fatalf("%s of %s leaves something late", name, diskText(before))
	}
}

// keptSets are numbers of which each tells another choice of puts.
func keptSets() []int {
	sets := []int{0, 2147483647, 1431655765, 715827882, 1073741823, 2147483646, 7, 305419896}
	for bit := range 31 {
		sets = append(sets, 1<<bit, 2147483647-1<<bit)
	}
	return sets
}

func wrongKeeps() []int {
	return []int{-1, -2, 2147483648, 2147483649, 4294967295, 4294967296, 1 << 62, math.MaxInt, math.MinInt, math.MinInt + 1, -2147483648, -2147483647}
}

func wrongPlaces() []int {
	return []int{-1, -2, -64, -130, 130, 131, 256, 1 << 32, math.MaxInt, math.MinInt, math.MinInt + 1}
}

// wrongTexts have another length than a sector.
func wrongTexts() []string {
	return []string{"", "a", bytesFrom(0)[:63], bytesFrom(0) + "\x00", strings.Repeat("ab", 64), strings.Repeat("é", 64), strings.Repeat("x", 4096)}
}

// wrongDisks are each wrong in one way; none of them is to be taken for a right one.
func wrongDisks() map[string]impl.Disk {
	with := func(turn func(d *impl.Disk)) impl.Disk {
		d := diskWith(putsTo(3, 4, 3)...)
		turn(&d)
		return d
	}
	disks := map[string]impl.Disk{
		"nothing":             {},
		"empty lists":         {Safe: []string{}, Late: []impl.Put{}},
		"puts alone":          {Late: putsTo(0)},
		"one safe text less":  with(func(d *impl.Disk) { d.Safe = d.Safe[:129] }),
		"one safe text more":  with(func(d *impl.Disk) { d.Safe = append(d.Safe, bytesFrom(0)) }),
		"twice as many texts": with(func(d *impl.Disk) { d.Safe = joined(d.Safe, d.Safe) }),
		"one text":            with(func(d *impl.Disk) { d.Safe = d.Safe[:1] }),
		"MaxLate + 1 puts":    manyPuts(201, 130),
		"many puts":           manyPuts(400, 130),
	}
	for _, text := range wrongTexts() {
		for _, at := range []int{0, 1, 64, 129} {
			disks["safe text "+strconv.Itoa(at)+" of "+strconv.Itoa(len(text))+" bytes"] = with(func(d *impl.Disk) { d.Safe[at] = text })
		}
		for number := range 3 {
			disks["put "+strconv.Itoa(number)+" of "+strconv.Itoa(len(text))+" bytes"] = with(func(d *impl.Disk) { d.Late[number].Text = text })
		}
	}
	for _, at := range wrongPlaces() {
		for number := range 3 {
			disks["put "+strconv.Itoa(number)+" to "+strconv.Itoa(at)] = with(func(d *impl.Disk) { d.Late[number].At = at })
		}
	}
	return disks
}

// rightDisks are of many kinds.
func rightDisks() []impl.Disk {
	full := []impl.Disk{
		impl.DiskNew(),
		diskWith(),
		diskWith(putsTo(0)...),
		diskWith(putsTo(129)...),
		diskWith(putsTo(3, 4, 3)...),
		diskWith(putsTo(3, 3, 3, 3)...),
		diskWith(putsTo(5, 3, 129, 3, 0, 5)...),
		manyPuts(30, 9), manyPuts(31, 9), manyPuts(32, 9), manyPuts(33, 130), manyPuts(62, 4), manyPuts(63, 4), manyPuts(94, 130),
		manyPuts(199, 130), manyPuts(200, 130), manyPuts(200, 1), manyPuts(200, 2),
	}
	return full
}

func TestDiskNumbers(t *testing.T) {
	if impl.SectorSize != 64 || impl.MaxSectors != 130 || impl.MaxLate != 200 {
		t.Error(impl.SectorSize, impl.MaxSectors, impl.MaxLate)
	}
}

func TestDiskOkSafeTexts(t *testing.T) {
	sized := func(n int) impl.Disk { return impl.Disk{Safe: repeated(sectorOfOne(7), n)} }
	checkDiskOk(t, "MaxSectors texts", sized(130), true)
	for _, n := range []int{0, 1, 2, 64, 128, 129, 131, 132, 260, 4096} {
		checkDiskOk(t, strconv.Itoa(n)+" texts", sized(n), false)
	}
	for at := range 130 {
		for _, text := range wrongTexts() {
			d := sized(130)
			d.Safe[at] = text
			checkDiskOk(t, "a text of "+strconv.Itoa(len(text))+" bytes at "+strconv.Itoa(at), d, false)
		}
	}
	checkDiskOk(t, "MaxSectors empty texts", impl.Disk{Safe: make([]string, 130)}, false)
	even := sized(130)
	even.Safe[0], even.Safe[1] = even.Safe[0]+"x", even.Safe[1][1:]
	checkDiskOk(t, "as many bytes, cut elsewhere", even, false)
}

func TestDiskOkPuts(t *testing.T) {
	for _, n := range []int{0, 1, 199, 200} {
		checkDiskOk(t, strconv.Itoa(n)+" puts", manyPuts(n, 130), true)
	}
	for _, n := range []int{201, 202, 400, 5000} {
		checkDiskOk(t, strconv.Itoa(n)+" puts", manyPuts(n, 130), false)
	}
	for number := range 200 {
		d := manyPuts(200, 130)
		for _, at := range wrongPlaces() {
			d.Late[number].At = at
			checkDiskOk(t, "put "+strconv.Itoa(number)+" to "+strconv.Itoa(at), d, false)
		}
		d.Late[number].At = number % 130
		checkDiskOk(t, "put "+strconv.Itoa(number)+" turned", d, true)
		for _, text := range wrongTexts() {
			d.Late[number].Text = text
			checkDiskOk(t, "put "+strconv.Itoa(number)+" of "+strconv.Itoa(len(text))+" bytes", d, false)
		}
	}
	for _, at := range []int{0, 1, 128, 129} {
		checkDiskOk(t, "a put to "+strconv.Itoa(at), diskWith(putsTo(at)...), true)
	}
}

func TestDiskOkBytesOfEveryValue(t *testing.T) {
	for b := range 256 {
		text := sectorOfOne(byte(b))
		checkDiskOk(t, "sectors of one byte", impl.Disk{Safe: repeated(text, 130), Late: []impl.Put{put(0, text)}}, true)
		checkDiskOk(t, "sectors of all bytes", impl.Disk{Safe: repeated(bytesFrom(b), 130), Late: []impl.Put{put(129, bytesFrom(b))}}, true)
	}
}

func TestDiskOkOfOthers(t *testing.T) {
	for what, d := range wrongDisks() {
		checkDiskOk(t, what, d, false)
	}
	for _, d := range rightDisks() {
		checkDiskOk(t, "a right one", d, true)
	}
}

func TestDiskNew(t *testing.T) {
	want := impl.Disk{Safe: repeated(string(make([]byte, 64)), 130)}
	first, second := impl.DiskNew(), impl.DiskNew()
	if !sameDisk(first, want) || len(first.Late) != 0 || !impl.DiskOk(first) {
		t.Error("DiskNew =", diskText(first))
	}
	checkListsApart(t, "DiskNew", first)
	fillDisk(first)
	if !sameDisk(second, want) || !sameDisk(impl.DiskNew(), want) {
		t.Error("two new disks share memory")
	}
	for at := range 130 {
		if text := checkSector(t, second, at); text != sectorOfOne(0) {
			t.Errorf("a new sector %d is %q", at, text)
		}
	}
}

func TestSectorOf(t *testing.T) {
	d := diskWith(put(3, sectorOfOne('a')), put(4, sectorOfOne('b')), put(3, sectorOfOne('c')), put(129, sectorOfOne('d')), put(0, sectorOfOne('e')))
	wants := map[int]byte{3: 'c', 4: 'b', 129: 'd', 0: 'e'}
	for at := range 130 {
		got, b := checkSector(t, d, at), wants[at]
		if b != 0 && got != sectorOfOne(b) || b == 0 && got != d.Safe[at] {
			t.Errorf("sector %d is %q", at, got)
		}
	}
	for _, d := range rightDisks() {
		for _, at := range joined(wrongPlaces(), []int{0, 1, 2, 3, 4, 5, 64, 128, 129}) {
			checkSector(t, d, at)
		}
	}
}

func TestSectorsWithPutsOfOthersBetween(t *testing.T) {
	eachNumbers(4, 0, 2, func(places []int) {
		d := diskWith(putsTo(places...)...)
		for at := range 4 {
			checkSector(t, d, at)
		}
	})
}

func TestSectorPutAgainAsItWas(t *testing.T) {
	d := diskWith()
	d.Late = []impl.Put{put(5, sectorOfOne('a')), put(5, d.Safe[5])}
	if got := checkSector(t, d, 5); got != d.Safe[5] {
		t.Errorf("sector 5 is %q", got)
	}
	if got := checkSync(t, d); got.Safe[5] != d.Safe[5] {
		t.Errorf("safe: %q", got.Safe[5])
	}
	if got := checkCrash(t, d, 1); got.Safe[5] != sectorOfOne('a') {
		t.Errorf("by the first alone: %q", got.Safe[5])
	}
}

func TestDiskPut(t *testing.T) {
	for _, d := range rightDisks() {
		for _, at := range []int{0, 1, 3, 64, 128, 129} {
			more, ok := checkPut(t, d, at, bytesFrom(200))
			if ok != (len(d.Late) < 200) {
				t.Errorf("DiskPut with %d puts = %v", len(d.Late), ok)
			}
			if got := checkSector(t, more, at); ok && got != bytesFrom(200) {
				t.Errorf("sector %d is %q behind its put", at, got)
			}
		}
	}
	for b := range 256 {
		checkPut(t, diskWith(putsTo(3)...), b%130, bytesFrom(b))
		checkPut(t, diskWith(putsTo(3)...), b%130, sectorOfOne(byte(b)))
	}
	d := diskWith()
	if _, ok := checkPut(t, d, 7, d.Safe[7]); !ok {
		t.Error("a put of what is there is none")
	}
}

func TestDiskPutRefuses(t *testing.T) {
	for _, d := range rightDisks() {
		for _, at := range wrongPlaces() {
			checkPut(t, d, at, bytesFrom(0))
		}
		for _, text := range wrongTexts() {
			checkPut(t, d, 3, text)
			checkPut(t, d, 130, text)
		}
	}
}

func TestDiskPutUpToMaxLate(t *testing.T) {
	d := impl.DiskNew()
	for number := range 200 {
		more, ok := impl.DiskPut(d, number%130, numberedText(number))
		if !ok || len(more.Late) != number+1 || more.Late[number] != put(number%130, numberedText(number)) || len(d.Late) != number {
			t.Fatalf("put %d: %v, %s", number, ok, diskText(more))
		}
		d = more
	}
	if more, ok := checkPut(t, d, 0, bytesFrom(0)); ok || !sameDisk(more, d) {
		t.Error("more than MaxLate puts")
	}
	synced := checkSync(t, d)
	if _, ok := checkPut(t, synced, 0, bytesFrom(0)); !ok {
		t.Error("no put behind a sync")
	}
}

func TestDiskSync(t *testing.T) {
	for _, d := range rightDisks() {
		synced := checkSync(t, d)
		if !impl.DiskOk(synced) || len(synced.Late) != 0 {
			t.Errorf("DiskSync of %s is %s", diskText(d), diskText(synced))
		}
		if again := checkSync(t, synced); !sameDisk(again, synced) {
			t.Error("a second sync turns something")
		}
	}
	got := checkSync(t, diskWith(putsTo(3, 4, 3, 5, 3)...))
	if got.Safe[3] != numberedText(4) || got.Safe[4] != numberedText(1) || got.Safe[5] != numberedText(3) || got.Safe[6] != markedSafe()[6] {
		t.Error("DiskSync:", diskText(got))
	}
}

func TestDiskCrash(t *testing.T) {
	for _, d := range rightDisks() {
		for _, keep := range keptSets() {
			checkCrash(t, d, keep)
		}
		if got := checkCrash(t, d, 0); !slices.Equal(got.Safe, d.Safe) {
			t.Error("a crash that keeps nothing does something")
		}
		synced, _ := impl.DiskSync(d)
		if got := checkCrash(t, d, 2147483647); !sameDisk(got, synced) {
			t.Error("a crash that keeps all is no sync")
		}
	}
}

func TestDiskCrashOfTwoPutsToOneSector(t *testing.T) {
	d := diskWith(putsTo(8, 9, 8)...)
	for keep, want := range []string{markedSafe()[8], numberedText(0), markedSafe()[8], numberedText(0), numberedText(2), numberedText(2), numberedText(2), numberedText(2)} {
		if got := checkCrash(t, d, keep); got.Safe[8] != want {
			t.Errorf("by %d sector 8 is %q, want %q", keep, got.Safe[8], want)
		}
	}
}

func TestDiskCrashBits(t *testing.T) {
	places := []int{}
	for number := range 200 {
		places = append(places, number%130)
	}
	full := diskWith(putsTo(places...)...)
	for bit := range 31 {
		got := checkCrash(t, full, 1<<bit)
		for at := range 130 {
			want := full.Safe[at]
			for _, number := range []int{at, at + 130} {
				if number < 200 && number%31 == bit {
					want = numberedText(number)
				}
			}
			if got.Safe[at] != want {
				t.Errorf("bit %d: sector %d is %q, want %q", bit, at, got.Safe[at], want)
			}
		}
	}
	for _, c := range []struct{ number, bit int }{{0, 0}, {30, 30}, {31, 0}, {32, 1}, {61, 30}, {62, 0}, {63, 1}, {92, 30}, {93, 0}, {199, 13}} {
		at := places[c.number]
		late := slices.Clone(full.Late)
		late[c.number].Text = sectorOfOne('!')
		if got := checkCrash(t, diskWith(late[:c.number+1]...), 1<<c.bit); got.Safe[at] != sectorOfOne('!') {
			t.Errorf("put %d is not kept by bit %d", c.number, c.bit)
		}
		if got := checkCrash(t, diskWith(late[:c.number+1]...), 2147483647-1<<c.bit); got.Safe[at] == sectorOfOne('!') {
			t.Errorf("put %d is kept without bit %d", c.number, c.bit)
		}
	}
}

func TestDiskCrashKeepsThatAreWrong(t *testing.T) {
	for _, d := range rightDisks() {
		for _, keep := range wrongKeeps() {
			checkCrash(t, d, keep)
		}
	}
}

func TestEachCrashOfFewPuts(t *testing.T) {
	eachNumbers(5, 0, 2, func(places []int) {
		d := diskWith(putsTo(places...)...)
		for keep := range 32 {
			got, ok := impl.DiskCrash(d, keep)
			if want, _ := expectedCrash(d, keep); !ok || !sameDisk(got, want) {
				t.Fatalf("DiskCrash of %s by %d = %s, %v", diskText(d), keep, diskText(got), ok)
			}
			checkPromisedSectors(t, "DiskCrash", d, got)
		}
	})
}

func TestWrongDisksAreRefused(t *testing.T) {
	for what, d := range wrongDisks() {
		if diskFits(d) {
			t.Fatal("a right disk among the wrong ones:", what)
		}
		for _, at := range []int{-1, 0, 3, 129, 130, math.MaxInt, math.MinInt} {
			checkSector(t, d, at)
			checkPut(t, d, at, bytesFrom(0))
			checkPut(t, d, at, "short")
		}
		checkSync(t, d)
		for _, keep := range []int{0, 1, 2147483647, -1, 2147483648} {
			checkCrash(t, d, keep)
		}
	}
}

// workedDisk goes on from a new disk by the bytes, three a step, and holds each step against what is expected.
func workedDisk(t *testing.T, steps []byte) impl.Disk {
	t.Helper()
	d := impl.DiskNew()
	for ; len(steps) >= 3; steps = steps[3:] {
		kind, at, more := int(steps[0])%16, int(steps[1])-2, int(steps[2])
		switch kind {
		case 0:
			d = checkSync(t, d)
		case 1:
			d = checkCrash(t, d, (more*16843009+at*257)%2147483648)
		case 2:
			if text := strings.Repeat("q", more); len(text) != 64 {
				d, _ = checkPut(t, d, at, text)
			}
		case 3:
			checkCrash(t, d, -more)
		default:
			if kind > 8 {
				at %= 4
			}
			d, _ = checkPut(t, d, at, bytesFrom(more))
			checkSector(t, d, at)
		}
	}
	return d
}

func TestDisksThatAreWorkedOn(t *testing.T) {
	state := uint32(15)
	for run := range 25 {
		steps := []byte{}
		for range 3 * (20 + run*20) {
			state = state*1664525 + 1013904223
			steps = append(steps, byte(state>>24))
		}
		if d := workedDisk(t, steps); !impl.DiskOk(d) {
			t.Fatal("not right any more:", diskText(d))
		}
	}
	if d := workedDisk(t, repeated(byte(5), 3*220)); len(d.Late) != 200 {
		t.Error("puts alone:", diskText(d))
	}
}

func TestDiskCallsOneBehindTheOther(t *testing.T) {
	d := manyPuts(63, 5)
	want, _ := expectedCrash(d, 5)
	for _, keep := range []int{5, 2147483647, 5, 0, 5} {
		impl.DiskPut(d, 3, bytesFrom(keep))
		impl.DiskSync(manyPuts(200, 7))
		impl.DiskCrash(d, keep)
		if got, _ := impl.DiskCrash(d, 5); !sameDisk(got, want) {
			t.Error("a crash hangs on what was called ahead of it")
		}
	}
}

func TestDiskAskedByManyAtOnce(t *testing.T) {
	d := manyPuts(100, 40)
	wantCrash, _ := expectedCrash(d, 1431655765)
	wantPut, _ := expectedDiskPut(d, 3, bytesFrom(9))
	var all sync.WaitGroup
	for range 8 {
		all.Go(func() {
			for range 20 {
				crashed, _ := impl.DiskCrash(d, 1431655765)
				more, _ := impl.DiskPut(d, 3, bytesFrom(9))
				synced, _ := impl.DiskSync(d)
				text, _ := impl.SectorOf(d, 7)
				if want, _ := expectedSector(d, 7); !sameDisk(crashed, wantCrash) || !sameDisk(more, wantPut) || synced.Safe[7] != want || text != want {
					t.Error("another answer, asked by many")
				}
				fillDisk(crashed)
				fillDisk(more)
				fillDisk(synced)
			}
		})
	}
	all.Wait()
}

func FuzzDisk(f *testing.F) {
	f.Add([]byte{4, 2, 3, 9, 5, 6, 1, 2, 3}, 1, 5)
	f.Add([]byte{9, 2, 3, 9, 2, 6, 0, 2, 3, 12, 1, 1}, 2147483647, 0)
	f.Add(repeated(byte(9), 3*210), 2147483648, 130)
	f.Add([]byte{}, -1, -1)
	f.Fuzz(func(t *testing.T, steps []byte, keep int, at int) {
		d := workedDisk(t, steps[:min(len(steps), 3*260)])
		checkCrash(t, d, keep)
		checkSync(t, d)
		checkSector(t, d, at)
		checkPut(t, d, at, bytesFrom(keep&255))
		d.Late = append(d.Late, put(at, bytesFrom(at&255)))
		checkDiskOk(t, "a put more", d, diskFits(d))
		checkCrash(t, d, keep)
	})
}
