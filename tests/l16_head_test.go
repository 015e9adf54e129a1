package tests

import (
	"bytes"
	"math"
	"slices"
	"strconv"
	"strings"
	"sync"
	"testing"

	"loop.example/g00118/impl"
)

func head(no int, area int, end int) impl.Head {
	return impl.Head{No: no, Area: area, End: end}
}

// paddedForms has the forms of the numbers and bytes 0 up to a sector, whatever the numbers are.
func paddedForms(forms ...[]byte) string {
	text := make([]byte, 64)
	copy(text, bytes.Join(forms, nil))
	return string(text)
}

// headFits and what is expected below go by the sentences of the document.
func headFits(h impl.Head) bool {
	return h.No > 0 && h.No < 1000000001 && (h.Area == 0 || h.Area == 1) && h.End > -1 && h.End < 4097
}

func expectedHeadPack(h impl.Head) (string, bool) {
	if !headFits(h) {
		return "", false
	}
	return paddedForms(numForm(h.No), numForm(h.Area), numForm(h.End)), true
}

func expectedHeadRead(s string) (impl.Head, bool) {
	numbers, at := [3]int{}, 0
	for i := range numbers {
		x, next, ok := expectedGetNum([]byte(s), at)
		if !ok {
			return impl.Head{}, false
		}
		numbers[i], at = x, next
	}
	h := head(numbers[0], numbers[1], numbers[2])
	if len(s) != 64 || !headFits(h) || strings.Trim(s[at:], "\x00") != "" {
		return impl.Head{}, false
	}
	return h, true
}

func expectedHeadNow(d impl.Disk) impl.Head {
	zeroth, _ := expectedSector(d, 0)
	first, _ := expectedSector(d, 1)
	a, hasA := expectedHeadRead(zeroth)
	b, hasB := expectedHeadRead(first)
	switch {
	case hasA && hasB && b.No > a.No:
		return b
	case hasA:
		return a
	}
	return b
}

func expectedHeadPut(d impl.Disk, h impl.Head) (impl.Disk, bool) {
	text, ok := expectedHeadPack(h)
	if !ok && diskFits(d) {
		return cloneDisk(d), false
	}
	at := 0
	if h.No%2 != 0 {
		at = 1
	}
	return expectedDiskPut(d, at, text)
}

// flat has all bytes of the disk as they are, sector by sector.
func flat(d impl.Disk) []byte {
	whole := []byte{}
	for at := range 130 {
		text, _ := expectedSector(d, at)
		whole = append(whole, text...)
	}
	return whole
}

// areaBegin is the place of byte 0 of the area among all bytes.
func areaBegin(area int) int {
	return []int{2 * 64, 66 * 64}[area]
}

// spanFits goes without a sum of numbers that are not in bounds yet.
func spanFits(area int, at int, n int) bool {
	if area != 0 && area != 1 || at < 0 || at > 4096 || n < 0 || n > 4096 {
		return false
	}
	return at+n <= 4096
}

// expectedAreaPut lays the bytes among all bytes of the disk one by one, and puts what sectors these stand in.
func expectedAreaPut(d impl.Disk, area int, at int, b []byte) (impl.Disk, bool) {
	if !diskFits(d) {
		return impl.Disk{}, false
	}
	if !spanFits(area, at, len(b)) {
		return cloneDisk(d), false
	}
	whole, turned := flat(d), [130]bool{}
	for i, x := range b {
		place := areaBegin(area) + at + i
		whole[place] = x
		turned[place/64] = true
	}
	more := cloneDisk(d)
	for place, is := range turned {
		if is {
			more.Late = append(more.Late, put(place, string(whole[place*64:place*64+64])))
		}
	}
	if len(more.Late) > 200 {
		return cloneDisk(d), false
	}
	return more, true
}

func expectedAreaGet(d impl.Disk, area int, at int, n int) ([]byte, bool) {
	if !diskFits(d) || !spanFits(area, at, n) {
		return nil, false
	}
	from := areaBegin(area) + at
	return flat(d)[from : from+n], true
}

func headText(h impl.Head) string {
	return "{" + strconv.Itoa(h.No) + " " + strconv.Itoa(h.Area) + " " + strconv.Itoa(h.End) + "}"
}

func spanText(area int, at int, n int) string {
	return "area " + strconv.Itoa(area) + ", at " + strconv.Itoa(at) + ", " + strconv.Itoa(n) + " bytes"
}

func checkHeadPack(t *testing.T, h impl.Head) {
	t.Helper()
	got, ok := impl.HeadPack(h)
	if want, wantOk := expectedHeadPack(h); got != want || ok != wantOk {
		t.Errorf("HeadPack of %s = %q, %v; want %q, %v", headText(h), got, ok, want, wantOk)
	}
}

func checkHeadRead(t *testing.T, s string) (impl.Head, bool) {
	t.Helper()
	got, ok := impl.HeadRead(s)
	if want, wantOk := expectedHeadRead(s); got != want || ok != wantOk {
		t.Errorf("HeadRead of %q = %s, %v; want %s, %v", s, headText(got), ok, headText(want), wantOk)
	}
	return got, ok
}

func checkNoHead(t *testing.T, why string, s string) {
	t.Helper()
	if h, ok := checkHeadRead(t, s); ok || h != head(0, 0, 0) {
		t.Errorf("%s: HeadRead of %q = %s, %v", why, s, headText(h), ok)
	}
}

func checkHeadNow(t *testing.T, d impl.Disk) impl.Head {
	t.Helper()
	g := guardDisk(d)
	got := impl.HeadNow(g.disk)
	if want := expectedHeadNow(d); got != want {
		t.Errorf("HeadNow of %s = %s, want %s", diskText(d), headText(got), headText(want))
	}
	if !g.untouched() {
		t.Errorf("HeadNow wrote into %s", diskText(d))
	}
	return got
}

func checkHeadNowIs(t *testing.T, why string, d impl.Disk, want impl.Head) {
	t.Helper()
	if got := checkHeadNow(t, d); got != want {
		t.Errorf("%s: HeadNow = %s, want %s", why, headText(got), headText(want))
	}
}

func checkHeadPut(t *testing.T, d impl.Disk, h impl.Head) (impl.Disk, bool) {
	t.Helper()
	want, ok := expectedHeadPut(d, h)
	checkDiskAnswer(t, "HeadPut of "+headText(h), d, want, ok, func(d impl.Disk) (impl.Disk, bool) { return impl.HeadPut(d, h) })
	return want, ok
}

func checkAreaPut(t *testing.T, d impl.Disk, area int, at int, b []byte) (impl.Disk, bool) {
	t.Helper()
	want, ok := expectedAreaPut(d, area, at, b)
	name := "AreaPut, " + spanText(area, at, len(b))
	g := guard(b, 77)
	checkDiskAnswer(t, name, d, want, ok, func(d impl.Disk) (impl.Disk, bool) { return impl.AreaPut(d, area, at, g.arg) })
	if !g.untouched() {
		t.Fatalf("%s wrote into the bytes, or behind them", name)
	}
	got, _ := impl.AreaPut(d, area, at, g.arg)
	overwrite(g.arg, 78)
	if !sameDisk(got, want) {
		t.Fatalf("%s: a later change of the bytes is seen in the disk", name)
	}
	if ok {
		checkOthersStay(t, name, d, got, area, at, b)
	}
	return got, ok
}

// checkOthersStay goes by promise 16: of all bytes of the disk just those of b are as b has them, the others as they were.
func checkOthersStay(t *testing.T, name string, before impl.Disk, after impl.Disk, area int, at int, b []byte) {
	t.Helper()
	was, now := flat(before), flat(after)
	begin := areaBegin(area) + at
	end := begin + len(b)
	if !bytes.Equal(now[:begin], was[:begin]) || !bytes.Equal(now[end:], was[end:]) {
		t.Fatalf("%s turns other bytes", name)
	}
	if !bytes.Equal(now[begin:end], b) {
		t.Fatalf("%s: the bytes are not there", name)
	}
	if impl.HeadNow(after) != impl.HeadNow(before) || !slices.Equal(before.Safe, after.Safe) {
		t.Fatalf("%s turns the head, or what is safe", name)
	}
	got, ok := impl.AreaGet(after, area, at, len(b))
	if !ok || !bytes.Equal(got, b) {
		t.Fatalf("%s: another text is got than was put", name)
	}
	for other := range 2 {
		whole, ok := impl.AreaGet(after, other, 0, 4096)
		if from := areaBegin(other); !ok || !bytes.Equal(whole, now[from:from+4096]) {
			t.Fatalf("%s: area %d is not as its sectors", name, other)
		}
	}
}

func checkAreaGet(t *testing.T, d impl.Disk, area int, at int, n int) []byte {
	t.Helper()
	name := "AreaGet, " + spanText(area, at, n)
	want, wantOk := expectedAreaGet(d, area, at, n)
	g := guardDisk(d)
	got, ok := impl.AreaGet(g.disk, area, at, n)
	if ok != wantOk || !bytes.Equal(got, want) {
		t.Fatalf("%s of %s = %q, %v; want %q, %v", name, diskText(d), got, ok, want, wantOk)
	}
	second, _ := impl.AreaGet(g.disk, area, at, n)
	overwrite(got, 77)
	overwrite(append(got, 78), 79)
	if !g.untouched() {
		t.Fatalf("%s turns the disk", name)
	}
	fillDisk(g.disk)
	if !bytes.Equal(second, want) {
		t.Fatalf("%s shares memory with the disk or with another answer", name)
	}
	return want
}

func rightHeads() []impl.Head {
	heads := []impl.Head{}
	for _, no := range []int{1, 2, 126, 127, 128, 129, 255, 256, 300, 16383, 16384, 2097151, 2097152, 268435455, 268435456, 999999999, 1000000000} {
		for area := range 2 {
			for _, end := range []int{0, 1, 63, 64, 126, 127, 128, 129, 255, 256, 4032, 4095, 4096} {
				heads = append(heads, head(no, area, end))
			}
		}
	}
	return heads
}

// wrongHeads are each wrong in one number, two or all.
func wrongHeads() []impl.Head {
	heads := []impl.Head{}
	nos := []int{1, 128, 0, -1, -2, 1000000001, 1000000002, 1 << 32, 1<<32 + 1, math.MaxInt, math.MinInt, math.MinInt + 1}
	areas := []int{0, 1, -1, -2, 2, 3, 127, 128, 256, 257, math.MaxInt, math.MinInt}
	ends := []int{0, 5, 4096, -1, -2, 4097, 4098, 8192, 1 << 32, math.MaxInt, math.MinInt}
	for _, no := range nos {
		for _, area := range areas {
			for _, end := range ends {
				if h := head(no, area, end); !headFits(h) {
					heads = append(heads, h)
				}
			}
		}
	}
	return heads
}

func headSector(h impl.Head) string {
	text, _ := expectedHeadPack(h)
	return text
}

// headDisk has the texts as its sectors 0 and 1.
func headDisk(zeroth string, first string, late ...impl.Put) impl.Disk {
	d := diskWith(late...)
	d.Safe[0], d.Safe[1] = zeroth, first
	return d
}

// areaDisk has heads, other bytes in all areas, and late puts to heads, to both areas and to their borders.
func areaDisk() impl.Disk {
	d := diskWith(putsTo(2, 65, 66, 129, 3, 66, 40, 100, 2)...)
	d.Safe[0], d.Safe[1] = headSector(head(4, 1, 9)), headSector(head(3, 0, 2))
	d.Late = append(d.Late, put(1, headSector(head(5, 0, 77))))
	return d
}

// wrongSpans are refused in an area of any disk: area, at, n.
func wrongSpans() [][3]int {
	return [][3]int{
		{-1, 0, 1}, {2, 0, 1}, {-1, 0, 0}, {2, 0, 0}, {3, 5, 5}, {-2, 5, 5}, {math.MaxInt, 0, 1}, {math.MinInt, 0, 1}, {1 << 32, 0, 1}, {1 << 58, 0, 1},
		{0, -1, 1}, {1, -1, 1}, {0, -1, 0}, {1, -1, 0}, {1, -64, 64}, {1, -4096, 10}, {0, -1, 2}, {0, -5, 4096},
		{0, 4097, 0}, {1, 4097, 0}, {0, 4097, 1}, {0, 8192, 1}, {0, 4096, 1}, {1, 4096, 1}, {0, 4095, 2}, {1, 4095, 2}, {0, 4032, 65}, {1, 1, 4096}, {0, 64, 4096}, {0, 0, 4097}, {1, 0, 4097}, {0, 2048, 2049},
		{0, math.MaxInt, 0}, {0, math.MaxInt, 1}, {1, math.MaxInt, 4096}, {0, math.MinInt, 0}, {1, math.MinInt, 1}, {0, math.MinInt, 4096}, {0, math.MaxInt - 4095, 4096}, {0, math.MinInt + 1, 64}, {1, 1 << 32, 1}, {0, 1 << 62, 1},
	}
}

// rightSpans cover nothing, borders of sectors and of the areas, and the whole: at, n.
func rightSpans() [][2]int {
	return [][2]int{
		{0, 0}, {1, 0}, {63, 0}, {64, 0}, {4095, 0}, {4096, 0},
		{0, 1}, {1, 1}, {62, 1}, {63, 1}, {64, 1}, {65, 1}, {127, 1}, {128, 1}, {4031, 1}, {4032, 1}, {4095, 1},
		{0, 63}, {0, 64}, {0, 65}, {1, 63}, {1, 64}, {63, 2}, {62, 2}, {64, 2}, {64, 64}, {63, 64}, {63, 65}, {63, 66}, {65, 63}, {65, 64},
		{63, 130}, {10, 150}, {0, 192}, {0, 193}, {64, 128}, {60, 8}, {127, 66}, {2000, 1000}, {3000, 1096},
		{4032, 64}, {4031, 65}, {4031, 2}, {3968, 128}, {4090, 6}, {0, 4095}, {1, 4095}, {0, 4096}, {64, 4032}, {63, 4033},
	}
}

// sampleBytes are n bytes, of which none is 0 and two beside each other differ.
func sampleBytes(n int) []byte {
	b := make([]byte, n)
	for i := range b {
		b[i] = byte(1 + i%255)
	}
	return b
}

func TestAreaNumbers(t *testing.T) {
	if impl.AreaSectors != 64 || impl.AreaSize != 4096 {
		t.Error(impl.AreaSectors, impl.AreaSize)
	}
}

func TestHeadPackTold(t *testing.T) {
	for h, forms := range map[impl.Head]string{
		head(1, 0, 0):             "\x01\x00\x00",
		head(127, 0, 127):         "\x7f\x00\x7f",
		head(128, 1, 128):         "\x80\x01\x01\x80\x01",
		head(300, 1, 5):           "\xac\x02\x01\x05",
		head(1000000000, 1, 4096): "\x80\x94\xeb\xdc\x03\x01\x80\x20",
	} {
		want := forms + strings.Repeat("\x00", 64-len(forms))
		if got, ok := impl.HeadPack(h); !ok || got != want {
			t.Errorf("HeadPack of %s = %q, %v", headText(h), got, ok)
		}
		if got, ok := impl.HeadRead(want); !ok || got != h {
			t.Errorf("HeadRead of %q = %s, %v", want, headText(got), ok)
		}
	}
}

func TestHeadPack(t *testing.T) {
	for _, h := range rightHeads() {
		checkHeadPack(t, h)
		text, ok := impl.HeadPack(h)
		if !ok || len(text) != 64 {
			t.Errorf("HeadPack of %s: %d bytes, %v", headText(h), len(text), ok)
		}
		if got, ok := checkHeadRead(t, text); !ok || got != h {
			t.Errorf("%s is read as %s, %v", headText(h), headText(got), ok)
		}
	}
	for end := range 4097 {
		checkHeadPack(t, head(end+1, end%2, end))
		checkHeadRead(t, headSector(head(end+1, end%2, end)))
	}
}

func TestHeadPackRefuses(t *testing.T) {
	for _, h := range wrongHeads() {
		checkHeadPack(t, h)
		if text, ok := impl.HeadPack(h); ok || text != "" {
			t.Errorf("HeadPack of %s = %q, %v", headText(h), text, ok)
		}
		if h.No >= 0 && h.Area >= 0 && h.End >= 0 {
			checkNoHead(t, "out of bounds", paddedForms(numForm(h.No), numForm(h.Area), numForm(h.End)))
		}
	}
	for _, h := range []impl.Head{head(0, 0, 0), head(1000000001, 0, 0), head(1, 2, 0), head(1, -1, 0), head(1, 0, -1), head(1, 0, 4097)} {
		if text, ok := impl.HeadPack(h); ok || text != "" {
			t.Errorf("HeadPack of %s = %q, %v", headText(h), text, ok)
		}
	}
}

func TestHeadReadLengths(t *testing.T) {
	for _, h := range rightHeads() {
		text := headSector(h)
		for size := range 64 {
			checkNoHead(t, "cut", text[:size])
		}
		for _, more := range []string{"\x00", "\x01", "\x00\x00", text, strings.Repeat("\x00", 64), strings.Repeat("\x00", 4096)} {
			checkNoHead(t, "longer", text+more)
		}
		checkNoHead(t, "one byte ahead", "\x00"+text[:63])
	}
}

func TestHeadReadBytesBehind(t *testing.T) {
	for _, h := range []impl.Head{head(1, 0, 0), head(128, 1, 128), head(1000000000, 1, 4096), head(300, 0, 5)} {
		forms := joined(numForm(h.No), numForm(h.Area), numForm(h.End))
		for at := len(forms); at < 64; at++ {
			for _, b := range []byte{1, 2, 32, 127, 128, 129, 255} {
				text := []byte(headSector(h))
				text[at] = b
				checkNoHead(t, "a byte behind", string(text))
			}
		}
	}
}

func TestHeadReadForms(t *testing.T) {
	for _, h := range rightHeads() {
		no, area, end := numForm(h.No), numForm(h.Area), numForm(h.End)
		checkNoHead(t, "a long No", paddedForms(longForm(h.No), area, end))
		checkNoHead(t, "a long Area", paddedForms(no, longForm(h.Area), end))
		checkNoHead(t, "a long End", paddedForms(no, area, longForm(h.End)))
		checkNoHead(t, "a longer End", paddedForms(no, area, joined(longForm(h.End)[:len(end)], []byte{128, 0})))
		open := repeated(byte(128), 64)
		checkNoHead(t, "no end of No", string(joined(open)))
		checkNoHead(t, "no end of Area", string(joined(no, open)[:64]))
		checkNoHead(t, "no end of End", string(joined(no, area, open)[:64]))
		checkNoHead(t, "No alone", string(no))
		checkNoHead(t, "No and Area alone", string(joined(no, area)))
		checkNoHead(t, "the forms alone", string(joined(no, area, end)))
		checkNoHead(t, "four forms", paddedForms(no, area, end, []byte{1}))
	}
	nine := joined(repeated(byte(128), 8), []byte{1})
	checkNoHead(t, "a No of nine bytes", paddedForms(nine, []byte{0}, []byte{0}))
	checkNoHead(t, "a No of ten bytes", paddedForms(repeated(byte(128), 9), []byte{1}, []byte{0}, []byte{0}))
	checkNoHead(t, "an End of nine bytes", paddedForms([]byte{1}, []byte{0}, nine))
}

func TestHeadReadNoHeads(t *testing.T) {
	checkNoHead(t, "nothing", "")
	for b := range 256 {
		checkNoHead(t, "one byte", sectorOfOne(byte(b)))
		checkNoHead(t, "any bytes", bytesFrom(b))
	}
	for _, text := range joined(wrongTexts(), markedSafe()) {
		checkNoHead(t, "other texts", text)
	}
}

func TestHeadReadOfTurnedBytes(t *testing.T) {
	for _, h := range []impl.Head{head(1, 0, 0), head(127, 1, 127), head(128, 0, 128), head(1000000000, 1, 4096)} {
		for at := range 64 {
			for b := range 256 {
				text := []byte(headSector(h))
				text[at] = byte(b)
				checkHeadRead(t, string(text))
			}
		}
	}
}

func TestHeadReadOfAnyFewBytes(t *testing.T) {
	few := []byte{0, 1, 2, 3, 31, 32, 33, 127, 128, 129, 160, 255}
	eachNumbers(4, 0, len(few)-1, func(places []int) {
		begin := []byte{}
		for _, place := range places {
			begin = append(begin, few[place])
		}
		text := paddedForms(begin)
		if h, ok := checkHeadRead(t, text); ok {
			if again, _ := impl.HeadPack(h); again != text {
				t.Fatalf("%q is read as %s, which is packed as %q", text, headText(h), again)
			}
		}
	})
}

func TestHeadNowOfOne(t *testing.T) {
	none := head(0, 0, 0)
	checkHeadNowIs(t, "a new disk", impl.DiskNew(), none)
	checkHeadNowIs(t, "other bytes", diskWith(), none)
	for _, h := range rightHeads() {
		text, other := headSector(h), sectorOfOne(255)
		checkHeadNowIs(t, "safe in 0", headDisk(text, other), h)
		checkHeadNowIs(t, "safe in 1", headDisk(other, text), h)
		checkHeadNowIs(t, "late in 0", headDisk(other, other, put(0, text)), h)
		checkHeadNowIs(t, "late in 1", headDisk(other, other, put(1, text)), h)
	}
	text := headSector(head(9, 1, 1))
	for at := 2; at < 130; at++ {
		d := diskWith(put(at, text))
		checkHeadNowIs(t, "late in another sector", d, none)
		d.Safe[at], d.Late = text, nil
		checkHeadNowIs(t, "safe in another sector", d, none)
	}
}

func TestHeadNowOfTwo(t *testing.T) {
	nos := []int{1, 2, 3, 127, 128, 129, 255, 256, 16384, 999999999, 1000000000}
	for _, a := range nos {
		for _, b := range nos {
			zeroth, first := head(a, 0, 100), head(b, 1, 7)
			want := zeroth
			if b > a {
				want = first
			}
			x, y := headSector(zeroth), headSector(first)
			for why, d := range map[string]impl.Disk{
				"both safe":          headDisk(x, y),
				"0 late":             headDisk(sectorOfOne(0), y, put(0, x)),
				"1 late":             headDisk(x, sectorOfOne(0), put(1, y)),
				"both late":          headDisk(sectorOfOne(0), sectorOfOne(0), put(0, x), put(1, y)),
				"both late, 1 first": headDisk(sectorOfOne(0), sectorOfOne(0), put(1, y), put(0, x)),
			} {
				checkHeadNowIs(t, why, d, want)
			}
		}
	}
	same := headDisk(headSector(head(6, 1, 4096)), headSector(head(6, 0, 1)))
	checkHeadNowIs(t, "one No", same, head(6, 1, 4096))
	same = headDisk(headSector(head(6, 0, 1)), headSector(head(6, 1, 4096)))
	checkHeadNowIs(t, "one No, turned", same, head(6, 0, 1))
}

func TestHeadNowOfSeveralPuts(t *testing.T) {
	a, b, c := headSector(head(10, 0, 1)), headSector(head(11, 0, 2)), headSector(head(4, 1, 3))
	none := sectorOfOne(0)
	checkHeadNowIs(t, "the last put counts", headDisk(none, none, put(0, a), put(0, c)), head(4, 1, 3))
	checkHeadNowIs(t, "the last put counts, greater", headDisk(none, none, put(0, c), put(0, a)), head(10, 0, 1))
	checkHeadNowIs(t, "the last put is none", headDisk(a, c, put(0, b), put(0, none)), head(4, 1, 3))
	checkHeadNowIs(t, "late over safe", headDisk(a, none, put(0, c)), head(4, 1, 3))
	checkHeadNowIs(t, "late over the greater safe one", headDisk(a, b, put(1, c)), head(10, 0, 1))
	checkHeadNowIs(t, "both put away", headDisk(a, b, put(1, none), put(0, none)), head(0, 0, 0))
	checkHeadNowIs(t, "others between", headDisk(none, a, put(0, c), put(5, b), put(0, b), put(129, c)), head(11, 0, 2))
	full := manyPuts(200, 130)
	full.Late[199] = put(1, a)
	checkHeadNowIs(t, "the last of MaxLate", full, head(10, 0, 1))
}

func TestHeadNowOfSectorsThatAreNoHeads(t *testing.T) {
	right := headSector(head(2, 1, 5))
	for _, text := range []string{
		paddedForms(numForm(3), numForm(2), numForm(0)), paddedForms(numForm(3), numForm(0), numForm(4097)),
		paddedForms(numForm(1000000001), numForm(0), numForm(0)), paddedForms(longForm(3), numForm(0), numForm(0)),
		paddedForms(numForm(3), numForm(0), numForm(0), []byte{1}), sectorOfOne(255), sectorOfOne(0), sectorOfOne(1),
	} {
		checkHeadNowIs(t, "none in 0", headDisk(text, right), head(2, 1, 5))
		checkHeadNowIs(t, "none in 1", headDisk(right, text), head(2, 1, 5))
		checkHeadNowIs(t, "none in both", headDisk(text, text), head(0, 0, 0))
	}
}

func TestHeadPut(t *testing.T) {
	for _, h := range rightHeads() {
		d := headDisk(headSector(head(8, 0, 1)), headSector(head(9, 1, 2)))
		more, ok := checkHeadPut(t, d, h)
		at := h.No % 2
		if !ok || len(more.Late) != 1 || more.Late[0] != put(at, headSector(h)) {
			t.Fatalf("HeadPut of %s = %s, %v", headText(h), diskText(more), ok)
		}
		other, _ := impl.SectorOf(more, 1-at)
		if other != d.Safe[1-at] {
			t.Errorf("HeadPut of %s turns the other head", headText(h))
		}
		if h.No > 9 {
			checkHeadNowIs(t, "put", more, h)
		}
	}
	for _, d := range rightDisks() {
		for _, h := range []impl.Head{head(1, 0, 0), head(2, 1, 4096), head(1000000000, 0, 64)} {
			if _, ok := checkHeadPut(t, d, h); ok != (len(d.Late) < 200) {
				t.Errorf("HeadPut with %d puts = %v", len(d.Late), ok)
			}
		}
	}
}

func TestHeadPutRefuses(t *testing.T) {
	for _, h := range wrongHeads() {
		d := areaDisk()
		if more, ok := checkHeadPut(t, d, h); ok || !sameDisk(more, d) {
			t.Errorf("HeadPut of %s = %s, %v", headText(h), diskText(more), ok)
		}
	}
	full := manyPuts(200, 130)
	for _, h := range []impl.Head{head(1, 0, 0), head(2, 0, 0), head(0, 0, 0), head(-1, 0, 0), head(3, 2, 0)} {
		if more, ok := checkHeadPut(t, full, h); ok || !sameDisk(more, full) {
			t.Errorf("HeadPut of %s behind MaxLate puts = %v", headText(h), ok)
		}
	}
	if _, ok := checkHeadPut(t, manyPuts(199, 130), head(1, 0, 0)); !ok {
		t.Error("HeadPut as the last of MaxLate is refused")
	}
}

func TestHeadsThroughCrashes(t *testing.T) {
	d, _ := impl.HeadPut(impl.DiskNew(), head(1, 0, 0))
	d, _ = impl.DiskSync(d)
	for no := 2; no < 40; no++ {
		next, ok := checkHeadPut(t, d, head(no, no%3%2, no*100))
		if !ok {
			t.Fatal("no put of", no)
		}
		lost, _ := impl.DiskCrash(next, 0)
		checkHeadNowIs(t, "lost", lost, impl.HeadNow(d))
		kept, _ := impl.DiskCrash(next, 1)
		checkHeadNowIs(t, "kept", kept, head(no, no%3%2, no*100))
		d, _ = impl.DiskSync(next)
		checkHeadNowIs(t, "safe", d, head(no, no%3%2, no*100))
	}
}

func TestAreaPut(t *testing.T) {
	for _, d := range []impl.Disk{impl.DiskNew(), areaDisk()} {
		for area := range 2 {
			for _, s := range rightSpans() {
				if _, ok := checkAreaPut(t, d, area, s[0], sampleBytes(s[1])); !ok {
					t.Errorf("AreaPut, %s, is refused", spanText(area, s[0], s[1]))
				}
			}
		}
	}
}

func TestAreaPutSectors(t *testing.T) {
	for _, c := range []struct {
		area, at, n int
		sectors     []int
	}{
		{0, 0, 0, nil}, {1, 64, 0, nil}, {0, 4096, 0, nil}, {1, 4096, 0, nil},
		{0, 0, 1, []int{2}}, {0, 63, 1, []int{2}}, {0, 0, 64, []int{2}}, {0, 64, 1, []int{3}}, {0, 63, 2, []int{2, 3}},
		{0, 0, 65, []int{2, 3}}, {0, 63, 66, []int{2, 3, 4}}, {0, 64, 128, []int{3, 4}}, {0, 100, 100, []int{3, 4, 5}},
		{0, 4095, 1, []int{65}}, {0, 4032, 64, []int{65}}, {0, 4031, 65, []int{64, 65}},
		{1, 0, 1, []int{66}}, {1, 0, 64, []int{66}}, {1, 63, 2, []int{66, 67}}, {1, 4095, 1, []int{129}}, {1, 4031, 2, []int{128, 129}},
		{0, 0, 4096, numbersFrom(2, 65)}, {1, 0, 4096, numbersFrom(66, 129)}, {1, 1, 4095, numbersFrom(66, 129)},
	} {
		d := areaDisk()
		more, ok := checkAreaPut(t, d, c.area, c.at, sampleBytes(c.n))
		got := []int{}
		for _, p := range more.Late[len(d.Late):] {
			got = append(got, p.At)
		}
		if !ok || !slices.Equal(got, c.sectors) {
			t.Errorf("AreaPut, %s: puts to %v, want %v", spanText(c.area, c.at, c.n), got, c.sectors)
		}
	}
}

func TestAreaPutOfWhatIsThere(t *testing.T) {
	d := areaDisk()
	for _, s := range rightSpans() {
		there, _ := expectedAreaGet(d, 1, s[0], s[1])
		more, ok := checkAreaPut(t, d, 1, s[0], there)
		if want := s[1] > 0; !ok || len(more.Late) > len(d.Late) != want {
			t.Errorf("AreaPut of what is there, %s: %d puts more", spanText(1, s[0], s[1]), len(more.Late)-len(d.Late))
		}
	}
	more, ok := checkAreaPut(t, impl.DiskNew(), 0, 60, make([]byte, 8))
	if want := []impl.Put{put(2, sectorOfOne(0)), put(3, sectorOfOne(0))}; !ok || !slices.Equal(more.Late, want) {
		t.Error("bytes 0 to a new disk:", diskText(more))
	}
}

func TestAreaPutOverLateBytes(t *testing.T) {
	d, _ := checkAreaPut(t, areaDisk(), 0, 60, []byte("abcdefgh"))
	d, _ = checkAreaPut(t, d, 0, 62, []byte("XYZ"))
	if got := checkAreaGet(t, d, 0, 60, 8); string(got) != "abXYZfgh" {
		t.Errorf("got %q", got)
	}
	d, _ = checkAreaPut(t, d, 0, 66, []byte("--"))
	d, _ = impl.DiskSync(d)
	if got := checkAreaGet(t, d, 0, 60, 8); string(got) != "abXYZf--" {
		t.Errorf("got %q when safe", got)
	}
	d, _ = checkAreaPut(t, d, 1, 0, []byte("other"))
	d, _ = checkAreaPut(t, d, 0, 4090, []byte("border"))
	if got := string(checkAreaGet(t, d, 0, 4090, 6)) + string(checkAreaGet(t, d, 1, 0, 5)); got != "borderother" {
		t.Errorf("at the border of the areas: %q", got)
	}
	safe, _ := impl.SectorOf(d, 65)
	if !strings.HasSuffix(safe, "border") {
		t.Errorf("the last sector of area 0 is %q", safe)
	}
}

func TestAreaPutRefuses(t *testing.T) {
	for _, d := range []impl.Disk{areaDisk(), impl.DiskNew(), manyPuts(200, 130)} {
		for _, s := range wrongSpans() {
			more, ok := checkAreaPut(t, d, s[0], s[1], sampleBytes(s[2]))
			if ok || !sameDisk(more, d) {
				t.Errorf("AreaPut, %s = %v", spanText(s[0], s[1], s[2]), ok)
			}
		}
	}
	for _, n := range []int{4097, 4160, 8192, 100000} {
		for _, at := range []int{0, 1, 4096, -n, math.MaxInt, math.MinInt} {
			if _, ok := checkAreaPut(t, areaDisk(), 0, at, sampleBytes(n)); ok {
				t.Errorf("AreaPut, %s, is done", spanText(0, at, n))
			}
		}
	}
}

func TestAreaPutUpToMaxLate(t *testing.T) {
	for _, c := range []struct{ at, n, needed int }{
		{0, 0, 0}, {4096, 0, 0}, {5, 1, 1}, {0, 64, 1}, {63, 2, 2}, {63, 66, 3}, {64, 192, 3}, {10, 600, 10}, {0, 4096, 64}, {4095, 1, 1},
	} {
		for area := range 2 {
			enough := manyPuts(200-c.needed, 130)
			if more, ok := checkAreaPut(t, enough, area, c.at, sampleBytes(c.n)); !ok || len(more.Late) != 200 {
				t.Errorf("AreaPut, %s, with just enough puts left: %v", spanText(area, c.at, c.n), ok)
			}
			for _, less := range []int{1, 2, 3, 30, 64} {
				if less > c.needed {
					continue
				}
				short := manyPuts(200-c.needed+less, 130)
				if more, ok := checkAreaPut(t, short, area, c.at, sampleBytes(c.n)); ok || !sameDisk(more, short) {
					t.Errorf("AreaPut, %s, with %d puts less: %v", spanText(area, c.at, c.n), less, ok)
				}
			}
		}
	}
	d := impl.DiskNew()
	for step := range 3 {
		next, ok := checkAreaPut(t, d, step%2, 0, sampleBytes(4096))
		if !ok || len(next.Late) != 64*(step+1) {
			t.Error("a whole area, time", step, ok)
		}
		d = next
	}
	if more, ok := checkAreaPut(t, d, 1, 0, sampleBytes(4096)); ok || !sameDisk(more, d) {
		t.Error("a fourth whole area", ok)
	}
}

func TestAreaPutOfEachByte(t *testing.T) {
	d := areaDisk()
	for area := range 2 {
		for at := 0; at < 4096; at += 13 {
			more, ok := impl.AreaPut(d, area, at, []byte{byte(at)})
			want, _ := expectedAreaPut(d, area, at, []byte{byte(at)})
			if !ok || !sameDisk(more, want) {
				t.Fatalf("AreaPut, %s = %s", spanText(area, at, 1), diskText(more))
			}
			checkOthersStay(t, "AreaPut, "+spanText(area, at, 1), d, more, area, at, []byte{byte(at)})
		}
	}
	for b := range 256 {
		checkAreaPut(t, d, b%2, b*16, []byte{byte(b)})
		checkAreaPut(t, d, b%2, b*15, []byte(bytesFrom(b)))
	}
}

func TestAreaPutThroughCrashes(t *testing.T) {
	before := areaDisk()
	before, _ = impl.DiskSync(before)
	b := sampleBytes(150)
	more, _ := checkAreaPut(t, before, 1, 50, b)
	for keep := range 16 {
		crashed, _ := impl.DiskCrash(more, keep)
		was, now := flat(before), flat(crashed)
		copy(was[areaBegin(1)+50:], keptPieces(was[areaBegin(1)+50:], b, keep))
		if !bytes.Equal(was, now) {
			t.Fatalf("a crash by %d turns bytes that were not put", keep)
		}
	}
}

// keptPieces has, from byte 50 of an area on, those sectors' bytes of b that the crash keeps, and else what was there.
func keptPieces(was []byte, b []byte, keep int) []byte {
	kept := slices.Clone(was[:len(b)])
	for i := range b {
		if sector := (50 + i) / 64; keep>>sector%2 == 1 {
			kept[i] = b[i]
		}
	}
	return kept
}

func TestAreaGet(t *testing.T) {
	for _, d := range joined(rightDisks(), []impl.Disk{areaDisk()}) {
		whole := flat(d)
		for area := range 2 {
			for _, s := range rightSpans() {
				from := areaBegin(area) + s[0]
				got, ok := impl.AreaGet(d, area, s[0], s[1])
				if !ok || !bytes.Equal(got, whole[from:from+s[1]]) {
					t.Fatalf("AreaGet, %s of %s = %q, %v", spanText(area, s[0], s[1]), diskText(d), got, ok)
				}
			}
		}
	}
	for area := range 2 {
		for _, s := range rightSpans() {
			if s[1] < 300 {
				checkAreaGet(t, areaDisk(), area, s[0], s[1])
			}
		}
	}
}

func TestAreaGetTold(t *testing.T) {
	d, _ := impl.AreaPut(impl.DiskNew(), 1, 60, []byte("abcdefgh"))
	safe, _ := impl.DiskSync(d)
	for _, disk := range []impl.Disk{d, safe} {
		for want, s := range map[string][2]int{
			"\x00\x00abcdefgh\x00\x00": {58, 12}, "abcd": {60, 4}, "efgh": {64, 4}, "d": {63, 1}, "e": {64, 1}, "de": {63, 2}, "": {62, 0},
		} {
			if got, ok := impl.AreaGet(disk, 1, s[0], s[1]); !ok || string(got) != want {
				t.Errorf("AreaGet, %s = %q, %v", spanText(1, s[0], s[1]), got, ok)
			}
		}
		if got, ok := impl.AreaGet(disk, 0, 60, 8); !ok || string(got) != strings.Repeat("\x00", 8) {
			t.Errorf("the other area has %q, %v", got, ok)
		}
	}
}

func TestAreaGetRefuses(t *testing.T) {
	for _, d := range []impl.Disk{areaDisk(), impl.DiskNew(), manyPuts(200, 130)} {
		for _, s := range wrongSpans() {
			checkAreaGet(t, d, s[0], s[1], s[2])
		}
	}
	d := areaDisk()
	far := []int{-1, -2, -64, -4096, -4097, 4097, 4098, 8192, 1 << 32, 1 << 62, math.MaxInt, math.MaxInt - 1, math.MaxInt - 4096, math.MinInt, math.MinInt + 1, math.MinInt + 4096}
	for _, x := range far {
		for _, y := range joined(far, []int{0, 1, 64, 4095, 4096}) {
			for area := range 2 {
				if got, ok := impl.AreaGet(d, area, x, y); ok || len(got) != 0 {
					t.Errorf("AreaGet, %s = %d bytes, %v", spanText(area, x, y), len(got), ok)
				}
				if got, ok := impl.AreaGet(d, area, y, x); ok || len(got) != 0 {
					t.Errorf("AreaGet, %s = %d bytes, %v", spanText(area, y, x), len(got), ok)
				}
			}
		}
	}
	for at := range 4097 {
		_, fits := impl.AreaGet(d, at%2, at, 4096-at)
		_, beyond := impl.AreaGet(d, at%2, at, 4097-at)
		if !fits || beyond {
			t.Fatalf("AreaGet from %d up to the end: %v, and one byte beyond: %v", at, fits, beyond)
		}
	}
}

func TestHeadsAndAreasOfWrongDisks(t *testing.T) {
	for what, d := range wrongDisks() {
		if len(d.Safe) > 1 {
			d.Safe[1] = headSector(head(9, 1, 3))
		}
		if diskFits(d) {
			continue
		}
		checkHeadNowIs(t, what, d, head(0, 0, 0))
		for _, h := range []impl.Head{head(1, 0, 0), head(2, 1, 4096), head(0, 0, 0), head(-1, 0, 0), head(5, 2, 5000)} {
			if more, ok := checkHeadPut(t, d, h); ok || !sameDisk(more, impl.Disk{}) {
				t.Errorf("HeadPut to a disk with %s = %s, %v", what, diskText(more), ok)
			}
		}
		for _, s := range [][3]int{{0, 0, 0}, {1, 4096, 0}, {0, 0, 1}, {1, 60, 8}, {0, 0, 4096}, {2, 0, 1}, {-1, 0, 0}, {0, -1, 1}, {1, 4096, 1}, {0, 4097, 0}, {0, math.MaxInt, 1}} {
			if more, ok := checkAreaPut(t, d, s[0], s[1], sampleBytes(s[2])); ok || !sameDisk(more, impl.Disk{}) {
				t.Errorf("AreaPut to a disk with %s = %s, %v", what, diskText(more), ok)
			}
			checkAreaGet(t, d, s[0], s[1], s[2])
		}
	}
}

// workedAreas goes on from a new disk by the bytes, four a step, and holds each step against what is expected.
func workedAreas(t *testing.T, steps []byte) impl.Disk {
	t.Helper()
	d := impl.DiskNew()
	for ; len(steps) >= 4; steps = steps[4:] {
		kind, x, y, z := int(steps[0])%8, int(steps[1]), int(steps[2]), int(steps[3])
		at := (x*256+y)%4200 - 50
		switch kind {
		case 0:
			d, _ = impl.DiskSync(d)
		case 1:
			d, _ = impl.DiskCrash(d, (x*8421505+y*513+z)%2147483648)
		case 2, 3:
			d, _ = checkHeadPut(t, d, head(x*y-2, z%3, at))
		case 4:
			checkAreaGet(t, d, z%3, at, y)
		default:
			d, _ = checkAreaPut(t, d, z%3, at, sampleBytes(z))
		}
		checkHeadNow(t, d)
	}
	return d
}

func TestAreasThatAreWorkedOn(t *testing.T) {
	state := uint32(16)
	for run := range 12 {
		steps := []byte{}
		for range 4 * (20 + run*10) {
			state = state*1664525 + 1013904223
			steps = append(steps, byte(state>>24))
		}
		if d := workedAreas(t, steps); !impl.DiskOk(d) {
			t.Fatal("not right any more:", diskText(d))
		}
	}
}

func TestHeadCallsOneBehindTheOther(t *testing.T) {
	d := areaDisk()
	want, _ := expectedAreaPut(d, 0, 60, []byte("abcdefgh"))
	for _, h := range []impl.Head{head(7, 1, 1), head(0, 0, 0), head(8, 0, 0)} {
		impl.HeadPut(d, h)
		impl.AreaPut(d, 0, 62, []byte("other"))
		impl.AreaGet(d, 2, 0, 1)
		impl.HeadRead("none")
		if got, ok := impl.AreaPut(d, 0, 60, []byte("abcdefgh")); !ok || !sameDisk(got, want) {
			t.Error("AreaPut hangs on what was called ahead of it")
		}
		if got := impl.HeadNow(d); got != head(5, 0, 77) {
			t.Error("HeadNow hangs on what was called ahead of it:", headText(got))
		}
	}
}

func TestAreasAskedByManyAtOnce(t *testing.T) {
	d, b := areaDisk(), sampleBytes(200)
	wantPut, _ := expectedAreaPut(d, 1, 60, b)
	wantHead, _ := expectedHeadPut(d, head(6, 1, 1))
	wantGet, _ := expectedAreaGet(d, 0, 100, 90)
	var all sync.WaitGroup
	for range 8 {
		all.Go(func() {
			for range 20 {
				more, _ := impl.AreaPut(d, 1, 60, b)
				headed, _ := impl.HeadPut(d, head(6, 1, 1))
				got, _ := impl.AreaGet(d, 0, 100, 90)
				same, ok := impl.AreaPut(d, 2, 60, b)
				if !sameDisk(more, wantPut) || !sameDisk(headed, wantHead) || !bytes.Equal(got, wantGet) || ok || !sameDisk(same, d) || impl.HeadNow(d) != head(5, 0, 77) {
					t.Error("another answer, asked by many")
				}
				fillDisk(more)
				fillDisk(headed)
				fillDisk(same)
				overwrite(got, 1)
			}
		})
	}
	all.Wait()
}

func FuzzHeads(f *testing.F) {
	f.Add("\x01\x00\x00", 1, 0, 0)
	f.Add("\x80\x94\xeb\xdc\x03\x01\x80\x20", 1000000000, 1, 4096)
	f.Add("\x81\x00\x00\x00", 1000000001, 2, 4097)
	f.Add("", -1, -1, -1)
	f.Fuzz(func(t *testing.T, text string, no int, area int, end int) {
		checkHeadRead(t, text)
		padded := paddedForms([]byte(text))
		checkHeadRead(t, padded)
		h := head(no, area, end)
		checkHeadPack(t, h)
		checkHeadNow(t, headDisk(padded, sectorOfOne(0), put(1, paddedForms(numForm(no), numForm(area), numForm(end)))))
		checkHeadPut(t, headDisk(padded, sectorOfOne(0)), h)
	})
}

func FuzzAreas(f *testing.F) {
	f.Add([]byte{5, 0, 60, 8, 2, 3, 4, 1, 4, 0, 58, 1}, 1, 60, 12, "abcdefgh")
	f.Add([]byte{7, 16, 1, 255, 0, 0, 0, 0, 6, 2, 2, 200}, 0, 4096, 0, "")
	f.Add([]byte{}, -1, -1, -1, "a")
	f.Fuzz(func(t *testing.T, steps []byte, area int, at int, n int, text string) {
		d := workedAreas(t, steps[:min(len(steps), 4*60)])
		checkAreaPut(t, d, area, at, []byte(text))
		checkAreaPut(t, d, area&1, at&4095, []byte(text))
		checkAreaGet(t, d, area, at, n)
		checkAreaGet(t, d, area&1, at&4095, n&255)
	})
}
