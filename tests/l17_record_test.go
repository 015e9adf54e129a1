package tests

import (
	"bytes"
	"encoding/binary"
	"math"
	"slices"
	"sort"
	"strconv"
	"strings"
	"sync"
	"testing"

	"loop.example/g00118/impl"
)

var (
	fillRecord = impl.Record{Kind: -7, Url: "filler", Body: "filled"}
	fillEntry  = impl.Entry{Url: "filler", Body: "filled"}
)

func keeping(url string, body string) impl.Record {
	return impl.Record{Kind: 1, Url: url, Body: body}
}

func dropping(url string) impl.Record {
	return impl.Record{Kind: 2, Url: url}
}

func entry(url string, body string) impl.Entry {
	return impl.Entry{Url: url, Body: body}
}

// urlFits and what is expected below go by the sentences of the document.
func urlFits(s string) bool {
	right := 0
	for i := range len(s) {
		if s[i] > 32 && s[i] < 127 {
			right++
		}
	}
	return right == len(s) && right > 0 && right < 61
}

func expectedRecordPack(r impl.Record) ([]byte, bool) {
	if !urlFits(r.Url) {
		return nil, false
	}
	ahead := joined(numForm(r.Kind), textForm(r.Url))
	switch {
	case r.Kind == 1:
		return joined(ahead, textForm(r.Body)), true
	case r.Kind == 2 && r.Body == "":
		return ahead, true
	}
	return nil, false
}

// looseNum reads a number in whatever form: only what packs to the same bytes counts in the end.
func looseNum(b []byte, at int) (int, int) {
	x, size := binary.Uvarint(b[at:])
	if size <= 0 {
		return 0, len(b)
	}
	return int(x), at + size
}

func looseText(b []byte, at int) (string, int) {
	size, from := looseNum(b, at)
	if size < 0 || size > len(b)-from {
		return "", len(b)
	}
	return string(b[from : from+size]), from + size
}

// expectedRecordRead takes from the bytes the only record that can be there, and asks whether its pack stands there.
func expectedRecordRead(b []byte, at int) (impl.Record, int, bool) {
	if at < 0 || at >= len(b) {
		return impl.Record{}, 0, false
	}
	r, next := impl.Record{}, at
	r.Kind, next = looseNum(b, next)
	r.Url, next = looseText(b, next)
	if r.Kind == 1 {
		r.Body, _ = looseText(b, next)
	}
	packed, ok := expectedRecordPack(r)
	if !ok || !bytes.HasPrefix(b[at:], packed) {
		return impl.Record{}, 0, false
	}
	return r, at + len(packed), true
}

func expectedRecords(b []byte) ([]impl.Record, bool) {
	list := []impl.Record{}
	for at := 0; at != len(b); {
		r, next, ok := expectedRecordRead(b, at)
		if !ok {
			return nil, false
		}
		list, at = append(list, r), next
	}
	return list, true
}

// expectedIndex looks from each record towards the end for another one of its Url: the last one alone decides.
func expectedIndex(list []impl.Record) []impl.Entry {
	entries := []impl.Entry{}
	for i, r := range list {
		isLater := func(s impl.Record) bool { return s.Url == r.Url }
		if r.Kind == 1 && !slices.ContainsFunc(list[i+1:], isLater) {
			entries = append(entries, entry(r.Url, r.Body))
		}
	}
	sort.Slice(entries, func(i, j int) bool { return bytes.Compare([]byte(entries[i].Url), []byte(entries[j].Url)) < 0 })
	return entries
}

func expectedIndexFind(list []impl.Entry, url string) (string, bool) {
	at := slices.IndexFunc(list, func(e impl.Entry) bool { return e.Url == url })
	if at == -1 {
		return "", false
	}
	return list[at].Body, true
}

func expectedIndexPack(list []impl.Entry) ([]byte, bool) {
	packed := []byte{}
	for _, e := range list {
		if !urlFits(e.Url) {
			return nil, false
		}
		packed = joined(packed, []byte{1}, textForm(e.Url), textForm(e.Body))
	}
	return packed, true
}

func recordText(r impl.Record) string {
	return "{" + strconv.Itoa(r.Kind) + " " + short(r.Url) + " " + short(r.Body) + "}"
}

func recordsText(list []impl.Record) string {
	all := []string{}
	for _, r := range list {
		all = append(all, recordText(r))
	}
	return "[" + strings.Join(all, " ") + "]"
}

func entriesText(list []impl.Entry) string {
	all := []string{}
	for _, e := range list {
		all = append(all, "{"+short(e.Url)+" "+short(e.Body)+"}")
	}
	return "[" + strings.Join(all, " ") + "]"
}

func checkUrl(t *testing.T, s string, want bool) {
	t.Helper()
	if got := impl.UrlOk(s); got != want {
		t.Errorf("UrlOk(%s) = %v", short(s), got)
	}
	if urlFits(s) != want {
		t.Errorf("the tests' own rule holds %s to be %v", short(s), !want)
	}
	_, keeps := checkRecordPack(t, keeping(s, "x"))
	_, drops := checkRecordPack(t, dropping(s))
	if keeps != want || drops != want {
		t.Errorf("with the Url %s: RecKeep packs: %v, RecDrop packs: %v", short(s), keeps, drops)
	}
}

func checkRecordPack(t *testing.T, r impl.Record) ([]byte, bool) {
	t.Helper()
	want, wantOk := expectedRecordPack(r)
	got, ok := impl.RecordPack(r)
	if ok != wantOk || !bytes.Equal(got, want) {
		t.Errorf("RecordPack of %s = %s, %v; want %s, %v", recordText(r), short(string(got)), ok, short(string(want)), wantOk)
	}
	second, _ := impl.RecordPack(r)
	overwrite(got, 77)
	overwrite(append(got, 78), 79)
	if !bytes.Equal(second, want) {
		t.Errorf("two answers of RecordPack of %s share memory", recordText(r))
	}
	return want, wantOk
}

func checkNoRecordPack(t *testing.T, r impl.Record) {
	t.Helper()
	if packed, ok := checkRecordPack(t, r); ok || len(packed) != 0 {
		t.Errorf("RecordPack of %s = %s, %v", recordText(r), short(string(packed)), ok)
	}
}

func checkRecordRead(t *testing.T, b []byte, at int) (impl.Record, int, bool) {
	t.Helper()
	want, wantNext, wantOk := expectedRecordRead(b, at)
	g := guard(b, 1)
	got, next, ok := impl.RecordRead(g.arg, at)
	if got != want || next != wantNext || ok != wantOk {
		t.Errorf("RecordRead(%s, %d) = %s, %d, %v; want %s, %d, %v", short(string(b)), at, recordText(got), next, ok, recordText(want), wantNext, wantOk)
	}
	if !g.untouched() {
		t.Errorf("RecordRead(%s, %d) wrote into its argument, or behind it", short(string(b)), at)
	}
	overwrite(g.arg, 77)
	if got != want {
		t.Errorf("RecordRead(%s, %d): a later change of the bytes is seen in the record", short(string(b)), at)
	}
	return want, wantNext, wantOk
}

func checkNoRecord(t *testing.T, why string, b []byte, at int) {
	t.Helper()
	if r, next, ok := checkRecordRead(t, b, at); ok || next != 0 || r != (impl.Record{}) {
		t.Errorf("%s: RecordRead(%s, %d) = %s, %d, %v", why, short(string(b)), at, recordText(r), next, ok)
	}
}

func checkRecords(t *testing.T, b []byte) ([]impl.Record, bool) {
	t.Helper()
	want, wantOk := expectedRecords(b)
	got, ok := impl.Records(b)
	if ok != wantOk || !slices.Equal(got, want) {
		t.Errorf("Records(%s) = %s, %v; want %s, %v", short(string(b)), recordsText(got), ok, recordsText(want), wantOk)
	}
	checkOwnMemory(t, "Records", b, 1, fillRecord, func(b []byte) []impl.Record {
		list, _ := impl.Records(b)
		return list
	})
	return want, wantOk
}

func checkRecordsAre(t *testing.T, b []byte, want ...impl.Record) {
	t.Helper()
	if list, ok := checkRecords(t, b); !ok || !slices.Equal(list, want) {
		t.Errorf("Records(%s) = %s, %v; want %s", short(string(b)), recordsText(list), ok, recordsText(want))
	}
}

func checkNoRecords(t *testing.T, why string, b []byte) {
	t.Helper()
	if list, ok := checkRecords(t, b); ok || len(list) != 0 {
		t.Errorf("%s: Records(%s) = %s, %v", why, short(string(b)), recordsText(list), ok)
	}
}

func checkIndexOf(t *testing.T, list []impl.Record) []impl.Entry {
	t.Helper()
	want := expectedIndex(list)
	if got := impl.IndexOf(list); !slices.Equal(got, want) {
		t.Errorf("IndexOf(%s) = %s, want %s", recordsText(list), entriesText(got), entriesText(want))
	}
	checkOwnMemory(t, "IndexOf", list, fillRecord, fillEntry, impl.IndexOf)
	return want
}

func checkIndexIs(t *testing.T, list []impl.Record, want ...impl.Entry) {
	t.Helper()
	if got := checkIndexOf(t, list); !slices.Equal(got, want) {
		t.Errorf("IndexOf(%s) = %s, want %s", recordsText(list), entriesText(got), entriesText(want))
	}
}

func checkIndexFind(t *testing.T, list []impl.Entry, url string) (string, bool) {
	t.Helper()
	want, wantOk := expectedIndexFind(list, url)
	g := guard(list, fillEntry)
	got, ok := impl.IndexFind(g.arg, url)
	if got != want || ok != wantOk {
		t.Errorf("IndexFind(%s, %s) = %s, %v; want %s, %v", entriesText(list), short(url), short(got), ok, short(want), wantOk)
	}
	if !g.untouched() {
		t.Errorf("IndexFind(%s, %s) wrote into its argument, or behind it", entriesText(list), short(url))
	}
	return want, wantOk
}

func checkIndexFinds(t *testing.T, list []impl.Entry, url string, body string) {
	t.Helper()
	if got, ok := checkIndexFind(t, list, url); !ok || got != body {
		t.Errorf("IndexFind(%s, %s) = %s, %v; want %s", entriesText(list), short(url), short(got), ok, short(body))
	}
}

func checkNoneFound(t *testing.T, list []impl.Entry, url string) {
	t.Helper()
	if got, ok := checkIndexFind(t, list, url); ok || got != "" {
		t.Errorf("IndexFind(%s, %s) = %s, %v", entriesText(list), short(url), short(got), ok)
	}
}

func checkIndexPack(t *testing.T, list []impl.Entry) ([]byte, bool) {
	t.Helper()
	want, wantOk := expectedIndexPack(list)
	got, ok := impl.IndexPack(list)
	if ok != wantOk || !bytes.Equal(got, want) {
		t.Errorf("IndexPack(%s) = %s, %v; want %s, %v", entriesText(list), short(string(got)), ok, short(string(want)), wantOk)
	}
	checkOwnMemory(t, "IndexPack", list, fillEntry, 77, func(list []impl.Entry) []byte {
		packed, _ := impl.IndexPack(list)
		return packed
	})
	return want, wantOk
}

func checkIndexPacks(t *testing.T, want string, list ...impl.Entry) {
	t.Helper()
	if packed, ok := checkIndexPack(t, list); !ok || string(packed) != want {
		t.Errorf("IndexPack(%s) = %q, %v; want %q", entriesText(list), packed, ok, want)
	}
}

func checkNoIndexPack(t *testing.T, list []impl.Entry) {
	t.Helper()
	if packed, ok := checkIndexPack(t, list); ok || len(packed) != 0 {
		t.Errorf("IndexPack(%s) = %s, %v", entriesText(list), short(string(packed)), ok)
	}
}

func everyByte() string {
	every := make([]byte, 256)
	for i := range every {
		every[i] = byte(i)
	}
	return string(every)
}

// longestUrl has 60 bytes, no two of them alike.
func longestUrl() string {
	return everyByte()[33:93]
}

func rightUrls() []string {
	return []string{"u", "a", "ab", "!", "~", "!~", "http://x/~", "B", "1", "\"<&>'", longestUrl(), longestUrl()[:59], strings.Repeat("~", 60), everyByte()[70:127]}
}

func wrongUrls() []string {
	urls := []string{"", " ", "a b", " a", "a ", "\x7f", "a\x7f", "\x00", "\x1f", "a\n", "\ta", "\x80", "\xff", "\xffa", "\u00e9", "a\u20acb", "\ufeffa"}
	for _, size := range []int{61, 62, 127, 128, 188, 256, 257, 316, 3000, 65536 + 60} {
		urls = append(urls, strings.Repeat("u", size))
	}
	return append(urls, longestUrl()+"x", longestUrl()[:59]+"\x7f", " "+longestUrl()[:59], longestUrl()[:30]+"\x80"+longestUrl()[:29])
}

func someBodies() []string {
	bodies := []string{"", "x", "xy", "\x00", "\x01\x01u\x02xy", "\x02\x01v", "\xff\xff", everyByte(), "\u20ac \n"}
	for _, size := range []int{126, 127, 128, 129, 255, 256, 5000} {
		bodies = append(bodies, strings.Repeat("b", size-1)+"\x80")
	}
	return bodies
}

// rightRecords have each right Url with some Body, each Body with some Url, and both kinds.
func rightRecords() []impl.Record {
	list := []impl.Record{}
	for i, url := range rightUrls() {
		list = append(list, keeping(url, "body "+strconv.Itoa(i)), dropping(url))
	}
	for i, body := range someBodies() {
		list = append(list, keeping(rightUrls()[i%len(rightUrls())], body))
	}
	return list
}

func wrongKinds() []int {
	return []int{0, 3, -1, -2, 4, 127, 128, 129, 130, 255, 256, 257, 258, 1 << 32, 1<<32 + 1, 1<<32 + 2, 1<<62 + 1, math.MaxInt, math.MaxInt - 1, math.MinInt, math.MinInt + 1, math.MinInt + 2}
}

func packedRecord(r impl.Record) []byte {
	packed, _ := expectedRecordPack(r)
	return packed
}

func packedRecords(list ...impl.Record) []byte {
	all := []byte{}
	for _, r := range list {
		all = append(all, packedRecord(r)...)
	}
	return all
}

func TestRecordConstants(t *testing.T) {
	if impl.MaxUrl != 60 || impl.RecKeep != 1 || impl.RecDrop != 2 {
		t.Error("numbers:", impl.MaxUrl, impl.RecKeep, impl.RecDrop)
	}
}

func TestUrlOk(t *testing.T) {
	for _, s := range rightUrls() {
		checkUrl(t, s, true)
	}
	for _, s := range wrongUrls() {
		checkUrl(t, s, false)
	}
	for size := range 200 {
		checkUrl(t, strings.Repeat("u", size), size >= 1 && size <= 60)
	}
}

func TestUrlOkOfEachByte(t *testing.T) {
	for x := range 256 {
		right := x >= 33 && x <= 126
		b := string([]byte{byte(x)})
		for _, s := range []string{b, b + "u", "u" + b, "u" + b + "v", b + b, b + longestUrl()[:59], longestUrl()[:59] + b, longestUrl()[:29] + b + longestUrl()[:30], strings.Repeat(b, 60)} {
			checkUrl(t, s, right)
		}
		for _, s := range []string{b + longestUrl(), longestUrl() + b, longestUrl()[:30] + b + longestUrl()[:30], strings.Repeat(b, 61)} {
			checkUrl(t, s, false)
		}
	}
}

func TestUrlOkOfAWrongByteAtEachPlace(t *testing.T) {
	for at := range 60 {
		for _, x := range []byte{32, 127, 0, 128, 255, 10} {
			turned := []byte(longestUrl())
			turned[at] = x
			checkUrl(t, string(turned), false)
		}
	}
}

func TestRecordPack(t *testing.T) {
	for want, r := range map[string]impl.Record{
		"\x01\x01u\x02xy": keeping("u", "xy"), "\x01\x01u\x00": keeping("u", ""), "\x02\x01v": dropping("v"), "\x02\x02ab": dropping("ab"),
		"\x01\x03a/b\x04\x00\xff\x01\x02":                             keeping("a/b", "\x00\xff\x01\x02"),
		"\x01\x3c" + longestUrl() + "\x7f" + strings.Repeat("x", 127): keeping(longestUrl(), strings.Repeat("x", 127)),
		"\x01\x01u\x80\x01" + strings.Repeat("x", 128):                keeping("u", strings.Repeat("x", 128)),
		"\x01\x01u\x88\x27" + strings.Repeat("x", 5000):               keeping("u", strings.Repeat("x", 5000)),
		"\x01\x01u\x80\x80\x01" + strings.Repeat("x", 16384):          keeping("u", strings.Repeat("x", 16384)),
		"\x02\x3c" + longestUrl():                                     dropping(longestUrl()),
		"\x01\x01~\x80\x02" + everyByte():                             keeping("~", everyByte()),
		"\x01\x01!\xff\xff\x07" + strings.Repeat("\x00", 128*128*8-1): keeping("!", strings.Repeat("\x00", 128*128*8-1)),
		"\x01\x01u\x0b\x01\x01u\x02xy\x02\x01v\x01\x01":               keeping("u", "\x01\x01u\x02xy\x02\x01v\x01\x01"),
	} {
		if packed, ok := checkRecordPack(t, r); !ok || string(packed) != want {
			t.Errorf("RecordPack of %s = %s, %v; want %s", recordText(r), short(string(packed)), ok, short(want))
		}
	}
	for _, r := range rightRecords() {
		if _, ok := checkRecordPack(t, r); !ok {
			t.Errorf("RecordPack of %s is refused", recordText(r))
		}
	}
}

func TestRecordPackRefuses(t *testing.T) {
	for _, kind := range wrongKinds() {
		for _, url := range []string{"u", longestUrl(), "", "a b"} {
			for _, body := range []string{"", "x"} {
				checkNoRecordPack(t, impl.Record{Kind: kind, Url: url, Body: body})
			}
		}
	}
	for _, url := range wrongUrls() {
		for _, body := range []string{"", "x", everyByte()} {
			checkNoRecordPack(t, keeping(url, body))
			checkNoRecordPack(t, impl.Record{Kind: 2, Url: url, Body: body})
		}
	}
	for _, url := range rightUrls() {
		for _, body := range someBodies() {
			if body != "" {
				checkNoRecordPack(t, impl.Record{Kind: 2, Url: url, Body: body})
			}
		}
	}
	checkNoRecordPack(t, impl.Record{})
}

// followed are bytes behind a record: whatever stands there, it belongs to no record ahead of it.
func followed() []string {
	return []string{"", "\x00", "\x01", "\x02", "\x80", "\xff", "\x01\x01u\x02xy", "\x02\x01v", "xyz", "\x00\x00\x00", strings.Repeat("\xff", 12)}
}

func TestRecordsAreReadAsTheyWere(t *testing.T) {
	for _, r := range rightRecords() {
		packed := packedRecord(r)
		for _, ahead := range []string{"", "\x00", "\x01", "\x80", "ahead", "\x01\x01u\x02xy", "\x02\x01v", strings.Repeat("\xff", 200)} {
			for _, behind := range followed() {
				got, next, ok := checkRecordRead(t, joined([]byte(ahead), packed, []byte(behind)), len(ahead))
				if !ok || got != r || next != len(ahead)+len(packed) {
					t.Errorf("read of %s behind %q = %s, %d, %v", recordText(r), ahead, recordText(got), next, ok)
				}
			}
		}
		own, _ := impl.RecordPack(r)
		got, next, ok := impl.RecordRead(own, 0)
		again, _ := impl.RecordPack(got)
		if !ok || got != r || next != len(own) || !bytes.Equal(again, packed) {
			t.Errorf("packed and read %s is %s, %d, %v", recordText(r), recordText(got), next, ok)
		}
	}
}

func TestRecordReadOfEachSize(t *testing.T) {
	for size := range 600 {
		r := keeping(longestUrl()[:1+size%60], strings.Repeat("\x01", size))
		packed := packedRecord(r)
		if got, next, ok := checkRecordRead(t, packed, 0); !ok || got != r || next != len(packed) {
			t.Errorf("a Body of %d bytes: %d, %v", size, next, ok)
		}
		checkNoRecord(t, "a byte less", packed[:len(packed)-1], 0)
	}
}

func TestRecordReadTorn(t *testing.T) {
	for _, r := range rightRecords() {
		packed := packedRecord(r)
		for size := range packed {
			checkNoRecord(t, "torn", packed[:size], 0)
			if size < 200 {
				checkNoRecord(t, "torn behind others", joined([]byte("\x02\x01v"), packed[:size]), 3)
			}
		}
	}
}

func TestRecordReadPlaces(t *testing.T) {
	all := packedRecords(keeping("u", "xy"), dropping("v"), keeping("w", ""), keeping("!", "\x02\x01z"))
	for at := -3; at < len(all)+3; at++ {
		checkRecordRead(t, all, at)
	}
	for _, b := range [][]byte{all, packedRecord(keeping("u", "xy")), packedRecord(dropping("v")), {1}, {}, nil} {
		for _, at := range joined(farPlaces(len(b)), []int{len(b), len(b) + 1, -1, math.MaxInt, math.MinInt}) {
			if at < 0 || at >= len(b) {
				checkNoRecord(t, "at no place", b, at)
			}
		}
	}
	checkNoRecord(t, "no bytes", nil, 0)
	checkNoRecord(t, "no bytes", []byte{}, 0)
	inBody := packedRecord(keeping("u", "\x02\x01v"))
	if r, next, ok := checkRecordRead(t, inBody, 4); !ok || r != dropping("v") || next != 7 {
		t.Errorf("a record within a Body: %s, %d, %v", recordText(r), next, ok)
	}
}

// recordNumbers puts the three forms of numbers of a record together as they are given.
func recordNumbers(kind []byte, urlSize []byte, bodySize []byte, r impl.Record) []byte {
	return joined(kind, urlSize, []byte(r.Url), bodySize, []byte(r.Body))
}

func TestRecordReadOfOtherForms(t *testing.T) {
	for _, r := range []impl.Record{keeping("u", "xy"), keeping("u", ""), keeping(longestUrl(), strings.Repeat("x", 300))} {
		kind, urlSize, bodySize := numForm(1), numForm(len(r.Url)), numForm(len(r.Body))
		if got, _, ok := checkRecordRead(t, recordNumbers(kind, urlSize, bodySize, r), 0); !ok || got != r {
			t.Error("the record itself:", recordText(got), ok)
		}
		checkNoRecord(t, "a long Kind", recordNumbers(longForm(1), urlSize, bodySize, r), 0)
		checkNoRecord(t, "a long length of Url", recordNumbers(kind, longForm(len(r.Url)), bodySize, r), 0)
		checkNoRecord(t, "a long length of Body", recordNumbers(kind, urlSize, longForm(len(r.Body)), r), 0)
		for size := 2; size < 12; size++ {
			long := joined([]byte{129}, repeated[byte](128, size-2), []byte{0})
			checkNoRecord(t, "a longer Kind", recordNumbers(long, urlSize, bodySize, r), 0)
			checkNoRecord(t, "a longer length of Url", recordNumbers(kind, long, bodySize, keeping("u", r.Body)), 0)
			checkNoRecord(t, "a longer length of Body", recordNumbers(kind, urlSize, long, keeping(r.Url, "b")), 0)
		}
	}
	drop := dropping("v")
	checkNoRecord(t, "a long Kind of RecDrop", joined(longForm(2), textForm("v")), 0)
	checkNoRecord(t, "a long length of Url in RecDrop", joined(numForm(2), longForm(1), []byte("v")), 0)
	if r, next, ok := checkRecordRead(t, joined(packedRecord(drop), longForm(0)), 0); !ok || r != drop || next != 3 {
		t.Error("RecDrop ahead of a long form:", recordText(r), next, ok)
	}
}

func TestRecordReadOfLengthsBeyond(t *testing.T) {
	for _, beyond := range joined([]int{3, 4, 100, 127, 128, 300, 1 << 20}, numEdges()) {
		if beyond <= 2 {
			continue
		}
		checkNoRecord(t, "a Body beyond the bytes", recordNumbers(numForm(1), numForm(1), numForm(beyond), keeping("u", "xy")), 0)
		checkNoRecord(t, "an Url beyond the bytes", recordNumbers(numForm(2), numForm(beyond), nil, dropping("uv")), 0)
		checkNoRecord(t, "an Url beyond the bytes", recordNumbers(numForm(1), numForm(beyond), nil, keeping("uv", "")), 0)
		checkNoRecord(t, "behind others", joined([]byte("ahead"), recordNumbers(numForm(1), numForm(1), numForm(beyond), keeping("u", "xy"))), 5)
	}
	for size := 9; size < 14; size++ {
		great := joined(repeated[byte](255, size), []byte{1})
		checkNoRecord(t, "a length of too many bytes", recordNumbers(numForm(1), numForm(1), great, keeping("u", "xy")), 0)
		checkNoRecord(t, "a length of too many bytes", recordNumbers(numForm(1), great, numForm(2), keeping("u", "xy")), 0)
		checkNoRecord(t, "a Kind of too many bytes", recordNumbers(great, numForm(1), numForm(2), keeping("u", "xy")), 0)
	}
}

func TestRecordReadOfWrongRecords(t *testing.T) {
	for _, kind := range wrongKinds() {
		if kind < 0 {
			continue
		}
		checkNoRecord(t, "another Kind", recordNumbers(numForm(kind), numForm(1), numForm(2), keeping("u", "xy")), 0)
		checkNoRecord(t, "another Kind without a Body", joined(numForm(kind), textForm("u")), 0)
	}
	for x := range 256 {
		if _, _, ok := checkRecordRead(t, []byte{byte(x), 1, 'u', 0}, 0); ok != (x == 1 || x == 2) {
			t.Errorf("Kind %d: %v", x, ok)
		}
	}
	for _, url := range wrongUrls() {
		checkNoRecord(t, "RecKeep of a wrong Url", joined(numForm(1), textForm(url), textForm("xy")), 0)
		checkNoRecord(t, "RecDrop of a wrong Url", joined(numForm(2), textForm(url)), 0)
		checkNoRecord(t, "RecDrop of a wrong Url", joined(numForm(2), textForm(url), textForm("")), 0)
	}
}

func TestRecordReadOfRecDropAheadOfOthers(t *testing.T) {
	for _, other := range rightRecords() {
		all := packedRecords(dropping("v"), other)
		if r, next, ok := checkRecordRead(t, all, 0); !ok || r != dropping("v") || next != 3 {
			t.Errorf("RecDrop ahead of %s: %s, %d, %v", recordText(other), recordText(r), next, ok)
		}
		if r, next, ok := checkRecordRead(t, all, 3); !ok || r != other || next != len(all) {
			t.Errorf("behind RecDrop %s is read as %s, %d, %v", recordText(other), recordText(r), next, ok)
		}
	}
	for size := range 130 {
		behind := textForm(strings.Repeat("x", size))
		if r, next, ok := checkRecordRead(t, joined([]byte("\x02\x01v"), behind), 0); !ok || r.Body != "" || next != 3 {
			t.Errorf("RecDrop takes a Body behind it: %s, %d, %v", recordText(r), next, ok)
		}
		checkNoRecords(t, "RecDrop with a Body", joined([]byte("\x02\x01v"), behind))
	}
}

func TestRecordReadOfOneByteTurned(t *testing.T) {
	for _, list := range [][]impl.Record{{keeping("u", "xy")}, {keeping("u", "")}, {dropping("v")}, {dropping("ab"), keeping("c", "\x02\x01d"), dropping("!")}, {keeping(longestUrl(), "b")}} {
		turnedBytes(packedRecords(list...), func(turned []byte) {
			checkRecordRead(t, turned, 0)
			checkRecordRead(t, turned, len(turned)/2)
			checkRecords(t, turned)
		})
	}
}

// eachFewBytes goes over all rows of at most size of these bytes.
func eachFewBytes(few string, size int, use func([]byte)) {
	rows := [][]byte{{}}
	for range size + 1 {
		longer := [][]byte{}
		for _, row := range rows {
			use(row)
			for i := range len(few) {
				longer = append(longer, joined(row, []byte{few[i]}))
			}
		}
		rows = longer
	}
}

func TestRecordsOfAnyFewBytes(t *testing.T) {
	right := 0
	eachFewBytes("\x00\x01\x02\x03\x80!\x7f", 5, func(b []byte) {
		for at := range len(b) + 1 {
			checkRecordRead(t, b, at)
		}
		if _, ok := checkRecords(t, b); ok {
			right++
		}
	})
	if right < 5 {
		t.Error("few of all these bytes are records:", right)
	}
	eachFewBytes("\x00\x01\x02!", 7, func(b []byte) { checkRecords(t, b) })
}

func TestRecords(t *testing.T) {
	checkRecordsAre(t, nil)
	checkRecordsAre(t, []byte{})
	checkRecordsAre(t, []byte("\x01\x01u\x02xy\x02\x01v"), keeping("u", "xy"), dropping("v"))
	checkRecordsAre(t, []byte("\x02\x01v\x01\x01u\x02xy"), dropping("v"), keeping("u", "xy"))
	checkRecordsAre(t, []byte("\x01\x01u\x00\x01\x01u\x00\x02\x01u"), keeping("u", ""), keeping("u", ""), dropping("u"))
	for _, r := range rightRecords() {
		checkRecordsAre(t, packedRecord(r), r)
		checkRecordsAre(t, packedRecords(r, r), r, r)
		checkRecordsAre(t, packedRecords(r, dropping("v"), r), r, dropping("v"), r)
		checkRecordsAre(t, packedRecords(dropping("v"), dropping("w"), r, keeping("z", "")), dropping("v"), dropping("w"), r, keeping("z", ""))
	}
	checkRecordsAre(t, packedRecords(rightRecords()...), rightRecords()...)
	many := []impl.Record{}
	for i := range 3000 {
		many = append(many, keeping("u"+strconv.Itoa(i%7), strconv.Itoa(i)), dropping(strconv.Itoa(i)))
	}
	checkRecordsAre(t, packedRecords(many...), many...)
}

func TestRecordsInAnyOrder(t *testing.T) {
	few := []impl.Record{keeping("u", "xy"), dropping("u"), keeping("v", ""), dropping("ww")}
	for i := range 256 {
		list := []impl.Record{few[i%4], few[i/4%4], few[i/16%4], few[i/64]}
		checkRecordsAre(t, packedRecords(list...), list...)
	}
}

func TestRecordsTorn(t *testing.T) {
	list := []impl.Record{keeping("u", "xy"), dropping("v"), keeping("w", ""), keeping("u", everyByte()), dropping(longestUrl()), keeping("x", "\x01\x01")}
	all, borders := packedRecords(list...), []int{0}
	for i := range list {
		borders = append(borders, len(packedRecords(list[:i+1]...)))
	}
	for size := range len(all) + 1 {
		whole := slices.Index(borders, size)
		if whole >= 0 {
			checkRecordsAre(t, all[:size], list[:whole]...)
		} else {
			checkNoRecords(t, "torn", all[:size])
		}
		if slices.Contains(borders, size) {
			checkRecordsAre(t, all[size:], list[slices.Index(borders, size):]...)
		} else {
			checkRecords(t, all[size:])
		}
	}
}

func TestRecordsWithOneThatIsWrong(t *testing.T) {
	wrong := []string{"\x00", "\x03\x01u\x00", "\x01", "\x01\x00\x00", "\x01\x01 \x00", "\x01\x01\x7f\x00", "\x81\x00\x01u\x00", "\x01\x81\x00u\x00", "\x01\x01u\x80\x00", "\x02\x01\x80", "\x02\x00", "\x02\x3d" + longestUrl() + "x", "\x00\x01u", "\x01\x01u", "\x02\x02v", "\xff"}
	for _, bad := range wrong {
		checkNoRecords(t, "alone", []byte(bad))
		for _, r := range []impl.Record{dropping("v"), keeping("u", "xy"), keeping(longestUrl(), strings.Repeat("\xff", 200))} {
			right := packedRecords(r, r)
			checkNoRecords(t, "behind right ones", joined(right, []byte(bad)))
		}
	}
	for _, bad := range []string{"\x00", "\x03\x01u\x00", "\x01\x00\x00", "\x01\x01 \x00", "\x81\x00\x01u\x00", "\x01\x81\x00u\x00", "\x01\x01u\x80\x00", "\x02\x01\x80", "\x02\x00", "\x02\x3d" + longestUrl() + "x", "\xff"} {
		right := packedRecords(keeping("u", "xy"), dropping("v"))
		checkNoRecords(t, "ahead of right ones", joined([]byte(bad), right))
		checkNoRecords(t, "between right ones", joined(right, []byte(bad), right))
	}
	for _, r := range rightRecords() {
		packed := packedRecord(r)
		checkNoRecords(t, "a byte too few", packed[:len(packed)-1])
		checkNoRecords(t, "a byte too few at the beginning", packed[1:])
		for _, more := range []byte{0, 1, 2, 3, 'u', 128, 255} {
			checkNoRecords(t, "a byte too many", append(slices.Clone(packed), more))
		}
	}
}

func TestIndexOf(t *testing.T) {
	checkIndexIs(t, nil)
	checkIndexIs(t, []impl.Record{})
	checkIndexIs(t, []impl.Record{keeping("u", "x")}, entry("u", "x"))
	checkIndexIs(t, []impl.Record{keeping("u", "")}, entry("u", ""))
	checkIndexIs(t, []impl.Record{keeping("u", "x"), keeping("u", "y")}, entry("u", "y"))
	checkIndexIs(t, []impl.Record{keeping("u", "x"), keeping("u", "")}, entry("u", ""))
	checkIndexIs(t, []impl.Record{keeping("u", "x"), keeping("u", "x")}, entry("u", "x"))
	checkIndexIs(t, []impl.Record{keeping("u", "x"), dropping("u")})
	checkIndexIs(t, []impl.Record{dropping("u")})
	checkIndexIs(t, []impl.Record{dropping("u"), keeping("u", "x")}, entry("u", "x"))
	checkIndexIs(t, []impl.Record{keeping("u", "x"), dropping("u"), keeping("u", "y")}, entry("u", "y"))
	checkIndexIs(t, []impl.Record{keeping("u", "x"), dropping("u"), keeping("u", "y"), dropping("u")})
	checkIndexIs(t, []impl.Record{keeping("u", "x"), dropping("u"), dropping("u")})
	checkIndexIs(t, []impl.Record{keeping("u", "x"), dropping("v")}, entry("u", "x"))
	checkIndexIs(t, []impl.Record{keeping("u", "x"), dropping("U"), dropping("uu"), dropping("")}, entry("u", "x"))
	checkIndexIs(t, []impl.Record{keeping("u", "1"), keeping("v", "2"), keeping("u", "3")}, entry("u", "3"), entry("v", "2"))
	checkIndexIs(t, []impl.Record{keeping("b", "1"), keeping("a", "2"), keeping("b", "3"), keeping("c", ""), dropping("c")}, entry("a", "2"), entry("b", "3"))
}

// ascending are Urls in the order of their bytes: right ones, and others.
func ascending() []string {
	return []string{"", "\x00", "\x00\x00", "\n", " ", "!", "!!", "0", "10", "2", "A", "B", "Ba", "Z", "a", "a!", "aB", "ab", "aba", "b", "ba", "z", "~", "\x7f", "\x80", "\u00e9", "\u20ac", "\U0001f600", "\xff", "\xff\xff"}
}

func TestIndexOfTellsAscending(t *testing.T) {
	urls := ascending()
	want := []impl.Entry{}
	for _, url := range urls {
		want = append(want, entry(url, "of "+url))
	}
	// No stride has a factor of the 30 Urls: each comes once, in another order.
	for _, stride := range []int{1, 7, 11, 13, 17, 19, 23, 29} {
		for from := range urls {
			list := []impl.Record{}
			for i := range urls {
				url := urls[(from+i*stride)%len(urls)]
				list = append(list, keeping(url, "of "+url))
			}
			checkIndexIs(t, list, want...)
		}
	}
	for i, a := range urls {
		for j, b := range urls {
			if i < j {
				checkIndexIs(t, []impl.Record{keeping(a, "1"), keeping(b, "2")}, entry(a, "1"), entry(b, "2"))
				checkIndexIs(t, []impl.Record{keeping(b, "2"), keeping(a, "1")}, entry(a, "1"), entry(b, "2"))
			}
		}
	}
	checkIndexIs(t, []impl.Record{keeping("a", "1"), keeping("ab", "2"), keeping("B", "3")}, entry("B", "3"), entry("a", "1"), entry("ab", "2"))
}

func TestIndexOfGoesByTheWords(t *testing.T) {
	for _, kind := range wrongKinds() {
		other := impl.Record{Kind: kind, Url: "u", Body: "z"}
		checkIndexIs(t, []impl.Record{other})
		checkIndexIs(t, []impl.Record{keeping("u", "x"), other})
		checkIndexIs(t, []impl.Record{other, keeping("u", "x")}, entry("u", "x"))
		checkIndexIs(t, []impl.Record{keeping("u", "x"), other, keeping("u", "y")}, entry("u", "y"))
		checkIndexIs(t, []impl.Record{keeping("v", "x"), other, keeping("a", "")}, entry("a", ""), entry("v", "x"))
	}
	for _, url := range wrongUrls() {
		checkIndexIs(t, []impl.Record{keeping(url, "x")}, entry(url, "x"))
		checkIndexIs(t, []impl.Record{keeping(url, "x"), dropping(url)})
		checkIndexIs(t, []impl.Record{keeping(url, "x"), keeping(url, "y"), dropping("v")}, entry(url, "y"))
		checkIndexIs(t, []impl.Record{keeping(url, "x"), impl.Record{Kind: 0, Url: url}})
	}
	withBody := impl.Record{Kind: 2, Url: "u", Body: "body"}
	checkIndexIs(t, []impl.Record{keeping("u", "x"), withBody})
	checkIndexIs(t, []impl.Record{withBody})
	for _, body := range someBodies() {
		checkIndexIs(t, []impl.Record{keeping("u", "x"), keeping("u", body)}, entry("u", body))
	}
}

func TestIndexOfEachFewRecords(t *testing.T) {
	eachFewBytes("\x00\x01\x02\x03\x04\x05\x06", 4, func(row []byte) {
		list := []impl.Record{}
		for i, x := range row {
			kind, url := 1+int(x)%3, []string{"b", "a", "ab"}[int(x)/3]
			list = append(list, impl.Record{Kind: kind, Url: url, Body: strconv.Itoa(i)})
		}
		checkIndexOf(t, list)
	})
}

func TestIndexOfMany(t *testing.T) {
	list := []impl.Record{}
	for i := range 4000 {
		url := "u" + strconv.Itoa(i*37%1001)
		if i%5 == 3 {
			list = append(list, dropping(url))
		} else {
			list = append(list, keeping(url, strconv.Itoa(i)))
		}
	}
	got := checkIndexOf(t, list)
	if len(got) < 700 || len(got) > 900 {
		t.Error("entries:", len(got))
	}
	for i, e := range got {
		if i > 0 && got[i-1].Url >= e.Url {
			t.Fatalf("not ascending: %q, %q", got[i-1].Url, e.Url)
		}
	}
}

func TestIndexFind(t *testing.T) {
	list := []impl.Entry{entry("a", "1"), entry("u", "2"), entry("ab", ""), entry("u", "3"), entry("B", everyByte()), entry("", "none"), entry("\xff", "wrong"), entry("", "later"), entry("ab", "4")}
	checkIndexFinds(t, list, "a", "1")
	checkIndexFinds(t, list, "u", "2")
	checkIndexFinds(t, list, "ab", "")
	checkIndexFinds(t, list, "B", everyByte())
	checkIndexFinds(t, list, "", "none")
	checkIndexFinds(t, list, "\xff", "wrong")
	for _, url := range []string{"b", "A", "U", "aa", "abc", "uu", " ", "\x00", "a ", " a", "1", "\xfe", longestUrl(), strings.Repeat("u", 61)} {
		checkNoneFound(t, list, url)
	}
	for _, url := range joined(rightUrls(), wrongUrls()) {
		checkNoneFound(t, nil, url)
		checkNoneFound(t, []impl.Entry{}, url)
		checkNoneFound(t, []impl.Entry{entry("another", "x"), entry(url+"+", "y")}, url)
		checkIndexFinds(t, []impl.Entry{entry(url, "x")}, url, "x")
		checkIndexFinds(t, []impl.Entry{entry("another", "x"), entry(url, "")}, url, "")
		checkIndexFinds(t, []impl.Entry{entry("another", "x"), entry(url, "y"), entry(url, "z")}, url, "y")
		checkIndexFinds(t, []impl.Entry{entry(url, ""), entry(url, "z")}, url, "")
	}
	checkNoneFound(t, []impl.Entry{entry("a", "1")}, "")
}

func TestIndexFindAtEachPlace(t *testing.T) {
	for size := range 40 {
		list := []impl.Entry{}
		for i := range size {
			list = append(list, entry("u"+strconv.Itoa(i), "body "+strconv.Itoa(i)))
		}
		slices.Reverse(list)
		for i := range size {
			checkIndexFinds(t, list, "u"+strconv.Itoa(i), "body "+strconv.Itoa(i))
		}
		checkNoneFound(t, list, "u"+strconv.Itoa(size))
	}
}

func TestIndexPack(t *testing.T) {
	checkIndexPacks(t, "")
	checkIndexPacks(t, "\x01\x01a\x012\x01\x01b\x013", entry("a", "2"), entry("b", "3"))
	checkIndexPacks(t, "\x01\x01b\x013\x01\x01a\x012", entry("b", "3"), entry("a", "2"))
	checkIndexPacks(t, "\x01\x01u\x00", entry("u", ""))
	checkIndexPacks(t, "\x01\x01u\x01x\x01\x01u\x01x\x01\x01u\x00", entry("u", "x"), entry("u", "x"), entry("u", ""))
	checkIndexPacks(t, "\x01\x3c"+longestUrl()+"\x80\x02"+everyByte(), entry(longestUrl(), everyByte()))
	if packed, ok := impl.IndexPack(nil); !ok || len(packed) != 0 {
		t.Error("of nil:", packed, ok)
	}
	list := []impl.Entry{}
	for i, url := range rightUrls() {
		for _, body := range someBodies() {
			checkIndexPacks(t, string(packedRecord(keeping(url, body))), entry(url, body))
		}
		list = append(list, entry(url, strconv.Itoa(i)))
		checkIndexPack(t, list)
	}
}

func TestIndexPackRefuses(t *testing.T) {
	for _, url := range wrongUrls() {
		for _, body := range []string{"", "x", everyByte()} {
			checkNoIndexPack(t, []impl.Entry{entry(url, body)})
		}
		for at := range 6 {
			list := []impl.Entry{entry("a", "1"), entry("b", ""), entry("c", everyByte()), entry("d", "4"), entry("e", "5")}
			checkNoIndexPack(t, slices.Insert(list, at, entry(url, "x")))
		}
		checkNoIndexPack(t, []impl.Entry{entry(url, "x"), entry(url, "y")})
	}
}

func TestIndexIsReadAsItWas(t *testing.T) {
	right := []impl.Entry{}
	for _, url := range ascending() {
		if urlFits(url) {
			right = append(right, entry(url, "of "+url))
		}
	}
	for from := range right {
		for to := from; to <= len(right); to++ {
			list := right[from:to]
			packed, ok := checkIndexPack(t, list)
			records, well := checkRecords(t, packed)
			if !ok || !well || len(records) != len(list) {
				t.Fatalf("of %s: %v, %v, %s", entriesText(list), ok, well, recordsText(records))
			}
			checkIndexIs(t, records, list...)
		}
	}
	unsorted := []impl.Entry{entry("b", "1"), entry("a", "2"), entry("b", "3")}
	packed, _ := checkIndexPack(t, unsorted)
	checkRecordsAre(t, packed, keeping("b", "1"), keeping("a", "2"), keeping("b", "3"))
	records, _ := impl.Records(packed)
	checkIndexIs(t, records, entry("a", "2"), entry("b", "3"))
}

// workedRecords makes a list by the bytes, and beside it by hand what each Url has last.
func workedRecords(steps []byte) ([]impl.Record, map[string]string) {
	list, last := []impl.Record{}, map[string]string{}
	for ; len(steps) >= 3; steps = steps[3:] {
		url := strings.Repeat(string([]byte{'!' + steps[1]%94}), 1+int(steps[1])%5)
		if steps[0]%3 == 0 {
			list = append(list, dropping(url))
			delete(last, url)
			continue
		}
		body := strings.Repeat(string(steps[:3]), int(steps[2]))
		list = append(list, keeping(url, body))
		last[url] = body
	}
	return list, last
}

// checkPromisedRecords goes by promise 17: what is packed is read as it was, and the last record of an Url decides.
func checkPromisedRecords(t *testing.T, list []impl.Record, last map[string]string) {
	t.Helper()
	all := []byte{}
	for _, r := range list {
		packed, ok := impl.RecordPack(r)
		if !ok {
			t.Fatal("refused:", recordText(r))
		}
		got, next, ok := impl.RecordRead(joined(all, packed, all), len(all))
		if all = append(all, packed...); !ok || got != r || next != len(all) {
			t.Fatalf("%s is read as %s, %d, %v", recordText(r), recordText(got), next, ok)
		}
	}
	checkRecordsAre(t, all, list...)
	entries := checkIndexOf(t, list)
	if len(entries) != len(last) {
		t.Fatalf("%d entries, want %d", len(entries), len(last))
	}
	for url, body := range last {
		checkIndexFinds(t, entries, url, body)
	}
	for _, r := range list {
		if _, kept := last[r.Url]; !kept {
			checkNoneFound(t, entries, r.Url)
		}
	}
	compact, ok := checkIndexPack(t, entries)
	again, well := impl.Records(compact)
	if !ok || !well || !slices.Equal(impl.IndexOf(again), entries) {
		t.Fatal("what is packed of the entries is not read as they were")
	}
}

func TestRecordsThatAreMade(t *testing.T) {
	state := uint32(17)
	for run := range 60 {
		steps := []byte{}
		for range 3 * run {
			state = state*1664525 + 1013904223
			steps = append(steps, byte(state>>24))
		}
		list, last := workedRecords(steps)
		checkPromisedRecords(t, list, last)
	}
}

func TestRecordCallsOneBehindTheOther(t *testing.T) {
	list := []impl.Record{keeping("b", "1"), keeping("a", "2"), dropping("b"), keeping("c", "3")}
	want := []impl.Entry{entry("a", "2"), entry("c", "3")}
	packed := packedRecords(list...)
	for _, other := range [][]impl.Record{{keeping("b", "x"), keeping("z", "y")}, {dropping("a"), dropping("c")}, nil, list} {
		impl.IndexOf(other)
		impl.Records(packedRecords(other...)[:len(packedRecords(other...))/2])
		impl.RecordRead(packed, 1)
		impl.RecordPack(dropping(""))
		impl.IndexPack([]impl.Entry{entry("", "")})
		impl.IndexFind([]impl.Entry{entry("a", "other")}, "a")
		if got := impl.IndexOf(list); !slices.Equal(got, want) {
			t.Error("IndexOf hangs on what was called ahead of it:", entriesText(got))
		}
		if got, ok := impl.Records(packed); !ok || !slices.Equal(got, list) {
			t.Error("Records hangs on what was called ahead of it:", recordsText(got), ok)
		}
		if got, ok := impl.IndexFind(want, "a"); !ok || got != "2" {
			t.Error("IndexFind hangs on what was called ahead of it:", got, ok)
		}
	}
}

func TestRecordsAskedByManyAtOnce(t *testing.T) {
	list, last := workedRecords([]byte(strings.Repeat(everyByte()[40:140], 2)))
	packed, entries := packedRecords(list...), expectedIndex(list)
	compact, _ := expectedIndexPack(entries)
	if len(last) != len(entries) {
		t.Fatal("entries:", len(entries))
	}
	var all sync.WaitGroup
	for range 8 {
		all.Go(func() {
			for range 20 {
				records, ok := impl.Records(packed)
				index := impl.IndexOf(list)
				again, _ := impl.IndexPack(entries)
				if !ok || !slices.Equal(records, list) || !slices.Equal(index, entries) || !bytes.Equal(again, compact) {
					t.Error("another answer, asked by many")
				}
				overwrite(records, fillRecord)
				overwrite(index, fillEntry)
				overwrite(again, 77)
			}
		})
	}
	all.Wait()
}

func FuzzRecords(f *testing.F) {
	f.Add([]byte("\x01\x01u\x02xy\x02\x01v"), 0)
	f.Add([]byte("\x02\x01v\x81\x00\x01u\x00"), 3)
	f.Add([]byte("\x01\x01u\xff\xff\xff\xff\xff\xff\xff\xff\x7f"), -1)
	f.Add([]byte{}, 1)
	f.Fuzz(func(t *testing.T, b []byte, at int) {
		checkRecordRead(t, b, at)
		for at := range min(len(b), 100) {
			checkRecordRead(t, b, at)
		}
		if list, ok := checkRecords(t, b); ok {
			checkIndexOf(t, list)
			if again := packedRecords(list...); !bytes.Equal(again, b) {
				t.Errorf("what is read of %q packs to %q", b, again)
			}
		}
	})
}

func FuzzRecordPack(f *testing.F) {
	f.Add(1, "u", "xy", []byte{1, 2, 3, 0, 2, 9, 1, 2, 0})
	f.Add(2, "v", "", []byte{})
	f.Add(2, "a b", "x", []byte{0, 0, 0})
	f.Fuzz(func(t *testing.T, kind int, url string, body string, steps []byte) {
		r := impl.Record{Kind: kind, Url: url, Body: body}
		checkUrl(t, url, urlFits(url))
		if packed, ok := checkRecordPack(t, r); ok {
			checkRecordsAre(t, packed, r)
		}
		checkIndexPack(t, []impl.Entry{entry("a", body), entry(url, body)})
		list, last := workedRecords(steps[:min(len(steps), 3*100)])
		checkPromisedRecords(t, list, last)
		checkIndexOf(t, append(list, r))
		checkIndexFind(t, expectedIndex(append(list, r)), url)
	})
}
