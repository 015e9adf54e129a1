package tests

import (
	"encoding/hex"
	"fmt"
	"math"
	"regexp"
	"runtime"
	"strconv"
	"strings"
	"sync"
	"testing"
	"time"

	"loop.example/g00118/impl"
)

// What is expected below goes by the sentences of the document.
var (
	lineForm  = regexp.MustCompile(`^(?:(keep) ([^ ]*) ([^ ]*)|(drop|get) ([^ ]*)|(compact|crash|open|list))$`)
	digitForm = regexp.MustCompile(`^([0-9a-f][0-9a-f])*$`)
)

func expectedHexText(s string) string {
	if len(s) >= 3001 {
		return ""
	}
	return hex.EncodeToString([]byte(s))
}

func expectedHexBytes(s string) (string, bool) {
	if !digitForm.MatchString(s) || len(s) >= 6001 {
		return "", false
	}
	b, _ := hex.DecodeString(s)
	return string(b), true
}

func saidByCode(code int) string {
	return map[int]string{arDone: "ok", arBad: "bad", arDown: "down", arUrl: "url", arPage: "page", arFull: "full", arNone: "none", arUp: "up"}[code]
}

func byCode(a impl.Archive, code int) (impl.Archive, string) {
	return a, saidByCode(code)
}

func expectedKeepLine(a impl.Archive, address string, word string) (impl.Archive, string) {
	s, ok := expectedHexBytes(word)
	if word != "-" && !ok {
		return cloneArchive(a), "what"
	}
	return byCode(expectedKeep(a, address, s))
}

func expectedGetLine(a impl.Archive, address string) string {
	tree, code := expectedArchiveGet(a, address)
	if code != arDone {
		return saidByCode(code)
	}
	title := expectedTitle(tree)
	if title == "" {
		return fmt.Sprintf("%d -", len(tree.Nodes))
	}
	return fmt.Sprintf("%d %s", len(tree.Nodes), expectedHexText(title))
}

func expectedListLine(a impl.Archive) string {
	urls, code := expectedUrls(a)
	if code == arDone && len(urls) > 0 {
		return strings.Join(urls, " ")
	}
	return map[int]string{arDone: "none", arDown: "down"}[code]
}

func expectedLine(a impl.Archive, line string) (impl.Archive, string) {
	if !archiveFits(a) {
		return cloneArchive(a), "bad"
	}
	if line == "" || line[0] == '#' {
		return cloneArchive(a), ""
	}
	form := lineForm.FindStringSubmatch(line)
	if form == nil || len(line) >= 20001 {
		return cloneArchive(a), "what"
	}
	switch form[1] + form[4] + form[6] {
	case "keep":
		return expectedKeepLine(a, form[2], form[3])
	case "drop":
		return byCode(expectedDrop(a, form[5]))
	case "compact":
		return byCode(expectedCompact(a))
	case "crash":
		return byCode(expectedArchiveCrash(a))
	case "open":
		return byCode(expectedOpen(a))
	case "get":
		return cloneArchive(a), expectedGetLine(a, form[5])
	}
	return cloneArchive(a), expectedListLine(a)
}

// linesOfText goes byte by byte: a line stands ahead of each byte 10, and behind the last one, if that is not empty.
func linesOfText(text string) []string {
	lines, line := []string{}, []byte{}
	for at := range len(text) {
		if text[at] == 10 {
			lines, line = append(lines, string(line)), nil
			continue
		}
		line = append(line, text[at])
	}
	if len(line) > 0 {
		lines = append(lines, string(line))
	}
	return lines
}

func toldByLines(text string, tell func(impl.Archive, string) (impl.Archive, string)) (string, int) {
	if len(text) >= 20001 {
		return "", -1
	}
	lines := linesOfText(text)
	if len(lines) >= 101 {
		return "", -2
	}
	a, all := impl.ArchiveNew(), ""
	for _, line := range lines {
		next, said := tell(a, line)
		a = next
		if said != "" {
			all += said + "\n"
		}
	}
	return all, len(lines)
}

func checkNum(t *testing.T, n int) {
	t.Helper()
	if got := impl.NumText(n); got != fmt.Sprint(n) {
		t.Errorf("NumText(%d) = %q", n, got)
	}
}

func checkHexText(t *testing.T, s string) string {
	t.Helper()
	got := impl.HexText(s)
	if got != expectedHexText(s) {
		t.Errorf("HexText of %d bytes %s = %s", len(s), short(s), short(got))
	}
	return got
}

func checkHexBytes(t *testing.T, s string) (string, bool) {
	t.Helper()
	want, wantOk := expectedHexBytes(s)
	got, ok := impl.HexBytes(s)
	if got != want || ok != wantOk {
		t.Errorf("HexBytes of %d bytes %s = %s, %v; want %s, %v", len(s), short(s), short(got), ok, short(want), wantOk)
	}
	if ok && impl.HexText(got) != s {
		t.Errorf("HexBytes of %s is read, but written as %s", short(s), short(impl.HexText(got)))
	}
	return want, wantOk
}

// checkLine asks for what is told and for the archive behind it, and that this is new memory.
func checkLine(t *testing.T, a impl.Archive, line string) (impl.Archive, string) {
	t.Helper()
	want, wantSaid := expectedLine(a, line)
	bad := codeIf(!archiveFits(a), arBad)
	checkArchiveAnswer(t, "ArchiveLine of "+short(line), a, want, bad, func(a impl.Archive) (impl.Archive, int) {
		got, said := impl.ArchiveLine(a, line)
		if said != wantSaid {
			t.Fatalf("ArchiveLine of %s of %s tells %s, want %s", short(line), archiveText(a), short(said), short(wantSaid))
		}
		return got, bad
	})
	return want, wantSaid
}

// checkTold asks for what is told by hand.
func checkTold(t *testing.T, a impl.Archive, line string, want string) impl.Archive {
	t.Helper()
	next, said := checkLine(t, a, line)
	if said != want {
		t.Errorf("ArchiveLine of %s of %s tells %s, want %s", short(line), archiveText(a), short(said), short(want))
	}
	return next
}

// checkToldAsItIs asks that the archive is as it was, too.
func checkToldAsItIs(t *testing.T, a impl.Archive, line string, want string) {
	t.Helper()
	if next := checkTold(t, a, line, want); !sameArchive(next, a) {
		t.Errorf("ArchiveLine of %s turns %s into %s", short(line), archiveText(a), archiveText(next))
	}
}

// checkSession goes by promise 20: a session tells what ArchiveLine tells, line by line.
func checkSession(t *testing.T, text string) (string, int) {
	t.Helper()
	want, lines := toldByLines(text, expectedLine)
	said, n := impl.Session(text)
	if said != want || n != lines {
		t.Fatalf("Session of %d bytes %s\n got  %q, %d\n want %q, %d", len(text), short(text), said, n, want, lines)
	}
	if told, count := toldByLines(text, impl.ArchiveLine); told != said || count != n {
		t.Fatalf("Session of %s tells %q, %d; ArchiveLine by line %q, %d", short(text), said, n, told, count)
	}
	return want, lines
}

func checkSessionIs(t *testing.T, text string, want string, lines int) {
	t.Helper()
	if said, n := checkSession(t, text); said != want || n != lines {
		t.Errorf("Session of %s tells %q, %d; want %q, %d", short(text), said, n, want, lines)
	}
}

func keepLine(address string, s string) string {
	if s == "" {
		return "keep " + address + " -"
	}
	return "keep " + address + " " + hex.EncodeToString([]byte(s))
}

// eachWord are lines of each word with what it asks for; a is kept in the archives in which all of them can be done.
func eachWord() []string {
	return []string{"keep n -", keepLine("n", "<p>x"), "drop a", "compact", "crash", "open", "get a", "list"}
}

// noLines are lines that are none of the desk's.
func noLines() []string {
	list := []string{
		"help", "x", "0", "-", " ", "  ", "   ", "\t", "\r", "\x00", "\xff", "é", "a b", "a b c", "a b c d", "ok", "none", "what", " #", " # x", "\n", "\n#", ";", "//",
		"keep", "keep a", "keep ", "keep   ", "keep a - ", "keep a  -", "keep  a -", "keep a - -", "keep - a b", "keep a -\n", "keep a\t-", "keep\ta\t-",
		"drop", "drop a ", "drop  a", "drop a b", "drop  ", "drop\ta", "drop\na", "dropa", "get", "get a ", "get  a", "get a b", "get  ", "get\ta", "geta",
		"compact ", "compact a", "compact  ", "compact -", "compact\n", "compact\r", "compact\t", "crash ", "crash 1", "crash a b", "crash\r", "open ", "open a", "open a b", "open\r", "list ", "list a", "list  ", "list a b", "list\r", "list\x00",
		"Keep a -", "KEEP a -", "keeP a -", "Drop a", "DROP a", "Get a", "GET a", "gEt a", "Compact", "COMPACT", "Crash", "CRASH", "Open", "OPEN", "List", "LIST", "lisT",
		"kee a -", "keeps a -", "dro a", "drops a", "ge a", "gets a", "compac", "compacts", "cras", "crashs", "ope", "opens", "lis", "lists", "lst", "put a -", "tear a", "session",
	}
	for _, line := range eachWord() {
		list = append(list, " "+line, line+" ", "  "+line, line+"  ", strings.ReplaceAll(line, " ", "  ")+" ", "\t"+line, "\xef\xbb\xbf"+line, line+" x", line+" -", "x "+line)
	}
	for _, word := range noPages() {
		list = append(list, "keep a "+word, "keep  "+word, "keep a!b "+word)
	}
	return list
}

// noPages are words that are HexText of no page.
func noPages() []string {
	return []string{
		"0", "3", "a", "f", "--", "-0", "00-", "0x", "x0", "zz", "3C", "C3", "AA", "FF", "A0", "0A", "3c7", "3c703", "g0", "0g", "/0", "0/", ":0", "0:", "`0", "0`", "\x000", "0\x00", "\xff0", "é",
		"3c703E", "3c70\t", "\t3c", "3c\r", "3c\n", strings.Repeat("0", 5999), strings.Repeat("0", 6001), strings.Repeat("00", 3001), strings.Repeat("61", 4000), strings.Repeat("-", 100),
	}
}

func TestDeskNumbers(t *testing.T) {
	if impl.MaxText != 20000 || impl.MaxLines != 100 {
		t.Error(impl.MaxText, impl.MaxLines)
	}
}

func TestNumText(t *testing.T) {
	for n, want := range map[int]string{
		0: "0", 1: "1", -1: "-1", 9: "9", -9: "-9", 10: "10", -10: "-10", 100: "100", -120: "-120", 101: "101", 1000000000: "1000000000",
		math.MaxInt: "9223372036854775807", math.MinInt: "-9223372036854775808", math.MinInt + 1: "-9223372036854775807",
	} {
		if got := impl.NumText(n); got != want {
			t.Errorf("NumText(%d) = %q", n, got)
		}
	}
	for n := -3000; n <= 3000; n++ {
		checkNum(t, n)
	}
	for _, n := range numEdges() {
		checkNum(t, n)
		checkNum(t, -n)
	}
	for tens := 1; tens <= math.MaxInt/10; tens *= 10 {
		for n := tens*10 - 2; n <= tens*10+2; n++ {
			checkNum(t, n)
			checkNum(t, -n)
		}
	}
}

func TestHexText(t *testing.T) {
	for s, want := range map[string]string{"": "", "a\n": "610a", "\x00": "00", "\xff": "ff", "\x0f\xf0": "0ff0", "<p>": "3c703e", "é": "c3a9", "\xed\xa0\x80": "eda080"} {
		if got := checkHexText(t, s); got != want {
			t.Errorf("HexText of %q = %q", s, got)
		}
	}
	for b := range 256 {
		one := string([]byte{byte(b)})
		if got := checkHexText(t, one); len(got) != 2 {
			t.Errorf("HexText of byte %d = %q", b, got)
		}
		checkHexText(t, "x"+one+"y")
	}
	checkHexText(t, everyByte())
	for _, x := range []string{"x", "\x00", "\xff", "é"} {
		for _, size := range []int{1, 2, 63, 2998, 2999, 3000} {
			if got := checkHexText(t, strings.Repeat(x, size)[:size]); len(got) != 2*size {
				t.Errorf("%d bytes: %d digits", size, len(got))
			}
		}
		for _, size := range []int{3001, 3002, 6000, 6001, 65536, 68536, 200000} {
			if got := checkHexText(t, strings.Repeat(x, size)[:size]); got != "" {
				t.Errorf("%d bytes: %d digits", size, len(got))
			}
		}
	}
}

func TestHexBytes(t *testing.T) {
	for s, want := range map[string]string{"": "", "610a": "a\n", "00": "\x00", "ff": "\xff", "0ff0": "\x0f\xf0", "c3a9": "é"} {
		if got, ok := checkHexBytes(t, s); !ok || got != want {
			t.Errorf("HexBytes of %q = %q, %v", s, got, ok)
		}
	}
	for _, s := range noPages() {
		if got, ok := checkHexBytes(t, s); ok || got != "" {
			t.Errorf("HexBytes of %s = %s, %v", short(s), short(got), ok)
		}
	}
	for _, s := range []string{"6A", "6a6A", "-", " ", " 61", "61 ", "6 1", "0x61", "61\n", "\n", "６１", "+1", "-1", "1e1", strings.Repeat("f", 100001)} {
		if got, ok := checkHexBytes(t, s); ok || got != "" {
			t.Errorf("HexBytes of %s = %s, %v", short(s), short(got), ok)
		}
	}
}

// TestHexBytesOfEachTwo goes over each byte in either place, alone and behind others that are right.
func TestHexBytesOfEachTwo(t *testing.T) {
	right := 0
	for first := range 256 {
		checkHexBytes(t, string([]byte{byte(first)}))
		for second := range 256 {
			two := string([]byte{byte(first), byte(second)})
			if _, ok := checkHexBytes(t, two); ok {
				right++
			}
			checkHexBytes(t, "61"+two)
			checkHexBytes(t, two+"0f")
		}
	}
	if right != 256 {
		t.Error("digits of one byte:", right)
	}
}

func TestHexBytesOfEachLength(t *testing.T) {
	for _, digit := range []string{"0", "9", "a", "f"} {
		for _, size := range []int{1, 2, 3, 4, 5, 100, 101, 5998, 5999, 6000, 6001, 6002, 6003, 12000, 65536, 71536} {
			got, ok := checkHexBytes(t, strings.Repeat(digit, size))
			if fits := size%2 == 0 && size <= 6000; ok != fits || len(got) != size/2 && ok {
				t.Errorf("%d digits: %d bytes, %v", size, len(got), ok)
			}
		}
	}
	longest := strings.Repeat("ab", 3000)
	for _, at := range []int{0, 1, 2, 2999, 3000, 5998, 5999} {
		for _, sign := range []string{"g", "A", " ", "-", "\x00", "\xff"} {
			if _, ok := checkHexBytes(t, longest[:at]+sign+longest[at+1:]); ok {
				t.Errorf("%q at %d is read", sign, at)
			}
		}
	}
}

func TestHexThereAndBack(t *testing.T) {
	texts := joined(sampleTexts(), somePages(), wrongPages(), []string{everyByte(), strings.Repeat(everyByte(), 11), strings.Repeat("\xff", 3000)})
	for _, s := range texts {
		digits := checkHexText(t, s)
		got, ok := checkHexBytes(t, digits)
		if len(s) <= 3000 && got != s || !ok {
			t.Errorf("%s is written as %s and read as %s, %v", short(s), short(digits), short(got), ok)
		}
	}
}

func TestLinesOfBadArchives(t *testing.T) {
	lines := joined(eachWord(), []string{"", "#", "# x", "#" + strings.Repeat("x", 20000), " ", "what", "get q", "keep", "keep a zz", "LIST", strings.Repeat("x", 20001), "drop " + strings.Repeat("x", 20001)})
	for what, a := range badArchives() {
		for _, line := range lines {
			next, said := impl.ArchiveLine(cloneArchive(a), line)
			if said != "bad" || !sameArchive(next, a) {
				t.Errorf("%s: ArchiveLine of %s = %s, %s", what, short(line), archiveText(next), short(said))
			}
		}
		checkToldAsItIs(t, a, "", "bad")
		checkToldAsItIs(t, a, "list", "bad")
		checkToldAsItIs(t, a, "open", "bad")
	}
}

func TestLinesThatTellNothing(t *testing.T) {
	for _, a := range rightArchives() {
		for _, line := range []string{"", "#", "##", "# x", "#list", "# list", "#\x00", "#\xff", "#\n", "# keep a -", "#" + strings.Repeat("x", 19999)} {
			checkToldAsItIs(t, a, line, "")
		}
	}
}

func TestLinesThatAreNone(t *testing.T) {
	for _, a := range []impl.Archive{impl.ArchiveNew(), twoKept(), downOf(twoKept())} {
		for _, line := range noLines() {
			checkToldAsItIs(t, a, line, "what")
		}
	}
}

// TestLinesTold has each code of each call, told by hand.
func TestLinesTold(t *testing.T) {
	body, _ := bodyOf("x")
	full, last := filledTo(7, 0, 4096, keeping("a", body)), archiveOf(lastNo, 1, keeping("a", body))
	down, none := downOf(twoKept()), downOn(impl.DiskNew())
	seen := map[string]bool{}
	for _, s := range []struct {
		archive impl.Archive
		told    map[string]string
	}{
		{twoKept(), map[string]string{
			"keep n -": "ok", "keep a -": "ok", "keep n ": "ok", "keep n 3c703e78": "ok", "keep n ff": "ok", "keep - -": "ok", "keep # -": "ok", "keep keep -": "ok", keepLine(longestUrl(), "x"): "ok",
			"keep  -": "url", "keep  ": "url", "keep a\tb -": "url", "keep a\n -": "url", "keep \r -": "url", "keep \xff -": "url", "keep \x00 3c": "url", keepLine(longestUrl()+"u", "x"): "url",
			keepLine("n", tooDeep()): "page", keepLine("n", tooLarge()): "page", keepLine("n", tooMuchToPack()): "page", keepLine("", tooDeep()): "url", keepLine("n", tooLong()): "what",
			"drop a": "ok", "drop b": "ok", "drop c": "none", "drop q": "none", "drop -": "none", "drop A": "none", "drop ": "url", "drop a\tb": "url", "drop \x7f": "url", "drop " + strings.Repeat("u", 61): "url",
			"compact": "ok", "crash": "ok", "open": "up", "get a": "5 -", "get b": "6 -", "get c": "none", "get ": "none", "get a\t": "none", "get \xff": "none", "get " + strings.Repeat("u", 61): "none", "list": "a b",
		}},
		{impl.ArchiveNew(), map[string]string{
			"keep u -": "ok", "drop u": "none", "compact": "ok", "crash": "ok", "open": "up", "get u": "none", "get ": "none", "list": "none", "drop ": "url",
		}},
		{down, map[string]string{
			"keep n -": "down", "keep a -": "down", "keep  -": "down", keepLine("n", tooDeep()): "down", "keep n zz": "what", "drop a": "down", "drop q": "down", "drop ": "down", "compact": "down", "crash": "down",
			"open": "ok", "get a": "down", "get q": "down", "get ": "down", "list": "down",
		}},
		{none, map[string]string{
			"keep n -": "down", "drop a": "down", "compact": "down", "crash": "down", "open": "none", "get a": "down", "list": "down",
		}},
		{full, map[string]string{
			"keep n -": "full", "keep a -": "full", "keep  -": "url", keepLine("a", tooDeep()): "page", "drop a": "full", "drop q": "none", "compact": "ok", "crash": "ok", "open": "up", "get a": "5 -", "list": "a",
		}},
		{last, map[string]string{
			"keep n -": "full", "drop a": "full", "compact": "full", "crash": "ok", "open": "up", "get a": "5 -", "list": "a",
		}},
		{archiveOf(2, 0, keeping("a", "no tree"), keeping("z", body)), map[string]string{
			"get a": "bad", "get z": "5 -", "list": "a z", "drop a": "ok", "compact": "ok",
		}},
	} {
		for line, want := range s.told {
			next := checkTold(t, s.archive, line, want)
			if want != "ok" && !sameArchive(next, s.archive) {
				t.Errorf("%s tells %s, and turns %s", short(line), want, archiveText(s.archive))
			}
			seen[want] = true
		}
	}
	for code := range 8 {
		if !seen[saidByCode(code)] {
			t.Error("never told:", saidByCode(code))
		}
	}
}

// TestLinesAreTheirCalls: behind a line that is done stands what the call of chapter 18 answers.
func TestLinesAreTheirCalls(t *testing.T) {
	for what, a := range rightArchives() {
		for address, s := range map[string]string{"a": "<p>x", "q": longPage(3), "": "x", "d": tooDeep(), longestUrl(): ""} {
			for line, call := range map[string]func() (impl.Archive, int){
				keepLine(address, s): func() (impl.Archive, int) { return impl.ArchiveKeep(a, address, []byte(s)) },
				"drop " + address:    func() (impl.Archive, int) { return impl.ArchiveDrop(a, address) },
				"compact":            func() (impl.Archive, int) { return impl.ArchiveCompact(a) },
				"crash":              func() (impl.Archive, int) { return impl.ArchiveCrash(a) },
				"open":               func() (impl.Archive, int) { return impl.ArchiveOpen(a) },
			} {
				next, said := checkLine(t, a, line)
				if called, code := call(); said != saidByCode(code) || !sameArchive(next, called) {
					t.Errorf("%s: %s tells %s, its call %d", what, short(line), said, code)
				}
			}
		}
	}
}

func TestLinesOfEachWord(t *testing.T) {
	for _, a := range rightArchives() {
		for _, line := range eachWord() {
			checkLine(t, a, line)
		}
	}
}

func TestLinesThatGetOrListTurnNothing(t *testing.T) {
	for what, a := range rightArchives() {
		for _, line := range []string{"get a", "get b", "get q", "get ", "list"} {
			if next, _ := checkLine(t, a, line); !sameArchive(next, a) {
				t.Errorf("%s: %s turns it", what, line)
			}
		}
	}
}

func TestKeepLines(t *testing.T) {
	for i, s := range joined(somePages(), []string{"\x00", "\xff", everyByte(), strings.Repeat("x", 3000)}) {
		address := rightUrls()[i%len(rightUrls())]
		line := "keep " + address + " " + hex.EncodeToString([]byte(s))
		checkGot(t, checkTold(t, twoKept(), line, "ok"), address, s)
	}
	a := checkTold(t, twoKept(), "keep n -", "ok")
	checkHasJust(t, a, map[string]string{"a": "y", "b": "<p>x", "n": ""})
	again := checkTold(t, twoKept(), "keep n ", "ok")
	if !sameArchive(a, again) {
		t.Error("an empty word is another page than -")
	}
	checkHasJust(t, checkTold(t, a, "keep n 2d", "ok"), map[string]string{"a": "y", "b": "<p>x", "n": "-"})
	for _, address := range wrongUrls() {
		if !strings.Contains(address, " ") && len(address) < 19000 {
			checkToldAsItIs(t, twoKept(), "keep "+address+" 78", "url")
			checkToldAsItIs(t, twoKept(), "drop "+address, "url")
			checkToldAsItIs(t, twoKept(), "get "+address, "none")
		}
	}
}

func TestGetLines(t *testing.T) {
	for s, want := range map[string]string{
		"": "4 -", "x": "5 -", "<title></title>": "5 -", "<title>T</title>": "6 54", "<title>T": "6 54", "<p>x<title>a b</title>": "8 612062", "<title>&amp;</title><title>2</title>": "8 26",
		"<title> </title>": "6 20", "<title>-</title>": "6 2d", "<title>\n</title>": "6 0a", "<title>\xff</title>": "6 efbfbd", "<title>é</title>": "6 c3a9", "<title><b></title>": "6 3c623e",
	} {
		a := checkTold(t, impl.ArchiveNew(), keepLine("u", s), "ok")
		checkToldAsItIs(t, a, "get u", want)
	}
	longest := "<title>" + strings.Repeat("t", 2993)
	a := checkTold(t, impl.ArchiveNew(), keepLine("u", longest), "ok")
	checkToldAsItIs(t, a, "get u", "6 "+strings.Repeat("74", 2993))
}

// titled has a title of that many bytes, in two texts: no page has one that is longer than a page.
func titled(size int) impl.Archive {
	tree := treeOf(pageNode(1), elementNode("title", 0, 2, 3), textNode(strings.Repeat("t", size/2), 1), textNode(strings.Repeat("u", size-size/2), 1))
	packed, _ := expectedPack(tree)
	return archiveOf(3, 1, keeping("a", string(packed)))
}

// Of a longer title HexText is the empty text; the title itself is not empty.
func TestGetLinesOfLongTitles(t *testing.T) {
	checkToldAsItIs(t, titled(2), "get a", "4 7475")
	checkToldAsItIs(t, titled(3000), "get a", "4 "+strings.Repeat("74", 1500)+strings.Repeat("75", 1500))
	checkToldAsItIs(t, titled(3001), "get a", "4 ")
	checkToldAsItIs(t, titled(4000), "get a", "4 ")
}

func TestGetLinesOfOtherTrees(t *testing.T) {
	bare := "\x00\x01\x01\x00"
	a := archiveOf(3, 0, keeping("a", bare), keeping("b", ""), keeping("c", "no tree"))
	for line, want := range map[string]string{"get a": "1 -", "get b": "bad", "get c": "bad", "get d": "none"} {
		checkToldAsItIs(t, a, line, want)
	}
	for size := range 500 {
		tree := manyNodes(size+1, belowPage)
		for at := range tree.Nodes[1:] {
			tree.Nodes[at+1].Name = "e"
		}
		packed, _ := expectedPack(tree)
		if _, said := impl.ArchiveLine(archiveOf(1, 0, keeping("a", string(packed))), "get a"); said != strconv.Itoa(size+1)+" -" {
			t.Errorf("%d nodes: %q", size+1, said)
		}
	}
}

func TestListLines(t *testing.T) {
	a, want := impl.ArchiveNew(), []string{}
	checkToldAsItIs(t, a, "list", "none")
	for _, address := range ascending() {
		if urlFits(address) {
			want = append(want, address)
			a = checkTold(t, a, "keep "+address+" -", "ok")
			checkToldAsItIs(t, a, "list", strings.Join(want, " "))
		}
	}
	for _, address := range want[1:] {
		a = checkTold(t, a, "drop "+address, "ok")
	}
	checkToldAsItIs(t, a, "list", want[0])
	checkToldAsItIs(t, checkTold(t, a, "drop "+want[0], "ok"), "list", "none")
	checkToldAsItIs(t, archiveOf(3, 1, keeping("none", "")), "list", "none")
}

// TestLinesOfEachLength: a line of MaxText bytes is taken as any other one, one of one byte more is not understood.
func TestLinesOfEachLength(t *testing.T) {
	for _, a := range []impl.Archive{twoKept(), impl.ArchiveNew()} {
		for _, size := range []int{19998, 19999, 20000, 20001, 20002, 40000, 65536 + 5} {
			filled := func(word string) string { return word + strings.Repeat("x", size-len(word)) }
			want := map[string]string{"drop ": "url", "get ": "none", "list": "what", "x": "what", " ": "what"}
			for word, said := range want {
				if size > 20000 {
					said = "what"
				}
				checkToldAsItIs(t, a, filled(word), said)
			}
			long := strings.Repeat("u", size-len("keep  -"))
			said := "url"
			if size > 20000 {
				said = "what"
			}
			checkToldAsItIs(t, a, "keep "+long+" -", said)
			checkToldAsItIs(t, a, "keep u "+strings.Repeat("0", size-len("keep u ")), "what")
			checkToldAsItIs(t, a, strings.Repeat(" ", size), "what")
			checkToldAsItIs(t, a, filled("#"), "")
		}
	}
	down := downOf(twoKept())
	checkToldAsItIs(t, down, "get "+strings.Repeat("x", 19996), "down")
	checkToldAsItIs(t, down, "get "+strings.Repeat("x", 19997), "what")
}

// TestLinesOneBehindTheOther: nothing of a line is kept for another archive.
func TestLinesOneBehindTheOther(t *testing.T) {
	a := twoKept()
	for what, other := range joinedArchives(rightArchives(), badArchives()) {
		for _, line := range eachWord() {
			impl.ArchiveLine(other, line)
		}
		if _, said := impl.ArchiveLine(a, "list"); said != "a b" {
			t.Fatalf("behind lines of %s: %q", what, said)
		}
		if _, said := impl.ArchiveLine(a, "get b"); said != "6 -" {
			t.Fatalf("behind lines of %s: %q", what, said)
		}
	}
	checkArchiveOk(t, "behind all", a, true)
}

func TestSessionTold(t *testing.T) {
	for _, s := range []struct {
		text, said string
		lines      int
	}{
		{"", "", 0}, {"\n", "", 1}, {"\n\n", "", 2}, {"#", "", 1}, {"# x\n", "", 1}, {"#\n#", "", 2}, {"\n#\n\n", "", 3},
		{"list", "none\n", 1}, {"list\n", "none\n", 1}, {"list\n\n", "none\n", 2}, {"\nlist", "none\n", 2}, {"list\nlist", "none\nnone\n", 2}, {"list\n\nlist\n", "none\nnone\n", 3},
		{"open", "up\n", 1}, {"crash\nopen\nopen", "ok\nok\nup\n", 3}, {"crash\ncrash\nlist\nget a\ndrop a\nkeep a -\ncompact\nwhat", "ok\ndown\ndown\ndown\ndown\ndown\ndown\nwhat\n", 8},
		{" ", "what\n", 1}, {" \n", "what\n", 1}, {"\n ", "what\n", 2}, {"list\r\nlist", "what\nnone\n", 2}, {"\r\n\r\n", "what\nwhat\n", 2}, {"\tlist", "what\n", 1}, {"list\x00", "what\n", 1},
		{"keep a 3c7469746c653e54\nget a\nlist", "ok\n6 54\na\n", 3},
		{"keep b -\nkeep a -\nlist\ndrop b\nlist\ndrop b\nget b\nget a", "ok\nok\na b\nok\na\nnone\nnone\n4 -\n", 8},
		{"keep u -\ncompact\ncrash\nget u\nopen\nget u\n# done", "ok\nok\nok\ndown\nok\n4 -\n", 7},
		{"keep a 3\nkeep a 3C\nkeep\nkeep a\nkeep  -\nkeep a \nlist", "what\nwhat\nwhat\nwhat\nurl\nok\na\n", 7},
		{keepLine("a", tooDeep()) + "\nlist", "page\nnone\n", 2},
	} {
		checkSessionIs(t, s.text, s.said, s.lines)
	}
}

// TestSessionIsFullAtLast keeps until no room is left, and goes on when it has been made compact.
func TestSessionIsFullAtLast(t *testing.T) {
	keep := keepLine("u", longPage(60)) + "\n"
	said, n := checkSession(t, strings.Repeat(keep, 8)+"compact\nlist\n"+keep+"get u")
	if n != 12 || !strings.Contains(said, "ok\nfull\n") || !strings.HasSuffix(said, "full\nok\nu\nok\n6 -\n") {
		t.Errorf("%q, %d", said, n)
	}
}

func TestSessionOfEachLength(t *testing.T) {
	for _, last := range []string{"", "\n", "\nlist", "\n#\n"} {
		for _, size := range []int{19999, 20000} {
			text := "list\n#" + strings.Repeat("x", size-len("list\n#")-len(last)) + last
			if said, n := checkSession(t, text); len(text) != size || n < 2 || !strings.HasPrefix(said, "none\n") {
				t.Errorf("%d bytes: %q, %d", len(text), said, n)
			}
		}
		for _, size := range []int{20001, 20002, 40000, 65536, 85536, 1000000} {
			checkSessionIs(t, "list\n#"+strings.Repeat("x", size-len("list\n#")-len(last))+last, "", -1)
		}
	}
	checkSessionIs(t, "get "+strings.Repeat("u", 19996), "none\n", 1)
	checkSessionIs(t, "get "+strings.Repeat("u", 19997), "", -1)
	checkSessionIs(t, strings.Repeat("x", 20000), "what\n", 1)
	checkSessionIs(t, strings.Repeat("\xff", 20001), "", -1)
}

func TestSessionOfEachCountOfLines(t *testing.T) {
	for _, line := range []string{"", "#", "list", "x"} {
		said := map[string]string{"": "", "#": "", "list": "none\n", "x": "what\n"}[line]
		for _, n := range []int{1, 2, 98, 99, 100} {
			text := strings.Repeat(line+"\n", n)
			checkSessionIs(t, text, strings.Repeat(said, n), n)
			if line != "" {
				checkSessionIs(t, strings.TrimSuffix(text, "\n"), strings.Repeat(said, n), n)
			}
		}
		checkSessionIs(t, strings.Repeat(line+"\n", 99)+"list", strings.Repeat(said, 99)+"none\n", 100)
		checkSessionIs(t, strings.Repeat(line+"\n", 100)+"list", "", -2)
		for _, n := range []int{101, 102, 200, 256, 356, 3000} {
			checkSessionIs(t, strings.Repeat(line+"\n", n), "", -2)
			checkSessionIs(t, strings.Repeat(line+"\n", n-1)+"#", "", -2)
		}
	}
	checkSessionIs(t, strings.Repeat("\n", 20000), "", -2)
	checkSessionIs(t, strings.Repeat("\n", 20001), "", -1)
	checkSessionIs(t, strings.Repeat("list\n", 4000), "", -2)
	checkSessionIs(t, strings.Repeat("list\n", 4001), "", -1)
	checkSessionIs(t, strings.Repeat("x", 20001)+"\n", "", -1)
}

// sessionOf has a line for each two bytes.
func sessionOf(b []byte) string {
	lines := []string{}
	for ; len(b) >= 2; b = b[2:] {
		address := rightUrls()[int(b[1])%5]
		page := somePages()[int(b[1])/5%len(somePages())]
		switch b[0] % 20 {
		case 0, 1, 2, 3, 4, 5:
			lines = append(lines, keepLine(address, page))
		case 6, 7:
			lines = append(lines, "drop "+address)
		case 8, 9, 10:
			lines = append(lines, "get "+address)
		case 11, 12:
			lines = append(lines, "list")
		case 13:
			lines = append(lines, "compact")
		case 14:
			lines = append(lines, "crash")
		case 15, 16, 17:
			lines = append(lines, "open")
		case 18:
			lines = append(lines, noLines()[int(b[1])%len(noLines())])
		default:
			lines = append(lines, []string{"", "#", "# list", "keep  -", "drop ", "get "}[int(b[1])%6])
		}
	}
	return strings.Join(lines, "\n")
}

func someSession(seed uint32, lines int) string {
	b := []byte{}
	for range 2 * lines {
		seed = seed*1664525 + 1013904223
		b = append(b, byte(seed>>24))
	}
	return sessionOf(b)
}

func TestSessionsLineByLine(t *testing.T) {
	seen := ""
	for run := range 30 {
		text := someSession(uint32(run), 3*run)
		said, _ := checkSession(t, text)
		checkSession(t, text+"\n")
		seen += "\n" + said
	}
	for _, word := range []string{"ok", "down", "up", "none", "url", "what", "4 -"} {
		if !strings.Contains(seen, "\n"+word+"\n") {
			t.Error("never told:", word)
		}
	}
}

// TestSessionsGrow: a session tells all that its beginning tells, whatever comes behind it.
func TestSessionsGrow(t *testing.T) {
	lines := linesOfText(someSession(20, 60))
	before := ""
	for n := range len(lines) + 1 {
		said, _ := impl.Session(strings.Join(lines[:n], "\n"))
		if !strings.HasPrefix(said, before) {
			t.Fatalf("%d lines tell %q, one less %q", n, said, before)
		}
		before = said
	}
}

func TestSessionsAtOnce(t *testing.T) {
	var all sync.WaitGroup
	for run := range 8 {
		text := someSession(uint32(run%4), 30)
		want, lines := toldByLines(text, expectedLine)
		all.Go(func() {
			for range 10 {
				if said, n := impl.Session(text); said != want || n != lines {
					t.Errorf("asked by many: %q, %d; want %q, %d", said, n, want, lines)
				}
			}
		})
	}
	all.Wait()
}

// TestSessionsHoweverTheyRun: how many can run at once is not to be seen in an answer.
func TestSessionsHoweverTheyRun(t *testing.T) {
	text := someSession(7, 50)
	want, lines := toldByLines(text, expectedLine)
	defer runtime.GOMAXPROCS(runtime.GOMAXPROCS(0))
	for _, n := range []int{1, 2, 3, 16} {
		runtime.GOMAXPROCS(n)
		for range 10 {
			if said, count := impl.Session(text); said != want || count != lines {
				t.Fatalf("on %d: %q, %d", n, said, count)
			}
		}
	}
}

func TestSessionsOneBehindTheOther(t *testing.T) {
	texts := []string{someSession(1, 30), "list", "keep a -", strings.Repeat("\n", 101), strings.Repeat("x", 20001), "crash", ""}
	for range 3 {
		for _, first := range texts {
			impl.Session(first)
			checkSessionIs(t, "list\nget a", "none\nnone\n", 2)
		}
	}
}

// goroutinesLeft counts those that are still in the program.
func goroutinesLeft() int {
	room := make([]byte, 1<<20)
	return strings.Count(string(room[:runtime.Stack(room, true)]), "g00118/impl.")
}

func TestSessionsLeaveNoGoroutine(t *testing.T) {
	for _, text := range []string{"", "list", "#", someSession(5, 100), strings.Repeat("list\n", 100), strings.Repeat("list\n", 101), strings.Repeat("x", 20000), strings.Repeat("x", 20001)} {
		for range 20 {
			impl.Session(text)
		}
		for wait := 0; goroutinesLeft() > 0; wait++ {
			if wait == 100 {
				t.Fatalf("behind %s: %d are left", short(text), goroutinesLeft())
			}
			time.Sleep(10 * time.Millisecond)
		}
	}
}

func FuzzHex(f *testing.F) {
	f.Add("a\n")
	f.Add("610a")
	f.Add("6A")
	f.Add(strings.Repeat("0", 6002))
	f.Fuzz(func(t *testing.T, s string) {
		checkHexBytes(t, s)
		digits := checkHexText(t, s)
		if got, ok := checkHexBytes(t, digits); !ok || len(s) <= 3000 && got != s {
			t.Errorf("%q is read as %q", s, got)
		}
		checkNum(t, len(s)*7919-1000)
		if n, err := strconv.Atoi(s); err == nil {
			checkNum(t, n)
		}
	})
}

func FuzzLine(f *testing.F) {
	for _, line := range joined(eachWord(), noLines()[:40]) {
		f.Add(line)
	}
	f.Fuzz(func(t *testing.T, line string) {
		for _, a := range []impl.Archive{twoKept(), downOf(twoKept()), archiveOf(lastNo, 1, keeping("a", "x")), {}} {
			checkLine(t, a, line)
		}
	})
}

func FuzzSession(f *testing.F) {
	f.Add([]byte{0, 0, 8, 0, 14, 0, 15, 0, 11, 0}, "list")
	f.Add([]byte{}, "keep u 3c7469746c653e54\nget u\nlist\n\n# x\ncrash\nlist")
	f.Fuzz(func(t *testing.T, b []byte, text string) {
		checkSession(t, text)
		checkSession(t, sessionOf(b[:min(len(b), 80)])+"\n"+text)
	})
}
