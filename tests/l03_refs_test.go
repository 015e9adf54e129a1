package tests

import (
	"html"
	"math"
	"regexp"
	"slices"
	"strconv"
	"strings"
	"sync"
	"testing"

	"loop.example/g00118/impl"
)

func knownRefs() []impl.Ref {
	return []impl.Ref{
		{Name: "amp", Point: 38}, {Name: "amp;", Point: 38}, {Name: "copy", Point: 169}, {Name: "copy;", Point: 169},
		{Name: "frac12;", Point: 189}, {Name: "gt", Point: 62}, {Name: "gt;", Point: 62}, {Name: "hellip;", Point: 8230},
		{Name: "lt", Point: 60}, {Name: "lt;", Point: 60}, {Name: "mdash;", Point: 8212}, {Name: "nbsp", Point: 160},
		{Name: "nbsp;", Point: 160}, {Name: "not", Point: 172}, {Name: "not;", Point: 172}, {Name: "notin;", Point: 8713},
		{Name: "quot", Point: 34}, {Name: "quot;", Point: 34}, {Name: "reg", Point: 174}, {Name: "reg;", Point: 174},
		{Name: "sup1", Point: 185}, {Name: "sup1;", Point: 185}, {Name: "times;", Point: 215}, {Name: "yen;", Point: 165},
	}
}

func TestRefsAreAllThereInOrder(t *testing.T) {
	// The map is gone through in another order each time; the answer must not show it.
	for range 100 {
		if got := impl.Refs(); !slices.Equal(got, knownRefs()) {
			t.Fatalf("Refs() = %v, want %v", got, knownRefs())
		}
	}
}

func TestRefsAreThoseOfHtml(t *testing.T) {
	for _, r := range impl.Refs() {
		if want := html.UnescapeString("&" + r.Name); want != string(rune(r.Point)) {
			t.Errorf("Refs has %q as %d, html as %q", r.Name, r.Point, want)
		}
	}
}

func TestRefsTurnNoLaterAnswer(t *testing.T) {
	first, second := impl.Refs(), impl.Refs()
	overwrite(first, impl.Ref{Name: "amp;", Point: 7})
	_ = append(first[:1], impl.Ref{Name: "more;", Point: 8})
	if !slices.Equal(second, knownRefs()) {
		t.Error("two answers of Refs share memory")
	}
	if got := impl.Refs(); !slices.Equal(got, knownRefs()) {
		t.Errorf("Refs() = %v behind a written answer", got)
	}
	checkRef(t, "&amp;", 0, false, 38, 5)
	checkRef(t, "&notin;", 0, false, 8713, 7)
	checkRef(t, "&more;", 0, false, 38, 1)
}

func TestRefsAskedAtOnce(t *testing.T) {
	var group sync.WaitGroup
	lists, points := make([][]impl.Ref, 16), make([]int, 16)
	for i := range lists {
		group.Go(func() {
			lists[i] = impl.Refs()
			got, _ := impl.RefRead(pointsOf("&copy;"), 0, false)
			points[i] = got[0]
		})
	}
	group.Wait()
	for i := range lists {
		if !slices.Equal(lists[i], knownRefs()) || points[i] != 169 {
			t.Errorf("asked at once: %v, %d", lists[i], points[i])
		}
	}
}

func TestRefNumberAtEdges(t *testing.T) {
	cases := []struct{ x, want int }{
		{0, standIn}, {-1, standIn}, {-65, standIn}, {-128, standIn}, {math.MinInt, standIn}, {1114112, standIn},
		{1114111, 1114111}, {1114110, 1114110}, {1114113, standIn}, {math.MaxInt, standIn}, {1<<32 + 65, standIn}, {1 << 32, standIn},
		{55295, 55295}, {55296, standIn}, {56000, standIn}, {57343, standIn}, {57344, 57344},
		{1, 1}, {10, 10}, {13, 13}, {38, 38}, {65, 65}, {127, 127}, {160, 160}, {161, 161}, {255, 255}, {8364, 8364},
		{65279, 65279}, {65533, 65533}, {65534, 65534}, {65535, 65535}, {65536, 65536}, {64976, 64976},
	}
	for _, c := range cases {
		if got := impl.RefNumber(c.x); got != c.want {
			t.Errorf("RefNumber(%d) = %d, want %d", c.x, got, c.want)
		}
	}
}

func TestRefNumberOfTheOlderTable(t *testing.T) {
	want := []int{
		8364, 129, 8218, 402, 8222, 8230, 8224, 8225, 710, 8240, 352, 8249, 338, 141, 381, 143,
		144, 8216, 8217, 8220, 8221, 8226, 8211, 8212, 732, 8482, 353, 8250, 339, 157, 382, 376,
	}
	for i, point := range want {
		if got := impl.RefNumber(128 + i); got != point {
			t.Errorf("RefNumber(%d) = %d, want %d", 128+i, got, point)
		}
	}
}

// The library's html is a rule of its own for what a number stands for.
func TestRefNumberOfAnyNumber(t *testing.T) {
	for x := range eachNumber {
		want := standIn
		if x >= 0 && x <= 1114111 {
			want = int([]rune(html.UnescapeString("&#" + strconv.Itoa(x) + ";"))[0])
		}
		if got := impl.RefNumber(x); got != want || !isPoint(got) {
			t.Errorf("RefNumber(%d) = %d, want %d", x, got, want)
		}
	}
}

func pointsOf(text string) []int {
	return numbers([]byte(text))
}

// checkRefIn asks for one point and the place behind it. What lies in the room behind the list, or ahead of the
// reference, would go on with it or change it, if it were read.
func checkRefIn(t *testing.T, list []int, at int, value bool, point int, next int) {
	t.Helper()
	for _, filler := range []int{';', '1', 'a', '='} {
		g := guard(list, filler)
		got, place := impl.RefRead(g.arg, at, value)
		if !slices.Equal(got, []int{point}) || place != next {
			t.Fatalf("RefRead(%s, %d, %v) = %v, %d, want %d, %d", shown(list), at, value, got, place, point, next)
		}
		overwrite(got, -7)
		if !g.untouched() {
			t.Fatalf("RefRead(%s, %d, %v) changed the list, the room behind it, or shares it", shown(list), at, value)
		}
		ahead := joined([]int{'&', '#', filler}, list)
		if len(ahead) > impl.MaxPage {
			continue
		}
		got, place = impl.RefRead(ahead, at+3, value)
		if !slices.Equal(got, []int{point}) || place != next+3 {
			t.Fatalf("RefRead(%s, %d, %v) = %v, %d, want %d, %d", shown(ahead), at+3, value, got, place, point, next+3)
		}
	}
}

func checkRef(t *testing.T, text string, at int, value bool, point int, next int) {
	t.Helper()
	checkRefIn(t, pointsOf(text), at, value, point, next)
}

func checkRefBoth(t *testing.T, text string, point int, next int) {
	t.Helper()
	checkRef(t, text, 0, false, point, next)
	checkRef(t, text, 0, true, point, next)
}

func checkNoRef(t *testing.T, list []int, at int) {
	t.Helper()
	for _, value := range []bool{false, true} {
		g := guard(list, '&')
		got, next := impl.RefRead(g.arg, at, value)
		if len(got) != 0 || next != at || !g.untouched() {
			t.Errorf("RefRead(%s, %d, %v) = %v, %d, want nothing and the place itself", shown(list), at, value, got, next)
		}
	}
}

func shown(list []int) string {
	var s strings.Builder
	for i, x := range list {
		if i == 40 {
			return s.String() + " .. of " + strconv.Itoa(len(list))
		}
		if x > 32 && x < 127 {
			s.WriteByte(byte(x))
		} else {
			s.WriteString("{" + strconv.Itoa(x) + "}")
		}
	}
	return s.String()
}

func TestRefReadWhereNoneStands(t *testing.T) {
	list := pointsOf("x&amp;y&lt")
	for _, at := range []int{-1, -2, -1 << 32, math.MinInt, 0, 2, 3, 4, 5, 6, 8, 9, 10, 11, 1000, 1<<32 + 1, math.MaxInt - 1, math.MaxInt} {
		checkNoRef(t, list, at)
	}
	for _, at := range []int{-1, 0, 1, math.MinInt, math.MaxInt} {
		checkNoRef(t, nil, at)
		checkNoRef(t, []int{}, at)
	}
	for _, x := range joined(farNumbers(), []int{0, 37, 39, -38, 38 + 128, 38 + 256, 38 - 256, 38 + 1<<32, 38 - 1<<32, 65286, 65121}) {
		checkNoRef(t, []int{x, 'a', 'm', 'p', ';'}, 0)
	}
}

func TestRefReadAtEachPlace(t *testing.T) {
	list := "&&amp;&#65;x&lt"
	checkRef(t, list, 0, false, 38, 1)
	checkRef(t, list, 1, false, 38, 6)
	checkRef(t, list, 6, false, 65, 11)
	checkRef(t, list, 12, true, 60, 15)
	for _, at := range []int{2, 5, 7, 10, 11, 13, 14} {
		checkNoRef(t, pointsOf(list), at)
	}
}

func TestRefReadMaxPage(t *testing.T) {
	const n = impl.MaxPage
	cases := []struct {
		name            string
		list            []int
		at, point, next int
	}{
		{"a name first", joined(pointsOf("&amp;"), repeated(65, n-5)), 0, 38, 5},
		{"a name last", joined(repeated(65, n-5), pointsOf("&amp;")), n - 5, 38, n},
		{"a name without 59 last", joined(repeated(65, n-4), pointsOf("&not")), n - 4, 172, n},
		{"38 last", joined(repeated(65, n-1), []int{38}), n - 1, 38, n},
		{"noughts", joined(pointsOf("&#"), repeated(48, n-2)), 0, standIn, n},
		{"noughts, a digit and 59", joined(pointsOf("&#x"), repeated(48, n-5), pointsOf("A;")), 0, 10, n},
		{"digits", joined(pointsOf("&#"), repeated(49, n-3), pointsOf("x")), 0, standIn, n - 1},
		{"digits of base 16", joined(pointsOf("&#X"), repeated(102, n-3)), 0, standIn, n},
		{"38 alone", repeated(38, n), n / 2, 38, n/2 + 1},
	}
	for _, c := range cases {
		if len(c.list) != n {
			t.Fatalf("%s: %d numbers", c.name, len(c.list))
		}
		checkRefIn(t, c.list, c.at, false, c.point, c.next)
		checkRefIn(t, c.list, c.at, true, c.point, c.next)
		checkNoRef(t, joined(c.list, []int{38}), c.at)
		checkNoRef(t, joined(c.list, []int{38}), n)
	}
}

func TestRefReadLongestName(t *testing.T) {
	cases := []struct {
		text        string
		point, next int
	}{
		{"&not", 172, 4}, {"&not;", 172, 5}, {"&notin;", 8713, 7}, {"&notin", 172, 4}, {"&notin ;", 172, 4}, {"&noti;", 172, 4},
		{"&notit;", 172, 4}, {"&not;in;", 172, 5}, {"&notin;;", 8713, 7}, {"&notin;=", 8713, 7}, {"&notinx;", 172, 4}, {"&no;", 38, 1},
		{"&amp", 38, 4}, {"&ampx", 38, 4}, {"&ampamp;", 38, 4}, {"&amplt;", 38, 4}, {"&am", 38, 1}, {"&am;", 38, 1}, {"&a", 38, 1},
		{"&sup1", 185, 5}, {"&sup1;", 185, 6}, {"&sup12", 185, 5}, {"&sup1x", 185, 5}, {"&sup", 38, 1}, {"&sup;", 38, 1}, {"&sup2;", 38, 1},
		{"&frac12;", 189, 8}, {"&frac12", 38, 1}, {"&frac1;", 38, 1}, {"&frac12x", 38, 1}, {"&hellip;", 8230, 8}, {"&hellip", 38, 1},
		{"&mdash;", 8212, 7}, {"&mdash", 38, 1}, {"&times;", 215, 7}, {"&times", 38, 1}, {"&yen;", 165, 5}, {"&yen", 38, 1}, {"&yenx", 38, 1},
		{"&x", 38, 1}, {"&xamp;", 38, 1}, {"& amp;", 38, 1}, {"&&amp;", 38, 1}, {"&;", 38, 1}, {"&=", 38, 1}, {"&", 38, 1}, {"&1", 38, 1},
		{"&AMP;", 38, 1}, {"&Amp;", 38, 1}, {"&Copy;", 38, 1}, {"&coPy;", 38, 1}, {"&NOT;", 38, 1}, {"&notIN;", 172, 4}, {"&euro;", 38, 1},
		{"&apos;", 38, 1}, {"&frac14;", 38, 1}, {"&yen ;", 38, 1}, {"&\x00amp;", 38, 1}, {"&amp\x00;", 38, 4},
	}
	for _, c := range cases {
		checkRef(t, c.text, 0, false, c.point, c.next)
	}
}

func withoutEnd(name string) bool {
	return !strings.HasSuffix(name, ";")
}

func TestRefReadNamesAtTheListsEnd(t *testing.T) {
	for _, r := range knownRefs() {
		checkRefBoth(t, "&"+r.Name, r.Point, 1+len(r.Name))
		for n := range len(r.Name) {
			cut := r.Name[:n]
			point, next := 38, 1
			for _, other := range knownRefs() {
				if strings.HasPrefix(cut, other.Name) {
					point, next = other.Point, 1+len(other.Name)
				}
			}
			checkRef(t, "&"+cut, 0, false, point, next)
		}
	}
}

func TestRefReadNamesAheadOfAnyNumber(t *testing.T) {
	behind := farNumbers()
	for x := -300; x < 1000; x++ {
		behind = append(behind, x)
	}
	behind = append(behind, 61+256, 61+1<<32, 'a'+256, '0'+1<<32, 65309, 65345, 65296, 1632, 8490, 1114111, 1114112)
	for _, r := range knownRefs() {
		for _, x := range behind {
			if withoutEnd(r.Name) && x == ';' {
				continue
			}
			list := joined(pointsOf("&"+r.Name), []int{x})
			checkRefIn(t, list, 0, false, r.Point, len(list)-1)
			point, next := r.Point, len(list)-1
			if withoutEnd(r.Name) && placeIn("="+upperLetters+lowerLetters+"0123456789", x) >= 0 {
				point, next = 38, 1
			}
			checkRefIn(t, list, 0, true, point, next)
		}
	}
}

func TestRefReadInValues(t *testing.T) {
	cases := []struct {
		text        string
		point, next int
	}{
		{"&copy=2", 38, 1}, {"&copy9", 38, 1}, {"&copy0", 38, 1}, {"&copya", 38, 1}, {"&copyZ", 38, 1}, {"&copy ", 169, 5}, {"&copy", 169, 5},
		{"&copy\"", 169, 5}, {"&copy&", 169, 5}, {"&copy-", 169, 5}, {"&copy:", 169, 5}, {"&copy<", 169, 5}, {"&copy>", 169, 5}, {"&copy/", 169, 5},
		{"&copy@", 169, 5}, {"&copy[", 169, 5}, {"&copy`", 169, 5}, {"&copy{", 169, 5}, {"&copy_", 169, 5}, {"&copy#", 169, 5},
		{"&copy;=", 169, 6}, {"&copy;a", 169, 6}, {"&copy;9", 169, 6}, {"&copy; ", 169, 6}, {"&copy;", 169, 6}, {"&copy;;", 169, 6},
		{"&not", 172, 4}, {"&not;", 172, 5}, {"&noti", 38, 1}, {"&notin", 38, 1}, {"&notin=", 38, 1}, {"&notin;", 8713, 7}, {"&notin;=", 8713, 7},
		{"&notin;x", 8713, 7}, {"&notit;", 38, 1}, {"&not=", 38, 1}, {"&not in;", 172, 4}, {"&not.in;", 172, 4}, {"&not;in;", 172, 5},
		{"&sup1", 185, 5}, {"&sup12", 38, 1}, {"&sup1=", 38, 1}, {"&sup1;2", 185, 6}, {"&sup", 38, 1}, {"&ampamp;", 38, 1}, {"&amp;amp;", 38, 5},
		{"&yen=", 38, 1}, {"&yen;=", 165, 5}, {"&x=", 38, 1}, {"&=", 38, 1}, {"&", 38, 1},
		{"&#65=", 65, 4}, {"&#65a", 65, 4}, {"&#x41=", 65, 5}, {"&#x41g", 65, 5}, {"&#65;=", 65, 5}, {"&#=", 38, 1},
	}
	for _, c := range cases {
		checkRef(t, c.text, 0, true, c.point, c.next)
	}
}

func TestRefReadDigits(t *testing.T) {
	cases := []struct {
		text        string
		point, next int
	}{
		{"&#65;", 65, 5}, {"&#65", 65, 4}, {"&#65 ", 65, 4}, {"&#65x", 65, 4}, {"&#65A", 65, 4}, {"&#65;;", 65, 5}, {"&#65&", 65, 4}, {"&#65 ;", 65, 4},
		{"&#x41;", 65, 6}, {"&#X41;", 65, 6}, {"&#x41", 65, 5}, {"&#X41", 65, 5}, {"&#x41g", 65, 5}, {"&#x41G;", 65, 5}, {"&#x41;;", 65, 6}, {"&#x41&", 65, 5},
		{"&#xaf;", 175, 6}, {"&#xAF;", 175, 6}, {"&#XaF", 175, 5}, {"&#xAbCdEf", standIn, 9}, {"&#x10fFfF;", 1114111, 10}, {"&#x110000;", standIn, 10},
		{"&#", 38, 1}, {"&#;", 38, 1}, {"&# 65;", 38, 1}, {"&#a", 38, 1}, {"&#-1;", 38, 1}, {"&#+1;", 38, 1}, {"&##65;", 38, 1}, {"&65;", 38, 1}, {"&x41;", 38, 1},
		{"&#x", 38, 1}, {"&#X", 38, 1}, {"&#x;", 38, 1}, {"&#X;", 38, 1}, {"&#xg", 38, 1}, {"&#xx41;", 38, 1}, {"&#x 41;", 38, 1}, {"&# x41;", 38, 1}, {"&#XX1", 38, 1},
		{"&#amp;", 38, 1}, {"&#xamp;", 10, 4}, {"&#0x41;", standIn, 3}, {"&#f", 38, 1}, {"&#1f", 1, 3},
		{"&#0", standIn, 3}, {"&#0;", standIn, 4}, {"&#00000000", standIn, 10}, {"&#000000000000;", standIn, 15}, {"&#x0;", standIn, 5}, {"&#x000000000", standIn, 12},
		{"&#9;", 9, 4}, {"&#13;", 13, 5}, {"&#38;", 38, 5}, {"&#127;", 127, 6}, {"&#128;", 8364, 6}, {"&#159;", 376, 6}, {"&#160;", 160, 6}, {"&#x80;", 8364, 6}, {"&#x9F", 376, 5},
		{"&#55295;", 55295, 8}, {"&#55296;", standIn, 8}, {"&#57343;", standIn, 8}, {"&#57344;", 57344, 8}, {"&#xD800;", standIn, 8}, {"&#xE000;", 57344, 8},
		{"&#1114111;", 1114111, 10}, {"&#1114112;", standIn, 10}, {"&#1114111", 1114111, 9}, {"&#1114111x", 1114111, 9}, {"&#9999999;", standIn, 10},
		{"&#10000000;", standIn, 11}, {"&#11141110", standIn, 10}, {"&#99999999;", standIn, 11}, {"&#0001114111;", 1114111, 13}, {"&#00010000065;", standIn, 14},
		{"&#x010FFFF;", 1114111, 11}, {"&#x0000000000010FFFF;", 1114111, 21}, {"&#xFFFFFFF;", standIn, 11}, {"&#x10000000;", standIn, 12}, {"&#x10000041;", standIn, 12},
		{"&#4294967361;", standIn, 13}, {"&#x100000041;", standIn, 13}, {"&#18446744073709551681;", standIn, 23}, {"&#x10000000000000041;", standIn, 21},
		{"&#000000000000000000000000065;", 65, 30}, {"&#x00000000000000000000000041", 65, 29}, {"&#10;0", 10, 5}, {"&#100", 100, 5}, {"&#1000000", 1000000, 9}, {"&#x100000", 1048576, 9},
	}
	for _, c := range cases {
		checkRefBoth(t, c.text, c.point, c.next)
	}
}

// Cut to a byte or to 32 bits, or as digits and letters of other scripts, these would belong to a reference.
func TestRefReadNumbersThatAreNoBytes(t *testing.T) {
	for _, text := range []string{"&amp;", "&#65;", "&#x41;", "&notin;", "&lt", "&#7"} {
		for at := 1; at < len(text); at++ {
			for _, off := range []int{128, 256, -256, 1 << 16, 1 << 32, -1 << 32, 65248} {
				list := pointsOf(text)
				list[at] += off
				point, next := expectedRef(list, 0, false)
				checkRefIn(t, list, 0, false, point, next)
				point, next = expectedRef(list, 0, true)
				checkRefIn(t, list, 0, true, point, next)
			}
		}
	}
	for _, x := range farNumbers() {
		checkRefIn(t, []int{'&', x}, 0, false, 38, 1)
		checkRefIn(t, []int{'&', '#', x}, 0, false, 38, 1)
		checkRefIn(t, []int{'&', '#', 'x', x}, 0, false, 38, 1)
		checkRefIn(t, []int{'&', '#', '7', x}, 0, false, 7, 3)
	}
}

var (
	tenForm     = regexp.MustCompile(`^&#([0-9]+);?`)
	sixteenForm = regexp.MustCompile(`^&#[xX]([0-9A-Fa-f]+);?`)
)

// expectedRef is a slower rule of its own, by the library's regexp and html; list has 38 at that place.
func expectedRef(list []int, at int, value bool) (int, int) {
	text := bytesOrBar(list[at:])
	if m := tenForm.FindStringSubmatch(text); m != nil {
		return numberPoint(m[1], 10), at + len(m[0])
	}
	if m := sixteenForm.FindStringSubmatch(text); m != nil {
		return numberPoint(m[1], 16), at + len(m[0])
	}
	names := knownRefs()
	slices.SortFunc(names, func(a, b impl.Ref) int { return len(b.Name) - len(a.Name) })
	for _, r := range names {
		rest, found := strings.CutPrefix(text[1:], r.Name)
		if !found {
			continue
		}
		if value && withoutEnd(r.Name) && rest != "" && strings.Contains("=0123456789"+upperLetters+lowerLetters, rest[:1]) {
			break
		}
		return r.Point, at + 1 + len(r.Name)
	}
	return 38, at + 1
}

// bytesOrBar has one byte a number: a 0 stands for what belongs to no reference.
func bytesOrBar(list []int) string {
	b := make([]byte, len(list))
	for i, x := range list {
		if x > 0 && x < 128 {
			b[i] = byte(x)
		}
	}
	return string(b)
}

func numberPoint(digits string, base int) int {
	digits = strings.TrimLeft(digits, "0")
	if digits == "" || len(digits) > 7 {
		return standIn
	}
	n, err := strconv.ParseInt(digits, base, 64)
	if err != nil {
		panic(err)
	}
	return int([]rune(html.UnescapeString("&#" + strconv.FormatInt(n, 10) + ";"))[0])
}

func checkRefAgainstRule(t *testing.T, list []int, at int, value bool) {
	t.Helper()
	got, next := impl.RefRead(list, at, value)
	point, place := expectedRef(list, at, value)
	if !slices.Equal(got, []int{point}) || next != place {
		t.Fatalf("RefRead(%s, %d, %v) = %v, %d, want %d, %d", shown(list), at, value, got, next, point, place)
	}
	if !impl.PointOk(got[0]) || next <= at || next > len(list) {
		t.Fatalf("RefRead(%s, %d, %v) = %v, %d, no point or no place", shown(list), at, value, got, next)
	}
}

// eachRow has all rows of up to n of the pieces.
func eachRow(pieces []string, n int, use func(string)) {
	rows := []string{""}
	for range n {
		var longer []string
		for _, row := range rows {
			for _, piece := range pieces {
				use(row + piece)
				longer = append(longer, row+piece)
			}
		}
		rows = longer
	}
}

func TestRefReadOfRowsOfPieces(t *testing.T) {
	check := func(row string) {
		list := pointsOf("&" + row)
		checkRefAgainstRule(t, list, 0, false)
		checkRefAgainstRule(t, list, 0, true)
	}
	eachRow([]string{"#", "x", "X", "0", "1", "9", "a", "F", "g", ";", "=", "&"}, 5, check)
	eachRow([]string{"not", "in", "amp", "sup", "1", ";", "=", " ", "frac", "12", "Z", "#"}, 4, check)
	eachRow([]string{"#", "#x", "0", "0000000", "1", "fffffff", "7fffffff", "1114111", ";"}, 4, check)
}

func TestRefReadOfAnyTwoBytesBehindABeginning(t *testing.T) {
	for x := range 256 {
		for y := range 256 {
			for _, text := range []string{"&", "&#", "&#x", "&#6", "&lt", "&lt;"} {
				list := append(pointsOf(text), x, y)
				checkRefAgainstRule(t, list, 0, false)
				checkRefAgainstRule(t, list, 0, true)
			}
		}
	}
}

func FuzzRefRead(f *testing.F) {
	for _, s := range []string{"&amp;x", "a&notit;", "&#x41", "&#99999999;", "&copy=9&copy;9", "&#0000065&&#;&#x;"} {
		f.Add([]byte(s))
	}
	f.Fuzz(func(t *testing.T, b []byte) {
		list := numbers(b)
		for at, x := range list {
			if x != 38 || len(list) > impl.MaxPage {
				checkNoRef(t, list, at)
				continue
			}
			checkRefAgainstRule(t, list, at, false)
			checkRefAgainstRule(t, list, at, true)
		}
	})
}
