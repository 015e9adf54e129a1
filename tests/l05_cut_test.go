package tests

import (
	"math"
	"regexp"
	"slices"
	"strconv"
	"strings"
	"testing"
	"unicode/utf8"

	"loop.example/g00118/impl"
)

var allHows = []int{impl.CutData, impl.CutRcdata, impl.CutRaw, impl.CutPlain}

func runesOf(text string) []int {
	list := []int{}
	for _, r := range text {
		list = append(list, int(r))
	}
	return list
}

func char(text string) impl.Token    { return impl.Token{Kind: impl.TkChar, Text: text} }
func comment(text string) impl.Token { return impl.Token{Kind: impl.TkComment, Text: text} }
func doctype(name string) impl.Token { return impl.Token{Kind: impl.TkDoctype, Name: name} }
func closes(name string) impl.Token  { return impl.Token{Kind: impl.TkClose, Name: name} }
func end() impl.Token                { return impl.Token{Kind: impl.TkEnd} }

// opens has each attribute's Name and its Value behind it.
func opens(name string, attrs ...string) impl.Token {
	token := impl.Token{Kind: impl.TkOpen, Name: name}
	for i := 0; i < len(attrs); i += 2 {
		token.Attrs = append(token.Attrs, impl.Attr{Name: attrs[i], Value: attrs[i+1]})
	}
	return token
}

func selfClosed(token impl.Token) impl.Token {
	token.Self = true
	return token
}

func chars(text string) []impl.Token {
	list := []impl.Token{}
	for _, r := range text {
		list = append(list, char(string(r)))
	}
	return list
}

func sameToken(a impl.Token, b impl.Token) bool {
	return a.Kind == b.Kind && a.Name == b.Name && slices.Equal(a.Attrs, b.Attrs) && a.Text == b.Text && a.Self == b.Self
}

func short(s string) string {
	if len(s) > 80 {
		return strconv.Quote(s[:80]) + ".. of " + strconv.Itoa(len(s))
	}
	return strconv.Quote(s)
}

func tokenText(t impl.Token) string {
	s := "{" + strconv.Itoa(t.Kind) + " Name " + short(t.Name) + " " + attrsText(t.Attrs) + " Text " + short(t.Text)
	if t.Self {
		s += " Self"
	}
	return s + "}"
}

// Each of these would change what stands behind it, if that hung on it.
var aheads = []string{"<", "</", "<!", "<!--", "<!---", "<a", "<a ", "<a b", "<a b=", "<a b='", `<a b="`, "<!doctype ", "<?", "&", "&#", "</title", "-", ">"}

// checkNext asks for the token and the place behind it, also where something stands ahead of the place, and where
// what lies in the room behind the list would go on with it.
func checkNext(t *testing.T, list []int, at int, how int, last string, want impl.Token, next int) {
	t.Helper()
	for _, filler := range []int{'>', '-', 'a'} {
		g := guard(list, filler)
		got, place := impl.NextToken(g.arg, at, how, last)
		if !sameToken(got, want) || place != next {
			t.Fatalf("NextToken(%s, %d, %d, %s) = %s, %d, want %s, %d", shown(list), at, how, short(last), tokenText(got), place, tokenText(want), next)
		}
		overwrite(got.Attrs, fillAttr)
		again, _ := impl.NextToken(g.arg, at, how, last)
		if !g.untouched() || !sameToken(again, want) {
			t.Fatalf("NextToken(%s, %d, %d, %s) wrote into its argument, or two answers share memory", shown(list), at, how, short(last))
		}
	}
	if at < 0 || at >= len(list) || len(list) > impl.MaxPage {
		return
	}
	for _, ahead := range aheads {
		moved := joined(pointsOf(ahead), list[at:])
		got, place := impl.NextToken(moved, len(ahead), how, last)
		if len(moved) <= impl.MaxPage && (!sameToken(got, want) || place-len(ahead) != next-at) {
			t.Fatalf("NextToken(%s, %d, %d, %s) = %s, %d: what stands ahead turns it", shown(moved), len(ahead), how, short(last), tokenText(got), place)
		}
	}
}

func checkCut(t *testing.T, text string, how int, last string, want impl.Token, next int) {
	t.Helper()
	checkNext(t, runesOf(text), 0, how, last, want, next)
	checkAgainstCutRule(t, runesOf(text), how, last)
}

// checkData asks for a token of CutData that takes all of the text, with and without more behind it.
func checkData(t *testing.T, text string, want impl.Token) {
	t.Helper()
	n := utf8.RuneCountInString(text)
	checkCut(t, text, impl.CutData, "", want, n)
	for _, behind := range []string{"a", ">", "-->", "<b>", "\u00e9"} {
		checkCut(t, text+behind, impl.CutData, "", want, n)
	}
}

// checkTorn asks for a token of CutData that takes all of the text, where it is the end of the page.
func checkTorn(t *testing.T, text string, want impl.Token) {
	t.Helper()
	checkCut(t, text, impl.CutData, "", want, utf8.RuneCountInString(text))
}

func checkTokens(t *testing.T, text string, want ...impl.Token) {
	t.Helper()
	list := runesOf(text)
	want = append(want, end())
	if got := impl.Tokens(list); !slices.EqualFunc(got, want, sameToken) {
		t.Fatalf("Tokens(%s) = %s, want %s", shown(list), tokensText(got), tokensText(want))
	}
	checkTokensAgainstRule(t, list)
}

func tokensText(list []impl.Token) string {
	s := ""
	for i, token := range list {
		if i == 20 {
			return s + " .. of " + strconv.Itoa(len(list))
		}
		s += " " + tokenText(token)
	}
	return s
}

// expectedClean is the page as a text: its points, and 65533 for all that is none, and for 0.
func expectedClean(list []int) string {
	var s strings.Builder
	for _, x := range list {
		if x == 0 || !isPoint(x) {
			x = standIn
		}
		s.WriteRune(rune(x))
	}
	return s.String()
}

var (
	closeForm   = regexp.MustCompile(`^</[A-Za-z]`)
	openForm    = regexp.MustCompile(`^<[A-Za-z]`)
	remarkForm  = regexp.MustCompile(`(?s)^<(?:!|(?:/)(?:[^>])|\?)`)
	remarkText  = regexp.MustCompile(`(?s)^<[!/]?([^>]*)>?`)
	commentForm = regexp.MustCompile(`(?s)^<!--(?:-?>|(.*?)(?:--!?>|(?:--!|--|-|)\z))`)
	doctypeForm = regexp.MustCompile(`(?s)^<![dD][oO][cC][tT][yY][pP][eE][\t\n\f ]*([^\t\n\f >]*)[^>]*>?`)
	tagName     = regexp.MustCompile(`(?s)^</?([^\t\n\f />]+)`)
	tagGap      = regexp.MustCompile(`^[\t\n\f /]`)
	tagStop     = regexp.MustCompile(`^/?>`)
	attrForm    = regexp.MustCompile(`(?s)^([^\t\n\f />][^\t\n\f />=]*)[\t\n\f ]*(?:=[\t\n\f ]*(?:"([^"]*)"?|'([^']*)'?|([^\t\n\f >]*)))?`)
)

func asciiLower(s string) string {
	return strings.Map(func(r rune) rune {
		if i := strings.IndexRune(upperLetters, r); i >= 0 {
			return rune(lowerLetters[i])
		}
		return r
	}, s)
}

// expectedName cuts from behind, point by point, until it fits.
func expectedName(s string) string {
	name := asciiLower(s)
	for len(name) > 60 {
		_, size := utf8.DecodeLastRuneInString(name)
		name = name[:len(name)-size]
	}
	return name
}

// expectedNext is a slower rule of its own, by the library's regexp: the token at the beginning of a clean text, and
// how many of its bytes it takes.
func expectedNext(text string, how int, last string) (impl.Token, int) {
	first, size := utf8.DecodeRuneInString(text)
	switch {
	case text == "":
		return end(), 0
	case first == '&' && (how == impl.CutData || how == impl.CutRcdata):
		point, next := expectedRef(runesOf(text), 0, false)
		return char(string(rune(point))), next
	case first == '<' && how == impl.CutData:
		return expectedLess(text)
	case how != impl.CutPlain && expectedClosesLast(text, last):
		return expectedTag(text, impl.TkClose)
	}
	return char(string(first)), size
}

func expectedClosesLast(text string, last string) bool {
	if !utf8.ValidString(last) || !openForm.MatchString("<"+last) {
		return false
	}
	rest, stands := strings.CutPrefix(asciiLower(text), asciiLower("</"+last))
	return stands && rest != "" && strings.Contains("\t\n\f />", rest[:1])
}

func expectedLess(text string) (impl.Token, int) {
	if rest, nothing := strings.CutPrefix(text, "</>"); nothing {
		token, size := expectedNext(rest, impl.CutData, "")
		return token, 3 + size
	}
	if m := commentForm.FindStringSubmatch(text); m != nil {
		return comment(m[1]), len(m[0])
	}
	if m := doctypeForm.FindStringSubmatch(text); m != nil {
		return doctype(expectedName(m[1])), len(m[0])
	}
	switch {
	case closeForm.MatchString(text):
		return expectedTag(text, impl.TkClose)
	case openForm.MatchString(text):
		return expectedTag(text, impl.TkOpen)
	case remarkForm.MatchString(text):
		m := remarkText.FindStringSubmatch(text)
		return comment(m[1]), len(m[0])
	}
	return char("<"), 1
}

func expectedTag(text string, kind int) (impl.Token, int) {
	m := tagName.FindStringSubmatch(text)
	token := impl.Token{Kind: kind, Name: expectedName(m[1])}
	at := len(m[0])
	for at < len(text) {
		rest := text[at:]
		if stop := tagStop.FindString(rest); stop != "" {
			token.Self = stop == "/>" && kind == impl.TkOpen
			return token, at + len(stop)
		}
		if gap := tagGap.FindString(rest); gap != "" {
			at += len(gap)
			continue
		}
		attr, size := expectedAttr(rest)
		at += size
		if kind == impl.TkOpen {
			token.Attrs = expectedAdd(token.Attrs, attr)
		}
	}
	return end(), len(text)
}

func expectedAttr(text string) (impl.Attr, int) {
	m := attrForm.FindStringSubmatchIndex(text)
	attr := impl.Attr{Name: asciiLower(text[m[2]:m[3]])}
	for i := 4; i < len(m); i += 2 {
		if m[i] >= 0 {
			attr.Value = expectedValue(text[m[i]:], m[i+1]-m[i])
		}
	}
	return attr, m[1]
}

// expectedValue has the value and what stands behind it, as a reference may hang on that.
func expectedValue(text string, size int) string {
	list, stop := runesOf(text), utf8.RuneCountInString(text[:size])
	var s strings.Builder
	for at := 0; at < stop; {
		point, next := list[at], at+1
		if point == '&' {
			point, next = expectedRef(list, at, true)
		}
		s.WriteRune(rune(point))
		at = next
	}
	return s.String()
}

// checkAgainstCutRule asks at each place for what the test's own rule says, and for promise 5.
func checkAgainstCutRule(t *testing.T, list []int, how int, last string) {
	t.Helper()
	clean := expectedClean(list)
	for at := range list {
		want, size := expectedNext(clean, how, last)
		next := at + utf8.RuneCountInString(clean[:size])
		got, place := impl.NextToken(list, at, how, last)
		if !sameToken(got, want) || place != next {
			t.Fatalf("NextToken(%s, %d, %d, %s) = %s, %d, want %s, %d", shown(list), at, how, short(last), tokenText(got), place, tokenText(want), next)
		}
		alone, place := impl.NextToken(list[at:], 0, how, last)
		if !sameToken(alone, want) || place != next-at {
			t.Fatalf("NextToken(%s, 0, %d, %s) = %s, %d: what stands ahead turns it", shown(list[at:]), how, short(last), tokenText(alone), place)
		}
		if next <= at || next > len(list) || got.Kind == impl.TkEnd && next != len(list) {
			t.Fatalf("NextToken(%s, %d, %d, %s): %d is no place behind it", shown(list), at, how, short(last), next)
		}
		if textFits(got.Name) && textFits(got.Text) && !impl.TokenOk(got) {
			t.Fatalf("NextToken(%s, %d, %d, %s) = %s is not TokenOk", shown(list), at, how, short(last), tokenText(got))
		}
		_, size = utf8.DecodeRuneInString(clean)
		clean = clean[size:]
	}
}

func checkTokensAgainstRule(t *testing.T, list []int) {
	t.Helper()
	g := guard(list, '>')
	got := impl.Tokens(g.arg)
	clean, at := expectedClean(list), 0
	for i, token := range got {
		want, size := expectedNext(clean, impl.CutData, "")
		if !sameToken(token, want) || (token.Kind == impl.TkEnd) != (i == len(got)-1) {
			t.Fatalf("Tokens(%s)[%d] = %s of %d, want %s", shown(list), i, tokenText(token), len(got), tokenText(want))
		}
		next, place := impl.NextToken(list, at, impl.CutData, "")
		if !sameToken(token, next) {
			t.Fatalf("Tokens(%s)[%d] = %s, NextToken from %d says %s", shown(list), i, tokenText(token), at, tokenText(next))
		}
		clean, at = clean[size:], place
	}
	if len(got) == 0 || at != len(list) || len(got) > len(list)+1 || !g.untouched() {
		t.Fatalf("Tokens(%s): %d tokens up to place %d, or the argument was written into", shown(list), len(got), at)
	}
}

func TestCutNumbers(t *testing.T) {
	if want := []int{1, 2, 3, 4}; !slices.Equal(allHows, want) {
		t.Errorf("the ways to cut are %v, want %v", allHows, want)
	}
}

func TestNextTokenPlaces(t *testing.T) {
	list := runesOf("a<b>\u00e9")
	for _, how := range append([]int{0, 5, -1, math.MinInt, math.MaxInt}, allHows...) {
		for _, at := range []int{-1, -2, math.MinInt, -1 << 32, 5, 6, 3000, 3001, 1 << 32, math.MaxInt - 1, math.MaxInt} {
			checkNext(t, list, at, how, "b", end(), 5)
		}
		for _, at := range []int{-1, 0, 1, math.MinInt, math.MaxInt} {
			checkNext(t, nil, at, how, "", end(), 0)
			checkNext(t, []int{}, at, how, "b", end(), 0)
		}
	}
	for _, how := range []int{0, 5, 6, 9, 16, -1, -2, 257, 1<<32 + 1, math.MinInt, math.MaxInt} {
		for at := range list {
			checkNext(t, list, at, how, "b", impl.Token{}, at)
		}
	}
	checkNext(t, list, 0, impl.CutData, "", char("a"), 1)
	checkNext(t, list, 1, impl.CutData, "", opens("b"), 4)
	checkNext(t, list, 2, impl.CutData, "", char("b"), 3)
	checkNext(t, list, 4, impl.CutData, "", char("\u00e9"), 5)
}

func TestNextTokenMaxPage(t *testing.T) {
	pages := []struct {
		first, fill, last string
		want              impl.Token
	}{
		{"<!--", "a", "-->", comment(strings.Repeat("a", 2993))},
		{"<!--", "a", "---", comment(strings.Repeat("a", 2993) + "-")},
		{"<!", "a", ">", comment(strings.Repeat("a", 2997))},
		{"<!", "\U0001f600", "", comment(strings.Repeat("\U0001f600", 2998))},
		{"<a ", " ", ">", opens("a")},
		{"<a b=", "x", ">", opens("a", "b", strings.Repeat("x", 2994))},
		{"<a b=", "\u00e9", ">", opens("a")},
		{"<a b='", "x", "'", end()},
		{"<a ", "/", "/>", selfClosed(opens("a"))},
		{"</a ", "/", "/>", closes("a")},
		{"<", "a", ">", opens(strings.Repeat("a", 60))},
		{"<!doctype", "a", "", doctype(strings.Repeat("a", 60))},
		{"<!doctype a", " ", "", doctype("a")},
		{"<!doctype", " ", "a", doctype("a")},
		{"&#", "0", "9;", char("\t")},
		{"<a b=&#", "0", "9;>", opens("a", "b", "\t")},
	}
	for _, p := range pages {
		first, last := runesOf(p.first), runesOf(p.last)
		page := joined(first, repeated(runesOf(p.fill)[0], impl.MaxPage-len(first)-len(last)), last)
		checkNext(t, page, 0, impl.CutData, "", p.want, impl.MaxPage)
		if want := append([]impl.Token{p.want}, end()); p.want.Kind != impl.TkEnd && !slices.EqualFunc(impl.Tokens(page), want, sameToken) {
			t.Errorf("Tokens(%s) = %s", shown(page), tokensText(impl.Tokens(page)))
		}
		longer := append(page, ' ')
		for _, how := range allHows {
			for _, at := range []int{0, 1, 2999, 3000} {
				checkNext(t, longer, at, how, "a", impl.Token{}, at)
			}
			for _, at := range []int{-1, 3001, math.MaxInt} {
				checkNext(t, longer, at, how, "a", end(), 3001)
			}
		}
		if got := impl.Tokens(longer); len(got) != 0 {
			t.Errorf("Tokens of %d points = %s", len(longer), tokensText(got))
		}
	}
}

func TestNumbersThatAreNoPoints(t *testing.T) {
	for _, x := range joined(farNumbers(), []int{0, -1, -38, -60, 55296, 57343, 1114112, '<' + 1<<32, '&' - 1<<32, '>' + 1<<40, '-' - 256}) {
		for _, how := range allHows {
			checkNext(t, []int{'a', x, 'b'}, 1, how, "b", char("\ufffd"), 2)
		}
		around := func(ahead string, behind string) []int { return joined(pointsOf(ahead), []int{x}, pointsOf(behind)) }
		checkNext(t, around("<a", "b>"), 0, impl.CutData, "", opens("a\ufffdb"), 5)
		checkNext(t, around("</a", "b>"), 0, impl.CutData, "", closes("a\ufffdb"), 6)
		checkNext(t, around("<a ", "b=c>"), 0, impl.CutData, "", opens("a", "\ufffdb", "c"), 8)
		checkNext(t, around("<a b='", "'>"), 0, impl.CutData, "", opens("a", "b", "\ufffd"), 9)
		checkNext(t, around("<a b=c", ">"), 0, impl.CutData, "", opens("a", "b", "c\ufffd"), 8)
		checkNext(t, around("<a b=", ">"), 0, impl.CutData, "", opens("a", "b", "\ufffd"), 7)
		checkNext(t, around("<!--", "-->"), 0, impl.CutData, "", comment("\ufffd"), 8)
		checkNext(t, around("<!--", ""), 0, impl.CutData, "", comment("\ufffd"), 5)
		checkNext(t, around("<!", ">"), 0, impl.CutData, "", comment("\ufffd"), 4)
		checkNext(t, around("<?", ">"), 0, impl.CutData, "", comment("?\ufffd"), 4)
		checkNext(t, around("</", ">"), 0, impl.CutData, "", comment("\ufffd"), 4)
		checkNext(t, around("<!doctype", ">"), 0, impl.CutData, "", doctype("\ufffd"), 11)
		checkNext(t, around("<", ">"), 0, impl.CutData, "", char("<"), 1)
		checkNext(t, around("</a", ">"), 0, impl.CutRaw, "a", char("<"), 1)
		checkNext(t, around("</a", ">"), 0, impl.CutRaw, "a\ufffd", closes("a\ufffd"), 5)
		checkNext(t, around("&lt", ";"), 0, impl.CutData, "", char("<"), 3)
		checkNext(t, around("&#6", "5"), 0, impl.CutRcdata, "", char("\x06"), 3)
		if want := append(chars("a\ufffdb"), end()); !slices.EqualFunc(impl.Tokens([]int{'a', x, 'b'}), want, sameToken) {
			t.Errorf("Tokens of a, %d, b = %s", x, tokensText(impl.Tokens([]int{'a', x, 'b'})))
		}
	}
}

// Ahead of a blank each point is a char, however it is cut, also 38 and 60.
func TestCharsOfEachPoint(t *testing.T) {
	for x := range eachNumber {
		want := "\ufffd"
		if x != 0 && isPoint(x) {
			want = string(rune(x))
		}
		for _, how := range allHows {
			got, next := impl.NextToken([]int{x, ' '}, 0, how, "a")
			if !sameToken(got, char(want)) || next != 1 {
				t.Fatalf("NextToken({%d}{32}, 0, %d) = %s, %d", x, how, tokenText(got), next)
			}
		}
	}
}

func TestReferencesAsChars(t *testing.T) {
	cases := []struct{ text, char, behind string }{
		{"&amp;", "&", "amp;"}, {"&", "&", "x"}, {"&lt", "<", "b>"}, {"&notin;", "\u2209", ""}, {"&not", "\u00ac", "it;"},
		{"&copy", "\u00a9", "=1"}, {"&#65;", "A", ""}, {"&#x1F600", "\U0001f600", " "}, {"&#0;", "\ufffd", ""}, {"&#13;", "\r", "\n"},
		{"&", "&", ""}, {"&", "&", "#"}, {"&", "&", "#x"}, {"&", "&", "#;"}, {"&", "&", "&lt;"}, {"&#128;", "\u20ac", ""}, {"&#65279;", "\ufeff", ""},
	}
	for _, c := range cases {
		for _, how := range allHows {
			text, next := c.char, len(c.text)
			if how == impl.CutRaw || how == impl.CutPlain {
				text, next = "&", 1
			}
			checkCut(t, c.text+c.behind, how, "title", char(text), next)
		}
	}
}

func TestLessInEachWay(t *testing.T) {
	for _, text := range []string{"<a>", "<", "</", "</>", "<!", "<!-->", "<?x>", "</ x>", "<!doctype>", "<title>", "</b>", "<<"} {
		for _, how := range []int{impl.CutRcdata, impl.CutRaw, impl.CutPlain} {
			for _, last := range []string{"", "title", "a", ">", "/", "!"} {
				checkCut(t, text, how, last, char("<"), 1)
			}
		}
	}
	for _, how := range allHows {
		want, next := closes("title"), 8
		if how == impl.CutPlain {
			want, next = char("<"), 1
		}
		checkCut(t, "</title>", how, "title", want, next)
		checkCut(t, "</TitLe>x", how, "title", want, next)
	}
}

func TestClosingTheLast(t *testing.T) {
	for _, how := range []int{impl.CutRcdata, impl.CutRaw} {
		for _, last := range []string{"title", "TITLE", "tItLe"} {
			for _, behind := range []string{"\t>", "\n>", "\f>", " >", "/>", ">", "  a=b / c='>'>", "//>", "/ >"} {
				checkCut(t, "</TiTle"+behind+"x", how, last, closes("title"), 7+len(behind))
			}
			for _, behind := range []string{"", "x>", "1>", "\v>", "\r>", "\u00a0>", "\u00e9>", "=>", "<>", "->", "\x00>"} {
				checkCut(t, "</title"+behind, how, last, char("<"), 1)
			}
			for _, torn := range []string{" ", "/", " a", " a=", " a='>", "/ a=\">"} {
				checkCut(t, "</title"+torn, how, last, end(), 7+len(torn))
			}
		}
		for _, text := range []string{"</>", "</ >", "</b>", "</titl>", "</t>", "< /title>", "<title>", "<//title>", "</title", "</titl", "</", "<"} {
			checkCut(t, text, how, "title", char("<"), 1)
		}
		checkCut(t, "</title>", how, "", char("<"), 1)
		checkCut(t, "</>", how, "", char("<"), 1)
		checkCut(t, "</ >", how, "", char("<"), 1)
		for _, last := range []string{"1", "1a", "-a", " a", "/a", "@", "[", "`", "{", "\u00e9", "\u212a", "\x00", "\xff", "\xe1", "\xda"} {
			checkCut(t, "</"+strings.ToValidUTF8(last, "\ufffd")+">", how, last, char("<"), 1)
		}
	}
}

// A text is bytes: it stands where the points are just these.
func TestClosingLastsThatAreNoWords(t *testing.T) {
	for _, how := range []int{impl.CutRcdata, impl.CutRaw} {
		checkCut(t, "</A\u00e9>", how, "a\u00e9", closes("a\u00e9"), 5)
		checkCut(t, "</a\u00c9>", how, "a\u00e9", char("<"), 1)
		checkCut(t, "</a\u00c3\u00a9>", how, "a\u00e9", char("<"), 1)
		checkCut(t, "</K>", how, "\u212a", char("<"), 1)
		checkCut(t, "</a\u212a>", how, "ak", char("<"), 1)
		checkCut(t, "</a\ufffd>", how, "a\ufffd", closes("a\ufffd"), 5)
		checkCut(t, "</a\ufffd>", how, "a\xff", char("<"), 1)
		checkCut(t, "</a\u00e9>", how, "a\xc3", char("<"), 1)
		checkCut(t, "</a\U0001f600/>", how, "A\U0001f600", closes("a\U0001f600"), 6)
		checkCut(t, "</a b>", how, "a b", closes("a"), 6)
		checkCut(t, "</a>>", how, "a>", closes("a"), 4)
		checkCut(t, "</a>", how, "a>", char("<"), 1)
		checkCut(t, "</a'>", how, "a'", closes("a'"), 5)
		long := strings.Repeat("b", 61)
		checkCut(t, "</"+long+">", how, long, closes(long[:60]), 64)
		checkCut(t, "</"+long[:60]+">", how, long, char("<"), 1)
		checkCut(t, "</"+long+">", how, long[:60], char("<"), 1)
		wide := "a" + strings.Repeat("\u00e9", 2990)
		checkCut(t, "</"+wide+">", how, wide, closes(wide[:59]), 2994)
		checkCut(t, "</a>", how, strings.Repeat("a", 5000), char("<"), 1)
	}
}

func TestWhatStandsBehindLess(t *testing.T) {
	checkTorn(t, "<", char("<"))
	checkCut(t, "</", impl.CutData, "", char("<"), 1)
	checkTokens(t, "</", chars("</")...)
	checkTorn(t, "<!", comment(""))
	checkTorn(t, "<?", comment("?"))
	checkTorn(t, "<a", end())
	checkTorn(t, "</a", end())
	checkTorn(t, "</ ", comment(" "))
	special := []int{65279, 65313, 65345, 8490, 383, 304, 305, 233, 201, 913, 945, 1040, 127, 128, 170, 186}
	for _, x := range joined(farNumbers(), special, []int{55295, 57344, 1114111}) {
		checkBehindLess(t, x)
	}
	for x := range 1000 {
		checkBehindLess(t, x)
	}
}

func checkBehindLess(t *testing.T, x int) {
	t.Helper()
	for _, ahead := range []string{"<", "</", "<!", "<?", "<!-", "<a", "</a", "<a b", "<a b=", "<a b='", "<!doctype", "<!--", "<!---", "&", "&#"} {
		for _, behind := range []string{"", "b c>d", ">"} {
			list := joined(pointsOf(ahead), []int{x}, pointsOf(behind))
			checkAgainstCutRule(t, list, impl.CutData, "")
			checkAgainstCutRule(t, list, impl.CutRcdata, "a")
			checkTokensAgainstRule(t, list)
		}
	}
	if letter := placeIn(upperLetters+lowerLetters, x) >= 0; !letter && x != '!' && x != '?' && x != '/' {
		checkNext(t, []int{'<', x, '>'}, 0, impl.CutData, "", char("<"), 1)
	}
}

func TestNothingAtAll(t *testing.T) {
	checkTorn(t, "</>", end())
	checkTorn(t, "</></></>", end())
	checkCut(t, "</>a", impl.CutData, "", char("a"), 4)
	checkCut(t, "</></>&lt;b", impl.CutData, "", char("<"), 10)
	checkCut(t, "</></></></b>", impl.CutData, "", closes("b"), 13)
	checkCut(t, "</></", impl.CutData, "", char("<"), 4)
	checkCut(t, "</><", impl.CutData, "", char("<"), 4)
	checkTokens(t, "</>")
	checkTokens(t, "a</></></>", char("a"))
	checkTokens(t, "</>a</>", char("a"))
	checkTokens(t, strings.Repeat("</>", 1000))
	checkTokens(t, strings.Repeat("</>", 999)+"</a", []impl.Token{}...)
	checkTokens(t, strings.Repeat("</>", 999)+"abc", chars("abc")...)
	for _, how := range []int{impl.CutRcdata, impl.CutRaw, impl.CutPlain} {
		checkCut(t, "</>a", how, "a", char("<"), 1)
	}
}

func TestTagNames(t *testing.T) {
	for _, stop := range []string{">", "\t>", "\n>", "\f>", " >", " \t\n\f >", "/ >", "//  >", "/ / >"} {
		checkData(t, "<a"+stop, opens("a"))
		checkData(t, "</a"+stop, closes("a"))
		checkData(t, "<aBc"+stop, opens("abc"))
	}
	for _, stop := range []string{"/>", "//>", " />", " //>", "/ />", "\n/>"} {
		checkData(t, "<a"+stop, selfClosed(opens("a")))
		checkData(t, "</a"+stop, closes("a"))
	}
	for _, inside := range []string{"\v", "\r", "=", "'", `"`, "<", "&lt;", "&amp", "-", "!", "?", "1", "\u00a0", "\u00c9", "\u0130", "\u212a", "\ufeff", "\u2028"} {
		checkData(t, "<a"+inside+"B>", opens("a"+inside+"b"))
		checkData(t, "</a"+inside+"B>", closes("a"+inside+"b"))
	}
	checkData(t, "<ABCDEFGHIJKLMNOPQRSTUVWXYZ>", opens(lowerLetters))
	checkData(t, "<A@[`{Z>", opens("a@[`{z"))
	for _, torn := range []string{"<a", "<a ", "<a/", "<a //", "</a", "</a/", "<a b", "<a b ", "<a b=", "<a b= ", "<a b=c", "<a b=c ", "<a b='>", `<a b=">`, "<a b='c'", "<a b/", "<a =", "</a b='>"} {
		checkTorn(t, torn, end())
		checkTokens(t, "x"+torn, char("x"))
	}
}

func TestTagNamesThatAreTooLong(t *testing.T) {
	a := func(n int) string { return strings.Repeat("a", n) }
	cases := []struct{ written, kept string }{
		{a(59), a(59)}, {a(60), a(60)}, {a(61), a(60)}, {a(200), a(60)}, {strings.Repeat("A", 61), a(60)},
		{a(58) + "\u00e9", a(58) + "\u00e9"}, {a(59) + "\u00e9", a(59)}, {a(59) + "\u00e9b", a(59)}, {a(60) + "\u00e9", a(60)},
		{a(57) + "\u20ac", a(57) + "\u20ac"}, {a(58) + "\u20ac", a(58)}, {a(59) + "\u20ac", a(59)}, {a(58) + "\u20acbb", a(58)},
		{a(56) + "\U0001f600", a(56) + "\U0001f600"}, {a(57) + "\U0001f600", a(57)}, {a(58) + "\U0001f600", a(58)}, {a(59) + "\U0001f600", a(59)},
		{a(57) + "\U0001f600\u00e9", a(57)}, {a(56) + "\U0001f600b", a(56) + "\U0001f600"}, {"a" + strings.Repeat("\u00e9", 40), "a" + strings.Repeat("\u00e9", 29)},
		{a(58) + "\x00", a(58)}, {a(57) + "\x00", a(57) + "\ufffd"},
	}
	for _, c := range cases {
		checkData(t, "<"+c.written+">", opens(c.kept))
		checkData(t, "<"+c.written+" b=c />", selfClosed(opens(c.kept, "b", "c")))
		checkData(t, "</"+c.written+" b>", closes(c.kept))
		checkData(t, "<!doctype "+c.written+" b>", doctype(c.kept))
		checkTorn(t, "<!doctype"+c.written, doctype(c.kept))
	}
}

func TestAttributes(t *testing.T) {
	checkData(t, "<a b>", opens("a", "b", ""))
	checkData(t, "<a b c>", opens("a", "b", "", "c", ""))
	checkData(t, "<a/b/c/>", selfClosed(opens("a", "b", "", "c", "")))
	checkData(t, "<a b=>", opens("a", "b", ""))
	checkData(t, "<a b= >", opens("a", "b", ""))
	checkData(t, "<a b = >", opens("a", "b", ""))
	checkData(t, "<a b=c>", opens("a", "b", "c"))
	checkData(t, "<a b =c>", opens("a", "b", "c"))
	checkData(t, "<a b= c>", opens("a", "b", "c"))
	checkData(t, "<a b\t\n\f =\t\n\f c\t\n\f d>", opens("a", "b", "c", "d", ""))
	checkData(t, "<a b\r=c>", opens("a", "b\r", "c"))
	checkData(t, "<a =>", opens("a", "=", ""))
	checkData(t, "<a ==>", opens("a", "=", ""))
	checkData(t, "<a ==b>", opens("a", "=", "b"))
	checkData(t, "<a =b=c>", opens("a", "=b", "c"))
	checkData(t, "<a===>", opens("a==="))
	checkData(t, "<a/=>", opens("a", "=", ""))
	checkData(t, "<a b/=c>", opens("a", "b", "", "=c", ""))
	checkData(t, "<a b /=c>", opens("a", "b", "", "=c", ""))
	checkData(t, "<a b==c>", opens("a", "b", "=c"))
	checkData(t, "<a b=c=d>", opens("a", "b", "c=d"))
	checkData(t, "<a b = = c>", opens("a", "b", "=", "c", ""))
	checkData(t, "<a b=c/>", opens("a", "b", "c/"))
	checkData(t, "<a b=c />", selfClosed(opens("a", "b", "c")))
	checkData(t, "<a b=/>", opens("a", "b", "/"))
	checkData(t, "<a b= / >", opens("a", "b", "/"))
	checkData(t, "<a b/>", selfClosed(opens("a", "b", "")))
	checkData(t, "<a b/ >", opens("a", "b", ""))
	checkData(t, "<a B=C>", opens("a", "b", "C"))
	checkData(t, "<a \u00c9B\u212a=\u00c9>", opens("a", "\u00c9b\u212a", "\u00c9"))
	checkData(t, "<a 'b'=\"c\">", opens("a", "'b'", "c"))
	checkData(t, `<a "b">`, opens("a", `"b"`, ""))
	checkData(t, "<a <b=<c>", opens("a", "<b", "<c"))
	checkData(t, "<a &amp;=&amp;>", opens("a", "&amp;", "&"))
	checkData(t, "<a &lt>", opens("a", "&lt", ""))
	checkData(t, "</a b=c d='>' />", closes("a"))
	checkData(t, "</a b=\"/>\"/>", closes("a"))
}

func TestValues(t *testing.T) {
	checkData(t, "<a b='c'>", opens("a", "b", "c"))
	checkData(t, `<a b="c">`, opens("a", "b", "c"))
	checkData(t, "<a b=''>", opens("a", "b", ""))
	checkData(t, `<a b="">`, opens("a", "b", ""))
	checkData(t, `<a b='"'>`, opens("a", "b", `"`))
	checkData(t, `<a b="'">`, opens("a", "b", "'"))
	checkData(t, `<a b = ' "c" > / = ' c>`, opens("a", "b", ` "c" > / = `, "c", ""))
	checkData(t, "<a b=\"\t\n\f \r\">", opens("a", "b", "\t\n\f \r"))
	checkData(t, "<a b='c'd>", opens("a", "b", "c", "d", ""))
	checkData(t, "<a b='c''d'>", opens("a", "b", "c", "'d'", ""))
	checkData(t, "<a b='c'/>", selfClosed(opens("a", "b", "c")))
	checkData(t, "<a b='c'/d>", opens("a", "b", "c", "d", ""))
	checkData(t, "<a b='c'=d>", opens("a", "b", "c", "=d", ""))
	checkData(t, "<a b='</a>'>", opens("a", "b", "</a>"))
	checkData(t, `<a b=c"d'e<f=g/h>`, opens("a", "b", `c"d'e<f=g/h`))
	checkData(t, "<a b=\u00e9\U0001f600>", opens("a", "b", "\u00e9\U0001f600"))
	checkData(t, "<a b='\ufeff'>", opens("a"))
	checkData(t, "<a \ufeffb=c>", opens("a"))
	checkData(t, "<a b\ufeff='c\ufeff'>", opens("a", "b\ufeff", "c\ufeff"))
	for _, torn := range []string{"'", `"`, "'c", `"c>`, "'c\">", `"c'> <d>`, "'&#39;", `"&quot;`, "'>'", "'c' d='"} {
		checkTorn(t, "<a b="+torn, end())
		checkTorn(t, "</a b="+torn, end())
	}
}

func TestReferencesInValues(t *testing.T) {
	cases := []struct{ written, read string }{
		{"&amp;", "&"}, {"&amp", "&"}, {"x&amp;y", "x&y"}, {"x&ampy", "x&ampy"}, {"&amp1", "&amp1"}, {"&amp=", "&amp="}, {"&amp;=", "&="},
		{"&lt;b&gt;", "<b>"}, {"&quot;", `"`}, {"&quot;&#39;", `"'`}, {"&#62;&#34;&#32;", ">\" "}, {"&notin;", "\u2209"},
		{"&notit;", "&notit;"}, {"&not;it", "\u00acit"}, {"&", "&"}, {"&&", "&&"}, {"&#", "&#"}, {"&#x", "&#x"}, {"&x;", "&x;"},
		{"&#65", "A"}, {"&#65B", "AB"}, {"&#x41;", "A"}, {"&#0;", "\ufffd"}, {"&copy&reg", "\u00a9\u00ae"}, {"a=1&copy=2", "a=1&copy=2"},
		{"&copy/", "\u00a9/"}, {"&copy-", "\u00a9-"}, {"&copy\u00e9", "\u00a9\u00e9"}, {"&amp;amp;", "&amp;"}, {"&&amp", "&&"},
	}
	for _, c := range cases {
		checkData(t, "<a b='"+c.written+"'>", opens("a", "b", c.read))
		checkData(t, `<a b="`+c.written+`">`, opens("a", "b", c.read))
		checkData(t, "<a b='"+c.written+"'c>", opens("a", "b", c.read, "c", ""))
		checkData(t, "<a b='"+c.written+"'=c>", opens("a", "b", c.read, "=c", ""))
		checkData(t, "<a b="+c.written+">", opens("a", "b", c.read))
		checkData(t, "<a b="+c.written+" c>", opens("a", "b", c.read, "c", ""))
	}
	checkTorn(t, "<a b=&amp", end())
	checkTorn(t, "<a b='&amp;", end())
}

func TestAttributesThatAreNotAdded(t *testing.T) {
	checkData(t, "<a b=1 b=2>", opens("a", "b", "1"))
	checkData(t, "<a b B=2 c b='3'/>", selfClosed(opens("a", "b", "", "c", "")))
	text, want := "<a", opens("a")
	for i := range 25 {
		name := "n" + strconv.Itoa(i)
		text += " " + name + "=" + strconv.Itoa(i)
		if i < 20 {
			want.Attrs = append(want.Attrs, impl.Attr{Name: name, Value: strconv.Itoa(i)})
		}
		checkData(t, text+">", want)
		checkData(t, text+" n0=x />", selfClosed(want))
	}
	a := func(n int) string { return strings.Repeat("a", n) }
	checkData(t, "<a "+a(60)+"=1 c>", opens("a", a(60), "1", "c", ""))
	checkData(t, "<a "+a(61)+"=1 c>", opens("a", "c", ""))
	checkData(t, "<a "+a(58)+"\u00e9 c>", opens("a", a(58)+"\u00e9", "", "c", ""))
	checkData(t, "<a "+a(59)+"\u00e9 c>", opens("a", "c", ""))
	checkData(t, "<a b='"+a(2900)+"' c>", opens("a", "b", a(2900), "c", ""))
	checkData(t, "<a b='"+strings.Repeat("\u00e9", 1500)+"' c>", opens("a", "b", strings.Repeat("\u00e9", 1500), "c", ""))
	checkData(t, "<a b='"+strings.Repeat("\u00e9", 1500)+"x' c>", opens("a", "c", ""))
}

func TestMarks(t *testing.T) {
	checkData(t, "<!>", comment(""))
	checkTorn(t, "<!", comment(""))
	checkTorn(t, "<!-", comment("-"))
	checkData(t, "<!->", comment("-"))
	checkData(t, "<!-->", comment(""))
	checkData(t, "<!--->", comment(""))
	checkData(t, "<!---->", comment(""))
	checkData(t, "<!----!>", comment(""))
	checkData(t, "<!- -->", comment("- --"))
	checkData(t, "<! -->", comment(" --"))
	checkData(t, "<!x>", comment("x"))
	checkData(t, "<!<>", comment("<"))
	checkData(t, "<!X&amp;'\">", comment("X&amp;'\""))
	checkData(t, "<![CDATA[x>", comment("[CDATA[x"))
	checkData(t, "<?>", comment("?"))
	checkData(t, "<?Xml a='b'?>", comment("?Xml a='b'?"))
	checkTorn(t, "<?x <y", comment("?x <y"))
	checkData(t, "</ >", comment(" "))
	checkData(t, "</1>", comment("1"))
	checkData(t, "<//>", comment("/"))
	checkData(t, "</!>", comment("!"))
	checkData(t, "</&amp;>", comment("&amp;"))
	checkData(t, "</\u00e9>", comment("\u00e9"))
	checkTorn(t, "</ a", comment(" a"))
	checkTorn(t, "</<a", comment("<a"))
	checkData(t, "<!\ufeff>", comment("\ufeff"))
}

func TestComments(t *testing.T) {
	checkData(t, "<!--a-->", comment("a"))
	checkData(t, "<!--a--!>", comment("a"))
	checkData(t, "<!-- a -->", comment(" a "))
	checkData(t, "<!--a>-->", comment("a>"))
	checkData(t, "<!--a--->", comment("a-"))
	checkData(t, "<!----->", comment("-"))
	checkData(t, "<!------>", comment("--"))
	checkData(t, "<!-----!>", comment("-"))
	checkData(t, "<!--!>-->", comment("!>"))
	checkData(t, "<!--!-->", comment("!"))
	checkData(t, "<!--a--!-->", comment("a--!"))
	checkData(t, "<!--a--!!>-->", comment("a--!!>"))
	checkData(t, "<!--a-- >-->", comment("a-- >"))
	checkData(t, "<!--a->b-->", comment("a->b"))
	checkData(t, "<!--a-!>b-->", comment("a-!>b"))
	checkCut(t, "<!--a--!>-->", impl.CutData, "", comment("a"), 9)
	checkData(t, "<!--a--!b-->", comment("a--!b"))
	checkData(t, "<!--<!--a-->", comment("<!--a"))
	checkData(t, "<!--<!-->", comment("<!"))
	checkData(t, "<!--&amp;A-->", comment("&amp;A"))
	checkData(t, "<!--\u00e9\n\t-->", comment("\u00e9\n\t"))
	torn := []struct{ written, text string }{
		{"", ""}, {"-", ""}, {"--", ""}, {"--!", ""}, {"---", "-"}, {"----", "--"}, {"---!", "-"}, {"-!", "-!"}, {"!", "!"}, {"--!-", "--!"}, {"--!!", "--!!"},
		{"a", "a"}, {"a-", "a"}, {"a--", "a"}, {"a--!", "a"}, {"a---", "a-"}, {"a---!", "a-"}, {"a-!", "a-!"}, {"a--!--!", "a--!"}, {"a--!--", "a--!"}, {"a>", "a>"},
		{"a->", "a->"}, {"--a", "--a"}, {"-- ", "-- "}, {"a\u00e9-", "a\u00e9"}, {"-a>", "-a>"}, {"-\u00e9", "-\u00e9"}, {"&lt;", "&lt;"},
	}
	for _, c := range torn {
		checkTorn(t, "<!--"+c.written, comment(c.text))
	}
}

func TestDoctypes(t *testing.T) {
	for _, word := range []string{"doctype", "DOCTYPE", "DocType", "dOCTYPE", "doctypE"} {
		checkData(t, "<!"+word+">", doctype(""))
		checkData(t, "<!"+word+" >", doctype(""))
		checkData(t, "<!"+word+" html>", doctype("html"))
		checkData(t, "<!"+word+"html>", doctype("html"))
		checkData(t, "<!"+word+"\t\n\f HTML\t\n\f >", doctype("html"))
		checkTorn(t, "<!"+word, doctype(""))
		checkTorn(t, "<!"+word+" ", doctype(""))
		checkTorn(t, "<!"+word+" html", doctype("html"))
		checkTorn(t, "<!"+word+" html x<y", doctype("html"))
	}
	checkData(t, "<!doctype html PUBLIC \"-//x\" 'y'>", doctype("html"))
	checkData(t, "<!doctype html '>", doctype("html"))
	checkData(t, "<!doctype a/b='c'&lt;<d>", doctype("a/b='c'&lt;<d"))
	checkData(t, "<!doctype/>", doctype("/"))
	checkData(t, "<!doctype\rx>", doctype("\rx"))
	checkData(t, "<!doctype \u00c9A>", doctype("\u00c9a"))
	checkData(t, "<!doctypedoctype>", doctype("doctype"))
	checkData(t, "<!doctype--x-->", doctype("--x--"))
	for _, other := range []string{"doctyp", " doctype", "d", "odoctype", "doctyp\u0435", "do-ctype", "-doctype"} {
		checkData(t, "<!"+other+">", comment(other))
		checkTorn(t, "<!"+other, comment(other))
	}
}

func TestTokens(t *testing.T) {
	checkTokens(t, "")
	checkTokens(t, "a\u00e9 ", chars("a\u00e9 ")...)
	checkTokens(t, "<p>&lt;</p>", opens("p"), char("<"), closes("p"))
	checkTokens(t, "<!doctype html><p/>a<!--b--></>", doctype("html"), selfClosed(opens("p")), char("a"), comment("b"))
	checkTokens(t, "a<b c='", char("a"))
	checkTokens(t, "<title></b>&amp;</title>", opens("title"), closes("b"), char("&"), closes("title"))
	checkTokens(t, "<<a><", char("<"), opens("a"), char("<"))
	checkTokens(t, "<a b=c><a b=c>", opens("a", "b", "c"), opens("a", "b", "c"))
	checkTokens(t, strings.Repeat("x", 3000), chars(strings.Repeat("x", 3000))...)
	checkTokens(t, strings.Repeat("&", 3000), chars(strings.Repeat("&", 3000))...)
	checkTokens(t, strings.Repeat("<", 3000), chars(strings.Repeat("<", 3000))...)
	if got := impl.Tokens(nil); len(got) != 1 || !sameToken(got[0], end()) {
		t.Errorf("Tokens(nil) = %s", tokensText(got))
	}
	for _, n := range []int{3001, 3002, 10000} {
		for _, x := range []int{'a', '<', 0, -1} {
			if got := impl.Tokens(repeated(x, n)); len(got) != 0 {
				t.Errorf("Tokens of %d times %d: %d tokens", n, x, len(got))
			}
		}
	}
}

func TestTokensShareNoMemory(t *testing.T) {
	list := runesOf("<a b=1 c=2><a b=1 c=2><d e=3>")
	first, second := impl.Tokens(list), impl.Tokens(list)
	for i := range first {
		overwrite(first[i].Attrs, fillAttr)
		for _, other := range first[i+1:] {
			if slices.Contains(other.Attrs, fillAttr) {
				t.Errorf("two lists of one answer share memory: %s", tokenText(other))
			}
		}
	}
	overwrite(first, impl.Token{Kind: 7})
	overwrite(list, 'x')
	want := []impl.Token{opens("a", "b", "1", "c", "2"), opens("a", "b", "1", "c", "2"), opens("d", "e", "3"), end()}
	if !slices.EqualFunc(second, want, sameToken) {
		t.Errorf("two answers share memory: %s", tokensText(second))
	}
}

func checkRows(t *testing.T, ahead string, pieces []string, n int) {
	t.Helper()
	eachRow(pieces, n, func(row string) {
		list := runesOf(ahead + row)
		checkAgainstCutRule(t, list, impl.CutData, "")
		checkTokensAgainstRule(t, list)
	})
}

func TestCutRowsOfPieces(t *testing.T) {
	checkRows(t, "", []string{"<", ">", "/", "!", "?", "-", "a", "=", "'", " ", "&lt", ";", "\u00e9"}, 4)
	checkRows(t, "<!", []string{"-", "!", ">", "a", "<"}, 6)
	checkRows(t, "<!--", []string{"-", "!", ">", "a"}, 6)
	checkRows(t, "<a", []string{" ", "/", ">", "=", "'", "b"}, 5)
	checkRows(t, "<a b", []string{" ", "=", `"`, "'", "/", ">", "&amp", "c"}, 4)
	checkRows(t, "<!", []string{"doctype", "DocTyp", "e", " ", ">", "/", "H", "\n"}, 4)
	checkRows(t, "</", []string{">", "/", "<", "a", " ", "=\"", "B"}, 4)
}

func TestCutRowsInEachWay(t *testing.T) {
	pieces := []string{"<", "</", "a", "A", "ab", " ", "/", ">", "&lt;", "'", "\u00e9"}
	eachRow(pieces, 4, func(row string) {
		list := runesOf(row)
		for _, last := range []string{"a", "AB", "a\u00e9"} {
			checkAgainstCutRule(t, list, impl.CutRcdata, last)
			checkAgainstCutRule(t, list, impl.CutRaw, last)
		}
	})
	eachRow(pieces, 2, func(row string) {
		for _, last := range []string{"", "a", "A", " ", "/", ">", "<", "a/", "a>", "a b", "\u00e9", "\xff", "a\xff", "1"} {
			for _, how := range allHows {
				checkAgainstCutRule(t, runesOf("</"+last+row), how, last)
				checkAgainstCutRule(t, runesOf(row), how, last)
			}
		}
	})
}

func FuzzCut(f *testing.F) {
	for _, s := range []string{"<!DOCTYPE Html x><A Href='x&amp;y' b=\"1\" b=2 />", "a<!--b--!><!-->c</></ z><?q></P x=1>", "</title\xff></a b='", "<a &copy=&copy=>&#x41;\x00"} {
		f.Add(s, impl.CutData, "title")
		f.Add(s, impl.CutRcdata, "title")
	}
	f.Fuzz(func(t *testing.T, text string, how int, last string) {
		list := runesOf(text)
		if len(list) > 300 {
			list = list[:300]
		}
		if !slices.Contains(allHows, how) {
			for at := range list {
				checkNext(t, list, at, how, last, impl.Token{}, at)
			}
			how = impl.CutRaw
		}
		checkAgainstCutRule(t, list, how, last)
		checkAgainstCutRule(t, numbers([]byte(text[:min(len(text), 300)])), impl.CutData, last)
		checkTokensAgainstRule(t, list)
	})
}
