package tests

import (
	"math"
	"strings"
	"testing"
	"unicode"
	"unicode/utf8"
	"unsafe"

	"loop.example/g00118/impl"
)

const (
	upperLetters = "ABCDEFGHIJKLMNOPQRSTUVWXYZ"
	lowerLetters = "abcdefghijklmnopqrstuvwxyz"
)

// farNumbers are no points; cut to a byte or to 32 bits some of them would be blanks, letters or digits.
func farNumbers() []int {
	far := []int{math.MinInt, math.MinInt + 32, math.MaxInt, math.MaxInt - 31, 1 << 21, 1 << 31, -1 << 31}
	for _, x := range []int{0, 9, 10, 12, 32, '0', '9', 'A', 'F', 'Z', 'a', 'f', 'z'} {
		far = append(far, -x-1, -x, x-256, x+1<<32, x-1<<32, x+1<<40, x|math.MinInt)
	}
	var out []int
	for _, x := range far {
		if x < 0 || x > 1114111 {
			out = append(out, x)
		}
	}
	return out
}

// placeIn is where letters has the point x, or -1.
func placeIn(letters string, x int) int {
	for i := range len(letters) {
		if int(letters[i]) == x {
			return i
		}
	}
	return -1
}

// eachNumber has all points, what stands beside them, and numbers far from them.
func eachNumber(yield func(int) bool) {
	for x := -300; x <= 1114111+300; x++ {
		if !yield(x) {
			return
		}
	}
	for _, x := range farNumbers() {
		if !yield(x) {
			return
		}
	}
}

func TestIsBlank(t *testing.T) {
	for _, x := range []int{9, 10, 12, 32} {
		if !impl.IsBlank(x) {
			t.Errorf("IsBlank(%d) is false", x)
		}
	}
	for _, x := range []int{0, -1, -9, 8, 11, 13, 14, 28, 31, 33, 127, 133, 160, 5760, 8192, 8232, 8233, 8239, 12288, 65279, 1114112} {
		if impl.IsBlank(x) {
			t.Errorf("IsBlank(%d) is true", x)
		}
	}
	for x := range eachNumber {
		if want := placeIn("\t\n\f ", x) >= 0; impl.IsBlank(x) != want {
			t.Errorf("IsBlank(%d) = %v", x, !want)
		}
	}
}

func TestIsAlpha(t *testing.T) {
	for _, x := range []int{'A', 'B', 'M', 'Y', 'Z', 'a', 'b', 'm', 'y', 'z'} {
		if !impl.IsAlpha(x) {
			t.Errorf("IsAlpha(%d) is false", x)
		}
	}
	for _, x := range []int{0, -1, -65, '0', '9', '@', '[', '^', '_', '`', '{', 170, 192, 223, 233, 255, 305, 383, 913, 945, 1040, 1072, 8490, 65313, 65345, 119808, 1114112} {
		if impl.IsAlpha(x) {
			t.Errorf("IsAlpha(%d) is true", x)
		}
	}
	for x := range eachNumber {
		if want := placeIn(upperLetters+lowerLetters, x) >= 0; impl.IsAlpha(x) != want {
			t.Errorf("IsAlpha(%d) = %v", x, !want)
		}
	}
}

func TestLowerOf(t *testing.T) {
	cases := []struct{ x, want int }{
		{'A', 'a'}, {'Q', 'q'}, {'Z', 'z'}, {'@', '@'}, {'[', '['}, {'a', 'a'}, {'z', 'z'}, {'`', '`'}, {'{', '{'},
		{0, 0}, {-1, -1}, {-65, -65}, {'0', '0'}, {192, 192}, {201, 201}, {304, 304}, {913, 913}, {1040, 1040}, {8490, 8490},
		{65313, 65313}, {55296, 55296}, {1114112, 1114112}, {math.MinInt, math.MinInt}, {math.MaxInt, math.MaxInt},
	}
	for _, c := range cases {
		if got := impl.LowerOf(c.x); got != c.want {
			t.Errorf("LowerOf(%d) = %d, want %d", c.x, got, c.want)
		}
	}
}

func TestWhatIsLoweredStaysSo(t *testing.T) {
	for x := range eachNumber {
		want := x
		if i := placeIn(upperLetters, x); i >= 0 {
			want = int(lowerLetters[i])
		}
		got := impl.LowerOf(x)
		if got != want {
			t.Errorf("LowerOf(%d) = %d, want %d", x, got, want)
		}
		if twice := impl.LowerOf(got); twice != got {
			t.Errorf("LowerOf(LowerOf(%d)) = %d, lowered once %d", x, twice, got)
		}
		if impl.IsAlpha(got) != impl.IsAlpha(x) || impl.IsBlank(got) != impl.IsBlank(x) {
			t.Errorf("LowerOf(%d) = %d is of another kind", x, got)
		}
	}
}

func TestDigitOfAtEdges(t *testing.T) {
	cases := []struct{ x, base, want int }{
		{'0', 10, 0}, {'7', 10, 7}, {'9', 10, 9}, {'/', 10, -1}, {':', 10, -1},
		{'0', 16, 0}, {'7', 16, 7}, {'9', 16, 9}, {'/', 16, -1}, {':', 16, -1},
		{'A', 16, 10}, {'B', 16, 11}, {'F', 16, 15}, {'@', 16, -1}, {'G', 16, -1}, {'Z', 16, -1},
		{'a', 16, 10}, {'b', 16, 11}, {'f', 16, 15}, {'`', 16, -1}, {'g', 16, -1}, {'z', 16, -1},
		{'A', 10, -1}, {'F', 10, -1}, {'a', 10, -1}, {'f', 10, -1}, {'x', 16, -1}, {'X', 16, -1},
		{'0', 0, -1}, {'0', 1, -1}, {'0', 2, -1}, {'1', 2, -1}, {'1', 8, -1}, {'1', 9, -1}, {'1', 11, -1}, {'1', 15, -1},
		{'1', 17, -1}, {'a', 11, -1}, {'a', 36, -1}, {'z', 36, -1}, {'1', -10, -1}, {'1', -16, -1}, {'1', -1, -1},
		{'1', math.MinInt, -1}, {'1', math.MaxInt, -1}, {'1', 10 + 1<<32, -1}, {'1', 266, -1},
		{0, 10, -1}, {1, 10, -1}, {9, 10, -1}, {15, 16, -1}, {-1, 10, -1}, {-48, 10, -1}, {-1, 16, -1},
		{178, 10, -1}, {1632, 10, -1}, {65296, 10, -1}, {65296, 16, -1}, {65313, 16, -1}, {1114112, 16, -1},
	}
	for _, c := range cases {
		if got := impl.DigitOf(c.x, c.base); got != c.want {
			t.Errorf("DigitOf(%d, %d) = %d, want %d", c.x, c.base, got, c.want)
		}
	}
}

func TestDigitOfAnyNumber(t *testing.T) {
	for x := range eachNumber {
		if got, want := impl.DigitOf(x, 10), placeIn("0123456789", x); got != want {
			t.Errorf("DigitOf(%d, 10) = %d, want %d", x, got, want)
		}
		want := max(placeIn("0123456789ABCDEF", x), placeIn("0123456789abcdef", x))
		if got := impl.DigitOf(x, 16); got != want {
			t.Errorf("DigitOf(%d, 16) = %d, want %d", x, got, want)
		}
	}
}

func TestDigitOfNoOtherBase(t *testing.T) {
	bases := farNumbers()
	for base := -300; base <= 300; base++ {
		bases = append(bases, base)
	}
	for _, base := range bases {
		if base == 10 || base == 16 {
			continue
		}
		for x := -1; x < 256; x++ {
			if got := impl.DigitOf(x, base); got != -1 {
				t.Errorf("DigitOf(%d, %d) = %d, want -1", x, base, got)
			}
		}
	}
}

func TestLowerText(t *testing.T) {
	cases := []struct{ s, want string }{
		{"", ""}, {"A", "a"}, {"z", "z"}, {"Html", "html"}, {"hTML", "html"}, {"@AZ[`az{", "@az[`az{"},
		{upperLetters, lowerLetters}, {lowerLetters, lowerLetters}, {"H1-X_Y\x00 Z\r\n", "h1-x_y\x00 z\r\n"},
		{"A1\xc3\x89z", "a1\xc3\x89z"}, {"\xc3A", "\xc3a"}, {"A\xff\xfeZ\x80", "a\xff\xfez\x80"}, {"\xe2\x82", "\xe2\x82"},
		{"\xed\xa0\x80Q", "\xed\xa0\x80q"}, {"\xc0\x81B", "\xc0\x81b"}, {"\xef\xbb\xbfX", "\xef\xbb\xbfx"},
		{"\u0130\u212a\u0391\u0410\uff21K", "\u0130\u212a\u0391\u0410\uff21k"}, {"\ufffdA", "\ufffda"}, {"\U0001d400A", "\U0001d400a"},
	}
	for _, c := range cases {
		if got := impl.LowerText(c.s); got != c.want {
			t.Errorf("LowerText(%q) = %q, want %q", c.s, got, c.want)
		}
		if got := impl.LowerText(c.want); got != c.want {
			t.Errorf("LowerText(%q) = %q, lowered twice", c.want, got)
		}
	}
}

// The chapter names no limit for LowerText.
func TestLowerTextOfLongTexts(t *testing.T) {
	for _, n := range []int{impl.MaxName, impl.MaxName + 1, impl.MaxPage, impl.MaxPage + 1, 100000} {
		if got := impl.LowerText(strings.Repeat("A", n)); got != strings.Repeat("a", n) {
			t.Errorf("LowerText of %d times A has %d bytes", n, len(got))
		}
	}
}

func checkLowered(t *testing.T, s string) {
	t.Helper()
	got := impl.LowerText(s)
	if len(got) != len(s) {
		t.Fatalf("LowerText(%q) = %q, of another length", s, got)
	}
	for i := range len(s) {
		want := s[i]
		if place := strings.IndexByte(upperLetters, s[i]); place >= 0 {
			want = lowerLetters[place]
		}
		if got[i] != want {
			t.Fatalf("LowerText(%q) = %q, with %d at %d, want %d", s, got, got[i], i, want)
		}
	}
	if twice := impl.LowerText(got); twice != got {
		t.Fatalf("LowerText twice of %q = %q, lowered once %q", s, twice, got)
	}
}

func TestLowerTextOfAnyTwoBytes(t *testing.T) {
	for x := range 256 {
		checkLowered(t, string([]byte{byte(x)}))
		for y := range 256 {
			checkLowered(t, string([]byte{byte(x), byte(y)}))
		}
	}
}

func TestLowerTextIsNewMemory(t *testing.T) {
	for _, s := range []string{"lower", "UPPER", "a\xff\xfe"} {
		s = strings.Clone(s)
		if unsafe.StringData(impl.LowerText(s)) == unsafe.StringData(s) {
			t.Errorf("LowerText(%q) shares memory with what it was asked of", s)
		}
	}
}

func TestNameOk(t *testing.T) {
	good := []string{
		"a", "z", "m", "p", "html", "h1", "x-y", "a.b:c_d", "a\r", "a\rb", "a\x0b", "a\x08\x0d\x0e\x1f\x7f", "a\"'<=&", "a!b",
		"a@", "a[", "a`", "a{", "a0", "a:9", "a\u00a0b", "a\u00e9", "a\u00c9", "a\u0391\u0410", "a\u212a", "a\uff21", "a\u2003", "a\U0001f600",
		"a\ufeff", "a\ufffd", "a\x01", "a=", "a?", "a.",
	}
	for _, s := range good {
		if !impl.NameOk(s) {
			t.Errorf("NameOk(%q) is false", s)
		}
	}
	bad := []string{
		"", "A", "Z", "Ab", "aB", "abZ", "aAb", "1", "1a", "-a", "_", "`", "{", "@", "[", " ", " a", "a ", "a b", "a\t", "a\nb", "a\fb",
		"/", "a/", "/a", "a/b", ">", "a>", "a>b", "\x00", "a\x00", "a\x00b", "\r", "\ra", "<a", "!a",
		"\u00e9", "\u00e9a", "\u0430", "\uff41", "\u00aa", "\ufeffa", "\ufeff",
		"a\xff", "a\x80", "a\xc3", "a\xe2\x82", "a\xf0\x9f\x98", "a\xed\xa0\x80", "a\xc0\x80", "a\xc1\x81", "a\xf4\x90\x80\x80", "\xff", "a\xc3b",
	}
	for _, s := range bad {
		if impl.NameOk(s) {
			t.Errorf("NameOk(%q) is true", s)
		}
	}
}

func TestNameOkMaxName(t *testing.T) {
	if impl.MaxName != 60 {
		t.Errorf("MaxName is %d", impl.MaxName)
	}
	for n := 0; n <= 70; n++ {
		want := n >= 1 && n <= 60
		if got := impl.NameOk(strings.Repeat("a", n)); got != want {
			t.Errorf("NameOk of %d letters = %v", n, got)
		}
	}
	cases := []struct {
		name, s string
		want    bool
	}{
		{"bytes count, not points", "a" + strings.Repeat("\u00e9", 29) + "b", true},
		{"61 bytes of 31 points", "a" + strings.Repeat("\u00e9", 30), false},
		{"60 bytes, a form at the end", strings.Repeat("a", 57) + "\u20ac", true},
		{"60 bytes, a form that the end cuts", strings.Repeat("a", 58) + "\xe2\x82", false},
		{"61 bytes of which 60 would do", strings.Repeat("a", 60) + "A", false},
		{"a page", strings.Repeat("a", impl.MaxPage), false},
		{"more than a page", strings.Repeat("a", impl.MaxPage+1), false},
	}
	for _, c := range cases {
		if got := impl.NameOk(c.s); got != c.want {
			t.Errorf("%s: NameOk = %v", c.name, got)
		}
	}
}

// nameFits is a rule of its own: the beginning by the lower letters, the rest by what no name has.
func nameFits(s string) bool {
	if len(s) == 0 || len(s) > 60 || !utf8.ValidString(s) {
		return false
	}
	return strings.IndexByte(lowerLetters, s[0]) >= 0 && !strings.ContainsAny(s, "\t\n\f \x00/>"+upperLetters)
}

func TestNameOkOfEachByteAtEachPlace(t *testing.T) {
	for _, n := range []int{1, 2, 3, 7, 59, 60} {
		for at := range n {
			for x := range 256 {
				b := repeated(byte('k'), n)
				b[at] = byte(x)
				s := string(b)
				if want := nameFits(s); impl.NameOk(s) != want {
					t.Errorf("NameOk of %d bytes with %d at %d = %v", n, x, at, !want)
				}
			}
		}
	}
}

func TestNameOkOfEachPointBehindALetter(t *testing.T) {
	for x := rune(0); x <= unicode.MaxRune; x++ {
		if !utf8.ValidRune(x) {
			continue
		}
		for _, s := range []string{string(x), "a" + string(x), string(x) + "a"} {
			if want := nameFits(s); impl.NameOk(s) != want {
				t.Errorf("NameOk(%q) = %v", s, !want)
			}
		}
	}
}

func FuzzKinds(f *testing.F) {
	for _, s := range []string{"", "h1", "Html", "a b", "a\xc3", "a\u00e9/", strings.Repeat("a", 60), strings.Repeat("a", 61)} {
		f.Add(s)
	}
	f.Fuzz(func(t *testing.T, s string) {
		checkLowered(t, s)
		if want := nameFits(s); impl.NameOk(s) != want {
			t.Fatalf("NameOk(%q) = %v", s, !want)
		}
		if impl.NameOk(s) && impl.LowerText(s) != s {
			t.Fatalf("the name %q is not lowered", s)
		}
	})
}
