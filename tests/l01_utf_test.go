package tests

import (
	"bytes"
	"math"
	"slices"
	"testing"
	"unicode/utf8"

	"loop.example/g00118/impl"
)

const standIn = 65533

var mark = []byte{239, 187, 191}

func isPoint(x int) bool {
	return x >= 0 && x <= 1114111 && utf8.ValidRune(rune(x))
}

func TestPointOkAtEdges(t *testing.T) {
	for _, x := range []int{0, 1, 10, 127, 128, 2047, 2048, 55295, 57344, 65279, 65533, 65534, 65535, 65536, 1114110, 1114111} {
		if !impl.PointOk(x) {
			t.Errorf("PointOk(%d) is false", x)
		}
	}
	for _, x := range []int{-1, -65, -65536, math.MinInt, 55296, 55297, 56320, 57342, 57343, 1114112, 1 << 32, 1<<32 + 65, math.MaxInt} {
		if impl.PointOk(x) {
			t.Errorf("PointOk(%d) is true", x)
		}
	}
}

func TestPointPutAtEdges(t *testing.T) {
	stand := []byte{239, 191, 189}
	cases := []struct {
		x    int
		want []byte
	}{
		{0, []byte{0}}, {65, []byte{65}}, {127, []byte{127}},
		{128, []byte{194, 128}}, {233, []byte{195, 169}}, {2047, []byte{223, 191}},
		{2048, []byte{224, 160, 128}}, {8364, []byte{226, 130, 172}}, {55295, []byte{237, 159, 191}},
		{57344, []byte{238, 128, 128}}, {65279, mark}, {65533, stand}, {65535, []byte{239, 191, 191}},
		{65536, []byte{240, 144, 128, 128}}, {128512, []byte{240, 159, 152, 128}}, {1114111, []byte{244, 143, 191, 191}},
		{55296, stand}, {57343, stand}, {1114112, stand}, {-1, stand}, {-191, stand},
		{math.MinInt, stand}, {math.MaxInt, stand}, {1<<32 + 65, stand},
	}
	for _, c := range cases {
		if got := impl.PointPut(c.x); !bytes.Equal(got, c.want) {
			t.Errorf("PointPut(%d) = %v, want %v", c.x, got, c.want)
		}
	}
}

func TestEveryPointIsReadAsItWasPut(t *testing.T) {
	for x := -300; x <= 1114111+300; x++ {
		want := x
		if !isPoint(x) {
			want = standIn
		}
		if impl.PointOk(x) != isPoint(x) {
			t.Fatalf("PointOk(%d) = %v", x, impl.PointOk(x))
		}
		b := impl.PointPut(x)
		if !bytes.Equal(b, utf8.AppendRune(nil, rune(want))) {
			t.Fatalf("PointPut(%d) = %v", x, b)
		}
		if got := impl.UtfRead(append([]byte{97}, b...)); !slices.Equal(got, []int{97, want}) {
			t.Fatalf("UtfRead(97 and %v) = %v, want 97 and %d", b, got, want)
		}
		alone := []int{want}
		if want == 65279 {
			alone = nil
		}
		if got := impl.UtfRead(b); !slices.Equal(got, alone) {
			t.Fatalf("UtfRead(%v) = %v, want %v", b, got, alone)
		}
		if impl.UtfOk(b) != (want != 65279) {
			t.Fatalf("UtfOk(%v) = %v", b, impl.UtfOk(b))
		}
	}
}

func TestPointsPut(t *testing.T) {
	cases := []struct {
		list []int
		want []byte
	}{
		{nil, nil},
		{[]int{}, nil},
		{[]int{65}, []byte("A")},
		{[]int{0, 233, 8364, 128512, 10, 13}, []byte("\x00\u00e9\u20ac\U0001f600\n\r")},
		{[]int{-1, 65, 55296, 57343, 1114112}, []byte("\ufffdA\ufffd\ufffd\ufffd")},
		{[]int{65279, 65279, 66, 65279}, joined(mark, mark, []byte("B"), mark)},
	}
	for _, c := range cases {
		if got := impl.PointsPut(c.list); !bytes.Equal(got, c.want) {
			t.Errorf("PointsPut(%v) = %v, want %v", c.list, got, c.want)
		}
	}
}

func TestPointsPutMaxPage(t *testing.T) {
	for _, x := range []int{65, 233, 8364, 1114111, -1} {
		one := impl.PointPut(x)
		got := impl.PointsPut(repeated(x, impl.MaxPage))
		if !bytes.Equal(got, bytes.Repeat(one, impl.MaxPage)) {
			t.Errorf("PointsPut of MaxPage times %d has %d bytes", x, len(got))
		}
		if got := impl.PointsPut(repeated(x, impl.MaxPage+1)); len(got) != 0 {
			t.Errorf("PointsPut of MaxPage + 1 times %d has %d bytes, want none", x, len(got))
		}
	}
}

type readCase struct {
	b    []byte
	want []int
}

func checkReads(t *testing.T, cases []readCase) {
	t.Helper()
	for _, c := range cases {
		if got := impl.UtfRead(c.b); !slices.Equal(got, c.want) {
			t.Errorf("UtfRead(%v) = %v, want %v", c.b, got, c.want)
		}
	}
}

func TestUtfReadMark(t *testing.T) {
	checkReads(t, []readCase{
		{mark, nil},
		{joined(mark, []byte("x")), []int{120}},
		{joined(mark, mark), []int{65279}},
		{joined(mark, mark, mark, []byte("x")), []int{65279, 65279, 120}},
		{joined([]byte("x"), mark), []int{120, 65279}},
		{joined([]byte("x"), mark, mark, []byte("y")), []int{120, 65279, 65279, 121}},
		{joined([]byte{10}, mark), []int{10, 65279}},
		{[]byte{239, 187}, []int{standIn}},
		{[]byte{239}, []int{standIn}},
		{[]byte{239, 187, 190}, []int{65278}},
		{[]byte{239, 187, 192}, []int{standIn, standIn}},
		{joined([]byte{239}, mark), []int{standIn, 65279}},
		{joined(mark, []byte{191}), []int{standIn}},
		{joined(mark, []byte{239, 187}), []int{standIn}},
		{joined(mark, []byte{255}), []int{standIn}},
	})
}

func TestUtfReadFormsThatEndTooSoon(t *testing.T) {
	const s = standIn
	checkReads(t, []readCase{
		{[]byte{194}, []int{s}},
		{[]byte{194, 65}, []int{s, 65}},
		{[]byte{194, 194}, []int{s, s}},
		{[]byte{194, 194, 128}, []int{s, 128}},
		{[]byte{194, 255}, []int{s, s}},
		{[]byte{226}, []int{s}},
		{[]byte{226, 130}, []int{s}},
		{[]byte{226, 65}, []int{s, 65}},
		{[]byte{226, 130, 65}, []int{s, 65}},
		{[]byte{226, 130, 226, 130, 172}, []int{s, 8364}},
		{[]byte{226, 130, 172, 172}, []int{8364, s}},
		{[]byte{240}, []int{s}},
		{[]byte{240, 159}, []int{s}},
		{[]byte{240, 159, 152}, []int{s}},
		{[]byte{240, 65}, []int{s, 65}},
		{[]byte{240, 159, 65}, []int{s, 65}},
		{[]byte{240, 159, 152, 65}, []int{s, 65}},
		{[]byte{240, 159, 152, 195, 169}, []int{s, 233}},
		{[]byte{240, 159, 240, 159, 152, 128}, []int{s, 128512}},
		{[]byte{240, 159, 152, 128, 128}, []int{128512, s}},
		{[]byte{240, 240, 240}, []int{s, s, s}},
		{[]byte{240, 159, 152, 0}, []int{s, 0}},
		{[]byte{240, 159, 152, 127}, []int{s, 127}},
		{[]byte{240, 159, 152, 192}, []int{s, s}},
	})
}

func TestUtfReadSecondBytes(t *testing.T) {
	const s = standIn
	checkReads(t, []readCase{
		{[]byte{224, 159, 128}, []int{s, s, s}},
		{[]byte{224, 160, 128}, []int{2048}},
		{[]byte{224, 191, 191}, []int{4095}},
		{[]byte{224, 192, 128}, []int{s, s, s}},
		{[]byte{225, 127, 128}, []int{s, 127, s}},
		{[]byte{225, 128, 128}, []int{4096}},
		{[]byte{236, 191, 191}, []int{53247}},
		{[]byte{237, 127, 128}, []int{s, 127, s}},
		{[]byte{237, 128, 128}, []int{53248}},
		{[]byte{237, 159, 191}, []int{55295}},
		{[]byte{237, 160, 128}, []int{s, s, s}},
		{[]byte{237, 191, 191}, []int{s, s, s}},
		{[]byte{238, 128, 128}, []int{57344}},
		{[]byte{240, 143, 191, 191}, []int{s, s, s, s}},
		{[]byte{240, 144, 128, 128}, []int{65536}},
		{[]byte{240, 191, 191, 191}, []int{262143}},
		{[]byte{240, 192, 128, 128}, []int{s, s, s, s}},
		{[]byte{241, 128, 128, 128}, []int{262144}},
		{[]byte{243, 191, 191, 191}, []int{1048575}},
		{[]byte{244, 127, 128, 128}, []int{s, 127, s, s}},
		{[]byte{244, 128, 128, 128}, []int{1048576}},
		{[]byte{244, 143, 191, 191}, []int{1114111}},
		{[]byte{244, 144, 128, 128}, []int{s, s, s, s}},
		{[]byte{224, 160, 192}, []int{s, s}},
		{[]byte{237, 159, 127}, []int{s, 127}},
		{[]byte{240, 144, 192, 128}, []int{s, s, s}},
		{[]byte{244, 143, 128, 192}, []int{s, s}},
		{[]byte{192, 128}, []int{s, s}},
		{[]byte{193, 191}, []int{s, s}},
		{[]byte{245, 128, 128, 128}, []int{s, s, s, s}},
	})
}

func TestUtfReadBytesThatBeginNothing(t *testing.T) {
	for x := 128; x < 256; x++ {
		if x >= 194 && x <= 244 {
			continue
		}
		b := byte(x)
		checkReads(t, []readCase{
			{[]byte{b}, []int{standIn}},
			{[]byte{65, b, 66}, []int{65, standIn, 66}},
			{[]byte{b, b}, []int{standIn, standIn}},
			{[]byte{b, 195, 169}, []int{standIn, 233}},
		})
		if impl.UtfOk([]byte{b}) {
			t.Errorf("UtfOk of the byte %d is true", x)
		}
	}
}

func TestUtfReadMaxPage(t *testing.T) {
	const n = impl.MaxPage
	checkReads(t, []readCase{{nil, nil}, {[]byte{}, nil}})
	cases := []struct {
		name string
		b    []byte
		want []int
	}{
		{"letters", bytes.Repeat([]byte("a"), n), repeated(97, n)},
		{"bad bytes", bytes.Repeat([]byte{255}, n), repeated(standIn, n)},
		{"two bytes each", bytes.Repeat([]byte{195, 169}, n/2), repeated(233, n/2)},
		{"a mark first", joined(mark, bytes.Repeat([]byte("a"), n-3)), repeated(97, n-3)},
		{"a form that the end cuts", joined(bytes.Repeat([]byte("a"), n-3), []byte{240, 159, 152}), joined(repeated(97, n-3), []int{standIn})},
	}
	for _, c := range cases {
		if got := impl.UtfRead(c.b); !slices.Equal(got, c.want) {
			t.Errorf("%s: UtfRead of MaxPage bytes has %d points, want %d", c.name, len(got), len(c.want))
		}
		more := joined(c.b, []byte("a"))
		if got := impl.UtfRead(more); len(got) != 0 {
			t.Errorf("%s: UtfRead of MaxPage + 1 bytes has %d points, want none", c.name, len(got))
		}
		if impl.UtfOk(more) {
			t.Errorf("%s: UtfOk of MaxPage + 1 bytes is true", c.name)
		}
	}
}

func TestUtfOk(t *testing.T) {
	const n = impl.MaxPage
	good := [][]byte{
		nil, {}, {0}, []byte("a\r\n"), []byte("\u00e9\u20ac\U0001f600"), []byte("\ufffd"), []byte("a\ufffd"),
		joined([]byte("x"), mark), {127}, {194, 128}, {237, 159, 191}, {238, 128, 128}, {244, 143, 191, 191},
		bytes.Repeat([]byte("a"), n), bytes.Repeat([]byte{226, 130, 172}, n/3),
	}
	for _, b := range good {
		if !impl.UtfOk(b) {
			t.Errorf("UtfOk of %d bytes %.20v is false", len(b), b)
		}
	}
	bad := [][]byte{
		mark, joined(mark, mark), joined(mark, []byte("x")), {128}, {255}, {194}, {226, 130}, {240, 159, 152},
		{192, 128}, {224, 159, 191}, {237, 160, 128}, {240, 143, 191, 191}, {244, 144, 128, 128}, {97, 255, 98},
		bytes.Repeat([]byte("a"), n+1), bytes.Repeat([]byte{195, 169}, n/2+1), joined(bytes.Repeat([]byte("a"), n-1), []byte{195}),
	}
	for _, b := range bad {
		if impl.UtfOk(b) {
			t.Errorf("UtfOk of %d bytes %.20v is true", len(b), b)
		}
	}
}

func TestLinesOf(t *testing.T) {
	cases := []struct{ list, want []int }{
		{nil, nil},
		{[]int{}, nil},
		{[]int{65, 66}, []int{65, 66}},
		{[]int{10}, []int{10}},
		{[]int{13}, []int{10}},
		{[]int{13, 10}, []int{10}},
		{[]int{10, 13}, []int{10, 10}},
		{[]int{13, 13}, []int{10, 10}},
		{[]int{13, 13, 10}, []int{10, 10}},
		{[]int{13, 10, 10}, []int{10, 10}},
		{[]int{13, 10, 13}, []int{10, 10}},
		{[]int{13, 10, 13, 10}, []int{10, 10}},
		{[]int{65, 13, 66, 13, 10, 67, 13}, []int{65, 10, 66, 10, 67, 10}},
		{[]int{-1, 55296, 1114112, 12, 14, 9, 133, 8232}, []int{-1, 55296, 1114112, 12, 14, 9, 133, 8232}},
		{[]int{13, -1, 13, math.MaxInt, math.MinInt}, []int{10, -1, 10, math.MaxInt, math.MinInt}},
	}
	for _, c := range cases {
		if got := impl.LinesOf(c.list); !slices.Equal(got, c.want) {
			t.Errorf("LinesOf(%v) = %v, want %v", c.list, got, c.want)
		}
	}
}

func TestLinesOfMaxPage(t *testing.T) {
	const n = impl.MaxPage
	cases := []struct{ list, want []int }{
		{repeated(65, n), repeated(65, n)},
		{repeated(13, n), repeated(10, n)},
		{slices.Repeat([]int{13, 10}, n/2), repeated(10, n/2)},
		{joined(repeated(65, n-1), []int{13}), joined(repeated(65, n-1), []int{10})},
	}
	for _, c := range cases {
		if got := impl.LinesOf(c.list); !slices.Equal(got, c.want) {
			t.Errorf("LinesOf of MaxPage numbers has %d, want %d", len(got), len(c.want))
		}
		if got := impl.LinesOf(append(c.list, 10)); len(got) != 0 {
			t.Errorf("LinesOf of MaxPage + 1 numbers has %d, want none", len(got))
		}
	}
}

// A rule of its own, to hold LinesOf against: all rows of up to six of 13, 10 and 65.
func TestLinesEndByTenAlone(t *testing.T) {
	rows := [][]byte{{}}
	for i := 0; i < len(rows); i++ {
		row := rows[i]
		text := bytes.ReplaceAll(bytes.ReplaceAll(row, []byte("\r\n"), []byte("\n")), []byte("\r"), []byte("\n"))
		got := impl.LinesOf(numbers(row))
		if !slices.Equal(got, numbers(text)) || slices.Contains(got, 13) {
			t.Errorf("LinesOf(%v) = %v, want %v", row, got, text)
		}
		if len(row) == 6 {
			continue
		}
		for _, x := range []byte{13, 10, 65} {
			rows = append(rows, joined(row, []byte{x}))
		}
	}
}

func numbers(b []byte) []int {
	out := make([]int, len(b))
	for i, x := range b {
		out[i] = int(x)
	}
	return out
}

// beginnings holds what stands ahead of the last byte in a right form, each with less than the whole form.
func beginnings() map[string]bool {
	set := map[string]bool{}
	for x := rune(128); x <= utf8.MaxRune; x++ {
		if !utf8.ValidRune(x) {
			continue
		}
		s := string(x)
		for n := 1; n < len(s); n++ {
			set[s[:n]] = true
		}
	}
	return set
}

// expectedRead is a slower rule of its own: the longest beginning of a right form, by the library's utf8.
func expectedRead(b []byte, begun map[string]bool) []int {
	b = bytes.TrimPrefix(b, mark)
	var out []int
	for len(b) > 0 {
		r, size := utf8.DecodeRune(b)
		if r == utf8.RuneError && size == 1 {
			for size < len(b) && begun[string(b[:size+1])] {
				size++
			}
		}
		out = append(out, int(r))
		b = b[size:]
	}
	return out
}

func checkAgainstRule(t *testing.T, b []byte, begun map[string]bool) {
	t.Helper()
	got, want := impl.UtfRead(b), expectedRead(b, begun)
	if !slices.Equal(got, want) {
		t.Fatalf("UtfRead(%v) = %v, want %v", b, got, want)
	}
	for _, x := range got {
		if !impl.PointOk(x) {
			t.Fatalf("UtfRead(%v) has %d, which is no point", b, x)
		}
	}
	if ok := utf8.Valid(b) && !bytes.HasPrefix(b, mark); impl.UtfOk(b) != ok {
		t.Fatalf("UtfOk(%v) = %v, want %v", b, !ok, ok)
	}
}

func TestUtfReadOfAnyTwoBytes(t *testing.T) {
	begun := beginnings()
	for x := range 256 {
		checkAgainstRule(t, []byte{byte(x)}, begun)
		for y := range 256 {
			checkAgainstRule(t, []byte{byte(x), byte(y)}, begun)
			checkAgainstRule(t, []byte{byte(x), byte(y), 128, 191, 65}, begun)
		}
	}
}

func TestUtfReadOfRowsOfEdgeBytes(t *testing.T) {
	edges := []byte{0, 65, 127, 128, 143, 144, 159, 160, 187, 191, 192, 193, 194, 223, 224, 225, 236, 237, 238, 239, 240, 241, 243, 244, 245, 255}
	begun := beginnings()
	for _, w := range edges {
		for _, x := range edges {
			for _, y := range edges {
				for _, z := range edges {
					checkAgainstRule(t, []byte{w, x, y, z}, begun)
				}
			}
		}
	}
}

func FuzzUtfRead(f *testing.F) {
	begun := beginnings()
	f.Add([]byte("a\xff\xe2\x82b\xf0\x9f\x98\xc3\xa9\xed\xa0\x80"))
	f.Add(joined(mark, mark, []byte("x")))
	f.Fuzz(func(t *testing.T, b []byte) {
		if len(b) > impl.MaxPage {
			if len(impl.UtfRead(b)) != 0 || impl.UtfOk(b) {
				t.Fatal("more than MaxPage bytes are read")
			}
			return
		}
		checkAgainstRule(t, b, begun)
	})
}

func TestPointsAreReadBackInRows(t *testing.T) {
	row := []int{0, 127, 128, 2047, 2048, 55295, 57344, 65279, 65533, 65535, 65536, 1114111, 10, 13}
	for turn := range row {
		list := joined(row[turn:], row[:turn])
		want := list
		if list[0] == 65279 {
			want = list[1:]
		}
		if got := impl.UtfRead(impl.PointsPut(list)); !slices.Equal(got, want) {
			t.Errorf("UtfRead(PointsPut(%v)) = %v", list, got)
		}
	}
}

func TestPointsWriteIntoNoArgument(t *testing.T) {
	texts := [][]byte{
		nil, []byte("plain"), joined(mark, []byte("x")), {194}, {226, 130}, {240, 159, 152}, {255, 128, 65},
		bytes.Repeat([]byte("a"), impl.MaxPage), bytes.Repeat([]byte("a"), impl.MaxPage+1),
	}
	for _, b := range texts {
		// 128 behind a form that ends too soon would complete it, if the room behind were read.
		checkOwnMemory(t, "UtfRead", b, 128, -7, impl.UtfRead)
		g := guard(b, 128)
		impl.UtfOk(g.arg)
		if !g.untouched() {
			t.Errorf("UtfOk(%v) wrote into its argument or the room behind it", b)
		}
	}
	lists := [][]int{
		nil, {65}, {65, 66, 67}, {13, 10, 13}, {13}, {-1, 1114112, 233},
		repeated(65, impl.MaxPage), repeated(13, impl.MaxPage+1),
	}
	for _, list := range lists {
		checkOwnMemory(t, "PointsPut", list, 10, 7, impl.PointsPut)
		checkOwnMemory(t, "LinesOf", list, 10, -7, impl.LinesOf)
	}
}

func TestNothingBehindTheArgumentIsRead(t *testing.T) {
	text := []byte{226, 130, 172}
	if got := impl.UtfRead(text[:2]); !slices.Equal(got, []int{standIn}) {
		t.Errorf("UtfRead of two bytes of three = %v", got)
	}
	list := []int{13, 10}
	if got := impl.LinesOf(list[:1]); !slices.Equal(got, []int{10}) {
		t.Errorf("LinesOf of 13 with 10 in the spare room = %v", got)
	}
	if impl.UtfOk(text[:2]) {
		t.Error("UtfOk of two bytes of three is true")
	}
}

func TestPointPutAnswersOwnMemory(t *testing.T) {
	for _, x := range []int{65, 233, 8364, 128512, -1} {
		first, second := impl.PointPut(x), impl.PointPut(x)
		want := slices.Clone(second)
		overwrite(first, 7)
		if !bytes.Equal(second, want) || !bytes.Equal(impl.PointPut(x), want) {
			t.Errorf("PointPut(%d): two answers share memory", x)
		}
	}
}
