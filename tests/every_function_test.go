package tests

import (
	"cmp"
	"fmt"
	"go/ast"
	"go/parser"
	"go/token"
	"hash/fnv"
	"math"
	"math/rand"
	"path/filepath"
	"reflect"
	"runtime"
	"slices"
	"strings"
	"testing"

	"loop.example/g00118/impl"
)

// everyFunction has each function of all chapters by its name.
func everyFunction() map[string]any {
	return map[string]any{
		"PointOk": impl.PointOk, "PointPut": impl.PointPut, "PointsPut": impl.PointsPut, "UtfRead": impl.UtfRead, "UtfOk": impl.UtfOk, "LinesOf": impl.LinesOf,
		"IsBlank": impl.IsBlank, "IsAlpha": impl.IsAlpha, "LowerOf": impl.LowerOf, "DigitOf": impl.DigitOf, "LowerText": impl.LowerText, "NameOk": impl.NameOk,
		"Refs": impl.Refs, "RefNumber": impl.RefNumber, "RefRead": impl.RefRead,
		"AttrsOk": impl.AttrsOk, "AttrOf": impl.AttrOf, "AttrAdd": impl.AttrAdd, "AttrsSame": impl.AttrsSame, "TokenOk": impl.TokenOk,
		"NextToken": impl.NextToken, "Tokens": impl.Tokens,
		"TreeOk": impl.TreeOk, "TreeNew": impl.TreeNew, "TreeAdd": impl.TreeAdd, "TreeHang": impl.TreeHang, "TreeTake": impl.TreeTake, "TreeWrite": impl.TreeWrite, "TreeTidy": impl.TreeTidy, "TreeSame": impl.TreeSame,
		"PutNum": impl.PutNum, "GetNum": impl.GetNum, "PutText": impl.PutText, "GetText": impl.GetText, "TreePack": impl.TreePack, "TreeRead": impl.TreeRead,
		"Escape": impl.Escape, "IsVoid": impl.IsVoid, "IsRaw": impl.IsRaw, "PrintOf": impl.PrintOf, "TextOf": impl.TextOf,
		"IsFormat": impl.IsFormat, "IsBlock": impl.IsBlock, "IsHeading": impl.IsHeading, "IsHead": impl.IsHead, "IsSpecial": impl.IsSpecial, "IsImplied": impl.IsImplied, "IsBound": impl.IsBound,
		"StackOk": impl.StackOk, "InScope": impl.InScope, "OpenAt": impl.OpenAt, "PopTo": impl.PopTo, "PopImplied": impl.PopImplied,
		"FmtsOk": impl.FmtsOk, "FmtPush": impl.FmtPush, "FmtClear": impl.FmtClear, "FmtFind": impl.FmtFind, "FmtLess": impl.FmtLess,
		"BuildOk": impl.BuildOk, "BuildNew": impl.BuildNew, "BuildRebuild": impl.BuildRebuild, "BuildAdopt": impl.BuildAdopt, "BuildClose": impl.BuildClose, "BuildTake": impl.BuildTake,
		"ParsePoints": impl.ParsePoints, "ParsePage": impl.ParsePage, "PageTitle": impl.PageTitle, "PageLinks": impl.PageLinks, "PageCount": impl.PageCount,
		"DiskOk": impl.DiskOk, "DiskNew": impl.DiskNew, "SectorOf": impl.SectorOf, "DiskPut": impl.DiskPut, "DiskSync": impl.DiskSync, "DiskCrash": impl.DiskCrash,
		"HeadPack": impl.HeadPack, "HeadRead": impl.HeadRead, "HeadNow": impl.HeadNow, "HeadPut": impl.HeadPut, "AreaPut": impl.AreaPut, "AreaGet": impl.AreaGet,
		"UrlOk": impl.UrlOk, "RecordPack": impl.RecordPack, "RecordRead": impl.RecordRead, "Records": impl.Records, "IndexOf": impl.IndexOf, "IndexFind": impl.IndexFind, "IndexPack": impl.IndexPack,
		"ArchiveOk": impl.ArchiveOk, "ArchiveNew": impl.ArchiveNew, "ArchiveKeep": impl.ArchiveKeep, "ArchiveDrop": impl.ArchiveDrop, "ArchiveGet": impl.ArchiveGet, "ArchiveUrls": impl.ArchiveUrls,
		"ArchiveCompact": impl.ArchiveCompact, "ArchiveCrash": impl.ArchiveCrash, "ArchiveOpen": impl.ArchiveOpen,
		"DeedOk": impl.DeedOk, "ArchiveDo": impl.ArchiveDo, "ArchiveRun": impl.ArchiveRun,
		"NumText": impl.NumText, "HexText": impl.HexText, "HexBytes": impl.HexBytes, "ArchiveLine": impl.ArchiveLine, "Session": impl.Session,
	}
}

// zeroBesideRefused are the functions whose last result tells whether it was done, and where all else is zero if not: the
// chapter names nothing else there.
const zeroBesideRefused = " AttrOf GetNum GetText TreePack TreeRead ParsePoints ParsePage SectorOf DiskSync DiskCrash HeadPack HeadRead AreaGet " +
	"RecordPack RecordRead Records IndexFind IndexPack ArchiveGet ArchiveUrls HexBytes "

// begun is what is built of a page whose end has not come yet.
func begun(page string) impl.Build {
	b, points := impl.BuildNew(), pointsOf(page)
	for at := 0; at < len(points); {
		var next impl.Token
		next, at = impl.NextToken(points, at, b.Cut, b.Last)
		b = impl.BuildTake(b, next)
	}
	return b
}

func parsed(page string) impl.Tree {
	tree, _ := impl.ParsePage([]byte(page))
	return tree
}

func valuesOf[T any](list ...T) []reflect.Value {
	values := []reflect.Value{}
	for _, x := range list {
		values = append(values, reflect.ValueOf(x))
	}
	return values
}

// rightValues are values that are right in some place, by their type.
func rightValues() map[reflect.Type][]reflect.Value {
	attrs := []impl.Attr{{Name: "id", Value: "1"}, {Name: "href", Value: "a&b"}}
	packed, _ := impl.TreePack(parsed("<title>T</title><p id=1>x"))
	groups := [][]reflect.Value{
		valuesOf(0, 1, 2, 3, 4, 5, 9, 10, 16, 38, 65, 160),
		valuesOf(false, true),
		valuesOf("", "a", "p", "b", "html", "x y", "keep a 3c703e78", "list\nkeep u -\nget u", "610a", "&amp;<b>", strings.Repeat("s", impl.SectorSize), headSector(head(3, 1, 70))),
		valuesOf([]byte{}, []byte("<p><b>1<p>2</b>3"), []byte("\xef\xbb\xbfé\xff"), packed, packedRecords(keeping("a", "x"), dropping("b")), []byte("\x02abc"), sampleBytes(100)),
		valuesOf([]int{}, []int{1}, []int{1, 3}, []int{1, 3, 4}, []int{-1}, []int{4, -1, 5}, pointsOf("&copy;2"), pointsOf("<p id=\"1\">x&#65;</p><!--c--><!doctype html>\r\n</title>")),
		valuesOf(attrs[0], impl.Attr{Name: "new", Value: ""}),
		valuesOf(attrs, attrs[:1], []impl.Attr{}, manyAttrs(20)),
		valuesOf(end(), char("x"), comment("c"), doctype("html"), opens("b", "id", "1"), opens("p"), opens("title"), opens("body", "x", "1"), opens("html", "x", "1"), opens("a"), opens("nobr"), closes("b"), closes("p"), closes("html")),
		valuesOf(elementNode("p", -1), textNode("x", -1), commentNode("c", -1), doctypeNode("html", -1), withAttrs(elementNode("b", -1), attrs...)),
		valuesOf(impl.TreeNew(), sampleTree(), fullTree(), parsed("<title>T</title><p><b>1<p>2</b>3<a href=x>y")),
		valuesOf(impl.BuildNew(), begun("<p><b>1<i>2</p>"), begun("<b><div><i>x"), begun("<a>1<object><a>2<b>"), begun("</head><title>x")),
		valuesOf(impl.DiskNew(), diskWith(putsTo(3, 70, 3)...), manyPuts(200, 130)),
		valuesOf(head(1, 0, 0), head(lastNo, 1, 4096), head(2, 1, 70)),
		valuesOf(keeping("a", "x"), dropping("a")),
		valuesOf([]impl.Record{}, []impl.Record{keeping("b", "x"), keeping("a", "y"), dropping("b")}),
		valuesOf([]impl.Entry{}, []impl.Entry{entry("a", "x"), entry("b", "")}),
		valuesOf(impl.ArchiveNew(), twoKept(), downOf(twoKept())),
		valuesOf(deedKeep("n", "<p>x"), tornAt(deedDrop("a"), 3, 1), deedOf(doCompact), deedOf(doCrash), deedOf(doOpen)),
		valuesOf([]impl.Deed{}, []impl.Deed{deedKeep("n", "<p>x"), tornAt(deedDrop("a"), 1, 1), deedOf(doOpen)}),
	}
	all := map[reflect.Type][]reflect.Value{}
	for _, values := range groups {
		all[values[0].Type()] = values
	}
	return all
}

func oddNumbers() []int {
	return []int{-1, 0, 1, 2, 3, 4, 6, 8, 9, 61, 500, 4097, math.MaxInt, math.MinInt, 1<<32 + 1}
}

func oddTexts() []string {
	return []string{"", "b", "html", "P", " ", "\x00", "\xff", "-", strings.Repeat("x", 61), strings.Repeat("x", 3001), strings.Repeat("\xff", 70000)}
}

// farNumbersAndTexts are for what is an argument itself.
func farNumbersAndTexts() map[reflect.Type][]reflect.Value {
	return map[reflect.Type][]reflect.Value{
		reflect.TypeFor[int]():    valuesOf(farNumbers()...),
		reflect.TypeFor[string](): valuesOf(joined(sampleTexts(), wrongUrls(), noPages(), noLines()[:30], []string{strings.Repeat("\n", 101), strings.Repeat("x", 20001), strings.Repeat(" ", 300000)})...),
		reflect.TypeFor[[]byte](): valuesOf([]byte(tooDeep()), []byte(tooLarge()), []byte(tooLong()), bytesOf(300000), []byte(strings.Repeat("\x80", 20001)), []byte("\xff\xff\xff\xff\xff\xff\xff\xff\x7f")),
		reflect.TypeFor[[]int]():  valuesOf(repeated(38, 3001), repeated(math.MinInt, 3000), repeated(math.MaxInt, 50), numbersFrom(-5, 505), repeated(1, 100000)),
	}
}

func bytesOf(size int) []byte {
	return []byte(strings.Repeat("<", size))
}

// tooMany is more than any list of a struct may have.
const tooMany = 1001

// turnedOnes are copies of a value in each of which one part is turned.
func turnedOnes(v reflect.Value) []reflect.Value {
	switch v.Kind() {
	case reflect.Int:
		return valuesOf(oddNumbers()...)
	case reflect.String:
		return valuesOf(oddTexts()...)
	case reflect.Bool:
		return valuesOf(!v.Bool())
	case reflect.Uint8:
		return valuesOf[byte](0, 1, 127, 128, 255)
	case reflect.Slice:
		return turnedLists(v)
	}
	all := []reflect.Value{reflect.Zero(v.Type())}
	for field := range v.NumField() {
		for _, part := range turnedOnes(v.Field(field)) {
			turned := reflect.New(v.Type()).Elem()
			turned.Set(v)
			turned.Field(field).Set(part)
			all = append(all, turned)
		}
	}
	return all
}

func turnedLists(v reflect.Value) []reflect.Value {
	size := v.Len()
	zero := reflect.Zero(v.Type().Elem())
	long := reflect.MakeSlice(v.Type(), tooMany, tooMany)
	all := []reflect.Value{reflect.Zero(v.Type()), v.Slice(0, 0), reflect.AppendSlice(bareOf(v), v), reflect.Append(bareOf(v), zero), long}
	if size == 0 {
		return all
	}
	same := reflect.MakeSlice(v.Type(), tooMany, tooMany)
	for at := range tooMany {
		same.Index(at).Set(v.Index(at % size))
	}
	all = append(all, v.Slice(0, size-1), v.Slice(1, size), same)
	for _, at := range slices.Compact([]int{0, size / 2, size - 1}) {
		for _, part := range turnedOnes(v.Index(at)) {
			turned := bareOf(v)
			turned.Index(at).Set(part)
			all = append(all, turned)
		}
	}
	return all
}

// isPlain tells that a value of the type has no list in it.
func isPlain(typ reflect.Type) bool {
	if typ.Kind() == reflect.Struct {
		for field := range typ.NumField() {
			if !isPlain(typ.Field(field).Type) {
				return false
			}
		}
		return true
	}
	return typ.Kind() != reflect.Slice
}

// copied is a deep copy, in which each list is made by the function given.
func copied(v reflect.Value, list func(reflect.Value) reflect.Value) reflect.Value {
	if isPlain(v.Type()) {
		return v
	}
	own := reflect.New(v.Type()).Elem()
	if v.Kind() == reflect.Slice {
		own.Set(list(v))
		if !isPlain(v.Type().Elem()) {
			for at := range own.Len() {
				own.Index(at).Set(copied(own.Index(at), list))
			}
		}
		return own
	}
	for field := range v.NumField() {
		own.Field(field).Set(copied(v.Field(field), list))
	}
	return own
}

// bareOf has no room behind its lists, and nil where they are empty.
func bareOf(v reflect.Value) reflect.Value {
	return copied(v, func(list reflect.Value) reflect.Value {
		if list.Len() == 0 {
			return reflect.Zero(list.Type())
		}
		own := reflect.MakeSlice(list.Type(), list.Len(), list.Len())
		reflect.Copy(own, list)
		return own
	})
}

// roomyOf has filled room behind its lists, also behind those that are empty.
func roomyOf(v reflect.Value) reflect.Value {
	return copied(v, func(list reflect.Value) reflect.Value {
		size := list.Len()
		own := reflect.MakeSlice(list.Type(), size+spareRoom, size+spareRoom)
		reflect.Copy(own, list)
		for at := size; at < size+spareRoom; at++ {
			own.Index(at).Set(fillerOf(list.Type().Elem()))
		}
		return own.Slice(0, size)
	})
}

// wholeOf has the room behind its lists as a part of them.
func wholeOf(v reflect.Value) reflect.Value {
	return copied(v, func(list reflect.Value) reflect.Value {
		own := reflect.MakeSlice(list.Type(), list.Cap(), list.Cap())
		reflect.Copy(own, list.Slice(0, list.Cap()))
		return own
	})
}

func fillerOf(typ reflect.Type) reflect.Value {
	filler := reflect.New(typ).Elem()
	switch typ.Kind() {
	case reflect.Int:
		filler.SetInt(-7)
	case reflect.Uint8:
		filler.SetUint(77)
	case reflect.String:
		filler.SetString("filler")
	case reflect.Struct:
		for field := range typ.NumField() {
			filler.Field(field).Set(fillerOf(typ.Field(field).Type))
		}
	}
	return filler
}

func eachOf(list []reflect.Value, turn func(reflect.Value) reflect.Value) []reflect.Value {
	all := make([]reflect.Value, len(list))
	for at, v := range list {
		all[at] = turn(v)
	}
	return all
}

func sameValues(a []reflect.Value, b []reflect.Value) bool {
	return slices.EqualFunc(a, b, func(x, y reflect.Value) bool { return reflect.DeepEqual(x.Interface(), y.Interface()) })
}

// A span is where a list stands, with the room behind it.
type span struct{ from, to uintptr }

func spansOf(v reflect.Value, spans []span) []span {
	switch {
	case isPlain(v.Type()):
	case v.Kind() == reflect.Slice:
		if v.Cap() > 0 {
			spans = append(spans, span{v.Pointer(), v.Pointer() + uintptr(v.Cap())*v.Type().Elem().Size()})
		}
		if !isPlain(v.Type().Elem()) {
			for at := range v.Len() {
				spans = spansOf(v.Index(at), spans)
			}
		}
	default:
		for field := range v.NumField() {
			spans = spansOf(v.Field(field), spans)
		}
	}
	return spans
}

func shareMemory(values ...[]reflect.Value) bool {
	spans := []span{}
	for _, v := range slices.Concat(values...) {
		spans = spansOf(v, spans)
	}
	slices.SortFunc(spans, func(a, b span) int { return cmp.Compare(a.from, b.from) })
	for at := 1; at < len(spans); at++ {
		if spans[at].from < spans[at-1].to {
			return true
		}
	}
	return false
}

func shownArgs(args []reflect.Value) string {
	all := []string{}
	for _, v := range args {
		all = append(all, short(fmt.Sprintf("%+v", v.Interface())))
	}
	return strings.Join(all, ", ")
}

// called tells what the function answers, or what it panicked with.
func called(f reflect.Value, args []reflect.Value) (answer []reflect.Value, panicked any) {
	defer func() { panicked = recover() }()
	return f.Call(args), nil
}

// checkAsked goes by promise 21: the function answers, writes into no argument nor behind one, and its answer is new
// memory. Asked again it answers the same, also where a list that was empty is nil, and no list has room behind it.
func checkAsked(t *testing.T, name string, f reflect.Value, args []reflect.Value) {
	roomy, bare := eachOf(args, roomyOf), eachOf(args, bareOf)
	before := eachOf(roomy, wholeOf)
	first, panicked := called(f, roomy)
	if panicked != nil {
		t.Fatalf("%s(%s) panics: %v", name, shownArgs(args), panicked)
	}
	if !sameValues(eachOf(roomy, wholeOf), before) {
		t.Fatalf("%s(%s) writes into an argument, or behind one", name, shownArgs(args))
	}
	second, panicked := called(f, bare)
	if panicked != nil {
		t.Fatalf("%s(%s) panics, asked again: %v", name, shownArgs(args), panicked)
	}
	if !sameValues(eachOf(first, bareOf), eachOf(second, bareOf)) {
		t.Fatalf("%s(%s) = %s, asked again %s", name, shownArgs(args), shownArgs(first), shownArgs(second))
	}
	if shareMemory(roomy, bare, first, second) {
		t.Fatalf("%s(%s): the answer shares memory with an argument, with another answer or within itself", name, shownArgs(args))
	}
	runtime.KeepAlive([][]reflect.Value{roomy, bare, first, second})
	checkZeroBeside(t, name, args, eachOf(first, bareOf))
}

func checkZeroBeside(t *testing.T, name string, args []reflect.Value, answer []reflect.Value) {
	if !strings.Contains(zeroBesideRefused, " "+name+" ") {
		return
	}
	last := answer[len(answer)-1]
	if last.IsZero() == (last.Kind() == reflect.Int) {
		return
	}
	for _, v := range answer[:len(answer)-1] {
		if !v.IsZero() {
			t.Fatalf("%s(%s) = %s: something stands beside what was refused", name, shownArgs(args), shownArgs(answer))
		}
	}
}

// The numbers of calls in which arguments are taken together.
const (
	rightTogether = 600
	wrongBeside   = 2
	wrongTogether = 400
)

// An asking has for each argument of a function what is right in some place, and what is wrong in some.
type asking struct {
	right, wrong [][]reflect.Value
	chance       *rand.Rand
}

func askingOf(name string, f reflect.Type) asking {
	seed := fnv.New32()
	seed.Write([]byte(name))
	asked := asking{chance: rand.New(rand.NewSource(int64(seed.Sum32())))}
	rights, fars := rightValues(), farNumbersAndTexts()
	for at := range f.NumIn() {
		right := rights[f.In(at)]
		wrong := append([]reflect.Value{reflect.Zero(f.In(at))}, fars[f.In(at)]...)
		for _, v := range right {
			wrong = append(wrong, turnedOnes(v)...)
		}
		asked.right, asked.wrong = append(asked.right, right), append(asked.wrong, wrong)
	}
	return asked
}

func (a asking) anyOf(from [][]reflect.Value) []reflect.Value {
	args := make([]reflect.Value, len(from))
	for at, values := range from {
		args[at] = values[a.chance.Intn(len(values))]
	}
	return args
}

func checkFunction(t *testing.T, name string, f reflect.Value) {
	asked := askingOf(name, f.Type())
	if f.Type().NumIn() == 0 {
		checkAsked(t, name, f, nil)
		return
	}
	for at := range asked.right {
		if len(asked.right[at]) == 0 {
			t.Fatalf("%s: no values of type %v", name, f.Type().In(at))
		}
	}
	for range rightTogether {
		checkAsked(t, name, f, asked.anyOf(asked.right))
	}
	for at, values := range asked.wrong {
		for _, v := range values {
			for range wrongBeside {
				args := asked.anyOf(asked.right)
				args[at] = v
				checkAsked(t, name, f, args)
			}
		}
	}
	for range wrongTogether {
		checkAsked(t, name, f, asked.anyOf(asked.wrong))
	}
}

// TestEveryFunction goes by promise 21: every function answers at any arguments, and writes into none.
func TestEveryFunction(t *testing.T) {
	for name, f := range everyFunction() {
		t.Run(name, func(t *testing.T) {
			t.Parallel()
			checkFunction(t, name, reflect.ValueOf(f))
		})
	}
}

// TestEveryFunctionIsAsked holds the list above against the program itself.
func TestEveryFunctionIsAsked(t *testing.T) {
	files, err := filepath.Glob("../impl/*.go")
	if err != nil || len(files) != 20 {
		t.Fatal(files, err)
	}
	there := everyFunction()
	for _, file := range files {
		parsed, err := parser.ParseFile(token.NewFileSet(), file, nil, 0)
		if err != nil {
			t.Fatal(err)
		}
		for _, d := range parsed.Decls {
			f, ok := d.(*ast.FuncDecl)
			if !ok || f.Recv != nil || !f.Name.IsExported() {
				continue
			}
			if _, asked := there[f.Name.Name]; !asked {
				t.Errorf("%s is not asked", f.Name.Name)
			}
			delete(there, f.Name.Name)
		}
	}
	for name := range there {
		t.Errorf("%s is asked, but not there", name)
	}
}

// TestEveryFunctionByManyAtOnce: no function keeps anything from one call to another, however they run.
func TestEveryFunctionByManyAtOnce(t *testing.T) {
	for range 8 {
		t.Run("", func(t *testing.T) {
			t.Parallel()
			for name, f := range everyFunction() {
				asked := askingOf(name, reflect.TypeOf(f))
				for range 10 {
					checkAsked(t, name, reflect.ValueOf(f), asked.anyOf(asked.right))
				}
			}
		})
	}
}
