package tests

import (
	"fmt"
	"go/ast"
	"go/parser"
	"go/token"
	"path/filepath"
	"reflect"
	"slices"
	"strings"
	"sync"
	"testing"
	"unsafe"

	"loop.example/g00228/impl"
)

// call is one of a function that the document lists; nil stands for an argument that is empty.
type call struct {
	name     string
	function any
	given    []any
}

func (c call) String() string {
	return fmt.Sprintf("%s%.300q", c.name, shownAll(c.values(), false))
}

// values are arguments of memory of their own, with room behind their lists in which something stands.
func (c call) values() []reflect.Value {
	var list []reflect.Value
	kind := reflect.TypeOf(c.function)
	for i, x := range c.given {
		v := reflect.Zero(kind.In(i))
		if x != nil {
			v = reflect.ValueOf(x).Convert(kind.In(i))
		}
		list = append(list, ownValue(v))
	}
	return list
}

const spareRoom = 3

func ownValue(v reflect.Value) reflect.Value {
	same := reflect.New(v.Type()).Elem()
	switch v.Kind() {
	case reflect.String:
		same.SetString(strings.Clone(v.String()))
	case reflect.Struct:
		for i := range v.NumField() {
			same.Field(i).Set(ownValue(v.Field(i)))
		}
	case reflect.Slice:
		same.Set(reflect.MakeSlice(v.Type(), v.Len()+spareRoom, v.Len()+spareRoom))
		for i := range same.Len() {
			one := oddValue(v.Type().Elem())
			if i < v.Len() {
				one = ownValue(v.Index(i))
			}
			same.Index(i).Set(one)
		}
		same.Set(same.Slice(0, v.Len()))
	default:
		same.Set(v)
	}
	return same
}

// oddValue is one that no answer has.
func oddValue(kind reflect.Type) reflect.Value {
	odd := reflect.New(kind).Elem()
	switch kind.Kind() {
	case reflect.String:
		odd.SetString("odd")
	case reflect.Bool:
		odd.SetBool(true)
	case reflect.Int64:
		odd.SetInt(-987654321)
	case reflect.Uint32, reflect.Uint64:
		odd.SetUint(987654321)
	case reflect.Struct:
		for i := range kind.NumField() {
			odd.Field(i).Set(oddValue(kind.Field(i).Type))
		}
	case reflect.Slice:
		odd.Set(reflect.Append(odd, oddValue(kind.Elem())))
	}
	return odd
}

// shownValue tells all of it, what stands behind its lists, too, where that is wanted; an empty list is shown as nil is.
func shownValue(v reflect.Value, behind bool) string {
	var parts []string
	switch v.Kind() {
	case reflect.Struct:
		for i := range v.NumField() {
			parts = append(parts, shownValue(v.Field(i), behind))
		}
	case reflect.Slice:
		if behind {
			v = v.Slice(0, v.Cap())
		}
		for i := range v.Len() {
			parts = append(parts, shownValue(v.Index(i), behind))
		}
	default:
		return fmt.Sprintf("%#v", v.Interface())
	}
	return "{" + strings.Join(parts, " ") + "}"
}

func shownAll(list []reflect.Value, behind bool) []string {
	var shown []string
	for _, v := range list {
		shown = append(shown, shownValue(v, behind))
	}
	return shown
}

// span is where a text or a list, with the room behind it, lies in memory.
type span struct {
	from   uintptr
	long   uintptr
	isText bool
}

func spansOf(v reflect.Value) []span {
	var list []span
	switch v.Kind() {
	case reflect.String:
		if s := v.String(); s != "" {
			list = append(list, span{uintptr(unsafe.Pointer(unsafe.StringData(s))), uintptr(len(s)), true})
		}
	case reflect.Struct:
		for i := range v.NumField() {
			list = append(list, spansOf(v.Field(i))...)
		}
	case reflect.Slice:
		if v.Cap() > 0 {
			list = append(list, span{v.Pointer(), uintptr(v.Cap()) * v.Type().Elem().Size(), false})
		}
		for i := range v.Len() {
			list = append(list, spansOf(v.Index(i))...)
		}
	}
	return list
}

func spansOfAll(list []reflect.Value) []span {
	var spans []span
	for _, v := range list {
		spans = append(spans, spansOf(v)...)
	}
	return spans
}

func (s span) meets(other span) bool {
	return s.from < other.from+other.long && other.from < s.from+s.long
}

// spoil writes into all lists, and behind them.
func spoil(v reflect.Value) {
	switch v.Kind() {
	case reflect.Struct:
		for i := range v.NumField() {
			spoil(v.Field(i))
		}
	case reflect.Slice:
		for i := range v.Len() {
			spoil(v.Index(i))
		}
		all := v.Slice(0, v.Cap())
		for i := range all.Len() {
			all.Index(i).Set(oddValue(v.Type().Elem()))
		}
	}
}

func (c call) made(values []reflect.Value) []reflect.Value {
	return reflect.ValueOf(c.function).Call(values)
}

// checkOwnMemory holds an answer against the arguments, and its lists against each other.
func checkOwnMemory(t *testing.T, c call, given []reflect.Value, answer []reflect.Value) {
	t.Helper()
	theirs, own := spansOfAll(given), spansOfAll(answer)
	slices.SortFunc(own, func(a span, b span) int { return int(a.from) - int(b.from) })
	for i, s := range own {
		if slices.ContainsFunc(theirs, s.meets) {
			t.Errorf("%v: the answer shares memory with an argument", c)
		}
		if i > 0 && !s.isText && !own[i-1].isText && s.meets(own[i-1]) {
			t.Errorf("%v: two lists of the answer share memory", c)
		}
	}
}

// checkAgain makes a call three times: behind the first one its answer is written into, ahead of the third one all arguments are made anew.
func checkAgain(t *testing.T, c call) {
	t.Helper()
	given := c.values()
	was := shownAll(given, true)
	first := c.made(given)
	told := shownAll(first, false)
	if !slices.Equal(shownAll(given, true), was) {
		t.Errorf("%v: something was written into an argument, or behind it", c)
	}
	checkOwnMemory(t, c, given, first)
	for _, v := range first {
		// An answer itself is no place that can be written into: its lists are.
		spoil(v)
	}
	if !slices.Equal(shownAll(given, true), was) {
		t.Errorf("%v: what is written into the answer is written into an argument", c)
	}
	for _, values := range [][]reflect.Value{given, c.values()} {
		if again := shownAll(c.made(values), false); !slices.Equal(again, told) {
			t.Errorf("%v: the same arguments give %.300q, not %.300q", c, again, told)
		}
	}
}

func given(list ...any) []any {
	return list
}

func each(name string, function any, lists ...[]any) []call {
	var calls []call
	for _, list := range lists {
		calls = append(calls, call{name, function, list})
	}
	return calls
}

// callsOfOne has one with each of these as the only argument.
func callsOfOne[T any](name string, function any, list ...T) []call {
	var calls []call
	for _, one := range list {
		calls = append(calls, call{name, function, given(one)})
	}
	return calls
}

func callsOfBytesAndDigests() []call {
	texts := []string{"", "\x00", "text", "616263", "6162zz", "\xac\x02z", "\x03abcz", "\x80", "\x09abc", someBytes(1, 200)}
	key := someBytes(2, 32)
	return slices.Concat(
		callsOfOne("PutNum", impl.PutNum, edgeNumbers()...),
		callsOfOne("TakeNum", impl.TakeNum, texts...),
		callsOfOne("PutText", impl.PutText, texts...),
		callsOfOne("TakeText", impl.TakeText, texts...),
		callsOfOne("Crc32", impl.Crc32, texts...),
		callsOfOne("Crc64", impl.Crc64, texts...),
		callsOfOne("Sum", impl.Sum, texts...),
		callsOfOne("Hex", impl.Hex, texts...),
		callsOfOne("Unhex", impl.Unhex, texts...),
		each("Hmac", impl.Hmac, given("", ""), given("key", "data"), given(someBytes(3, 100), someBytes(4, 100))),
		each("Stretch", impl.Stretch, given("password", "salt", 3), given("", "", 1), given("password", "salt", 0), given("password", "salt", 51)),
		each("Times", impl.Times, given(3, 7), given(0, 0), given(300, 255)),
		each("Sub", impl.Sub, given(0), given(83), given(1000)),
		each("Expand", impl.Expand, given(key), given(""), given(key+"x")),
		each("Encrypt", impl.Encrypt, given(key, key[:16]), given(key, ""), given("", key[:16])),
		each("Count", impl.Count, given(key, key[:12], ""), given(key, key[:12], someBytes(5, 100)), given(key, "", "data"), given("", key[:12], "data")),
	)
}

func callsOfSealsToPacks() []call {
	master := masterKey()
	seal, _ := impl.Seal(master, 7, "data")
	choices := someChoices(1, 60, 5, 100)
	code, _ := impl.RangeEncode(choices)
	texts := []string{"", "a", "abcabcabcx", lettersOf(6, 300, "abc"), someBytes(6, 300), strings.Repeat("x", impl.MaxPack+1)}
	packs := []string{"", "\x00", "x"}
	for _, s := range texts {
		pack, _ := impl.Pack(s)
		packs = append(packs, pack)
	}
	tokens, _ := impl.Tokens(texts[3])
	return slices.Concat(
		callsOfOne("Keys", impl.Keys, master, "", master+"x"),
		each("Seal", impl.Seal, given(master, 7, "data"), given(master, 0, ""), given(master, -1, "data"), given("", 7, "data")),
		each("Open", impl.Open, given(master, 7, seal), given(master, 8, seal), given(master, 7, seal+"x"), given("", 7, seal)),
		each("Moved", impl.Moved, given(1024, 0), given(1024, 1), given(0, 0), given(1024, 2)),
		callsOfOne("RangeEncode", impl.RangeEncode, nil, choices, []impl.Choice{{Context: -1}}),
		each("RangeDecode", impl.RangeDecode, given(code, contextsOf(choices)), given(code+"more", nil), given("", nil), given(code, []int64{1, -1}), given(code[:6], contextsOf(choices))),
		each("TokenOk", impl.TokenOk, given(byteToken('a'), 0), given(copyToken(1, 3), 1), given(copyToken(1, 3), 0), given(impl.Token{}, -1)),
		each("Longest", impl.Longest, given("abcabc", 3), given("abcabc", 0), given("abcabc", 9), given(texts[3], 200)),
		callsOfOne("Tokens", impl.Tokens, texts...),
		callsOfOne("Untoken", impl.Untoken, nil, tokens, tokens[1:], []impl.Token{copyToken(1, 3)}),
		callsOfOne("Choices", impl.Choices, texts...),
		callsOfOne("Pack", impl.Pack, texts...),
		callsOfOne("Unpack", impl.Unpack, packs...),
	)
}

func callsOfChunksToTrees() []call {
	shapes := []impl.Shape{smallShape, byPairs, {}, {Least: 5, Bits: 1, Most: 4}}
	text := lettersOf(7, 400, "abcdef")
	var cut []call
	for _, p := range shapes {
		cut = append(cut, each("Cuts", impl.Cuts, given(text, p), given("", p))...)
		cut = append(cut, each("Chunks", impl.Chunks, given(text, p), given("", p))...)
	}
	right := pieces(from(8, 4), data("!"), from(0, 3))
	next := pieces(from(2, 4), data("more"), from(1, 1))
	wrong := pieces(from(-1, 4), data("x"))
	trees := [][]impl.Node{nil, parted(), deepest(), rightOfWords(3), nodes(fileNode("a/b", "x")), nodes(impl.Node{})}
	var looked []call
	for i, tree := range trees {
		looked = append(looked, each("Find", impl.Find, given(tree, "a"), given(tree, "a/x"), given(tree, ""))...)
		looked = append(looked, each("Under", impl.Under, given(tree, "a"), given(tree, "b"), given(tree, ""))...)
		looked = append(looked, each("Changed", impl.Changed, given(tree, trees[(i+1)%len(trees)]), given(tree, tree))...)
	}
	return slices.Concat(cut, looked,
		callsOfOne("ShapeOk", impl.ShapeOk, shapes...),
		each("Gear", impl.Gear, given(0), given(255), given(-1)),
		each("PiecesOk", impl.PiecesOk, given(16, right), given(3, right), given(-1, nil), given(16, wrong)),
		each("DeltaOf", impl.DeltaOf, given(text, text[100:]+"more"+text[:50]), given("", text), given(text, ""), given(text, strings.Repeat("x", 4001))),
		each("Patch", impl.Patch, given("0123456789abcdef", right), given("012", right), given("", nil), given("0123", wrong)),
		each("Compose", impl.Compose, given(right, next), given(right, nil), given(nil, next), given(wrong, next), given(right, wrong)),
		callsOfOne("DeltaText", impl.DeltaText, nil, right, next, wrong),
		callsOfOne("ReadDelta", impl.ReadDelta, "", impl.DeltaText(right), impl.DeltaText(next), impl.DeltaText(next)+"x"),
		callsOfOne("PathOk", impl.PathOk, "", "a", "a/b.go", "A"),
		callsOfOne("Parent", impl.Parent, "", "a", "a/b.go", "A/b"),
		callsOfOne("Extension", impl.Extension, "", "a", "a/b.go", "A.go"),
		callsOfOne("TreeOk", impl.TreeOk, trees...),
		callsOfOne("TreeText", impl.TreeText, trees...),
		callsOfOne("ReadTree", impl.ReadTree, "", "x", impl.TreeText(nil), impl.TreeText(parted()), saidNodes(fileNode("A", "x"))),
	)
}

func callsOfSolidsToChains() []call {
	list := members(member("b.go", "hello"), member("a.txt", "hello hello"), member("a.go", ""), member("x", "\xff"))
	twice := append(slices.Clone(list), list[0])
	var cats []call
	for _, c := range []impl.Catalog{sharing(), {}, manySnaps(20), catalogOf(1, nil)} {
		cats = append(cats, each("Capture", impl.Capture, given(c, parted(), 999999), given(c, nil, 0), given(c, deepest(), -1), given(c, nodes(fileNode("A", "")), 999999))...)
		for _, id := range []int{0, 1, 9, 10} {
			cats = append(cats, each("Restore", impl.Restore, given(c, id))...)
			cats = append(cats, each("Drop", impl.Drop, given(c, id))...)
			cats = append(cats, each("ChunksOf", impl.ChunksOf, given(c, id))...)
		}
		cats = append(cats, callsOfOne("CatalogOk", impl.CatalogOk, c)...)
		cats = append(cats, callsOfOne("CatalogText", impl.CatalogText, c)...)
		cats = append(cats, each("Prune", impl.Prune, given(c, policy(1, 0, 0)), given(c, policy(0, 0, 0)), given(c, policy(50, 50, 50)), given(c, policy(-1, 0, 0)))...)
	}
	times := []int64{0, 5, 86400, 86401, 900000}
	var links []call
	for _, chain := range [][]impl.Link{branched(), nil, deepChain(3), chain(over(0))} {
		for _, n := range []int{-1, 0, 1, 2, 99} {
			links = append(links, each("VersionAt", impl.VersionAt, given(chain, n))...)
			links = append(links, each("DepthAt", impl.DepthAt, given(chain, n))...)
			links = append(links, each("Whole", impl.Whole, given(chain, n))...)
			links = append(links, each("Skip", impl.Skip, given(chain, n))...)
			links = append(links, each("AddVersion", impl.AddVersion, given(chain, "0123456789abcdef and more", n), given(chain, "", n))...)
		}
		links = append(links, callsOfOne("ChainOk", impl.ChainOk, chain)...)
		links = append(links, callsOfOne("ChainBytes", impl.ChainBytes, chain)...)
	}
	return slices.Concat(cats, links,
		callsOfOne("MembersOk", impl.MembersOk, nil, list, twice),
		callsOfOne("Grouped", impl.Grouped, nil, list, twice),
		callsOfOne("SolidOf", impl.SolidOf, nil, list, twice),
		callsOfOne("ReadSolid", impl.ReadSolid, "", saidBlock(), saidBlock(list...), saidBlock(list...)+"x"),
		each("Extract", impl.Extract, given(saidBlock(list...), "b.go"), given(saidBlock(list...), "c"), given("", "b.go")),
		callsOfOne("CatalogNew", impl.CatalogNew, smallShape, impl.Shape{}),
		callsOfOne("ReadCatalog", impl.ReadCatalog, "", saidCatalog(sharing()), saidCatalog(sharing())+"x", saidCatalog(catalogOf(1, nil))),
		callsOfOne("PolicyOk", impl.PolicyOk, policy(1, 2, 3), policy(0, 51, 0)),
		each("WeekOf", impl.WeekOf, given(0), given(86400*30), given(-1)),
		each("Keep", impl.Keep, given(times, policy(1, 2, 1)), given(times, policy(0, 0, 0)), given(nil, policy(1, 1, 1)), given([]int64{5, 1}, policy(1, 1, 1)), given(times, policy(51, 0, 0))),
	)
}

func callsOfDisksToScripts(t *testing.T) []call {
	master := masterKey()
	old, acts := toAnswer(t)
	var calls []call
	for _, d := range []impl.Disk{old, {}, fewOps(), littered(lived(t)), {Live: files(file("a", "x"))}} {
		for _, op := range []impl.DOp{appendOp("a", "more"), removeOp("catalog"), renameOp("catalog", "a"), {}, removeOp("no such")} {
			calls = append(calls, each("Do", impl.Do, given(d, op))...)
		}
		calls = append(calls, each("Crash", impl.Crash, given(d, nil, 0), given(d, allPlaces(d), 1), given(d, []int64{0}, 2), given(d, []int64{1, 0}, 2), given(d, nil, -1))...)
		calls = append(calls, each("ReadFile", impl.ReadFile, given(d, "catalog"), given(d, "a"), given(d, ""))...)
		calls = append(calls, each("Replace", impl.Replace, given(d, "catalog", "new"), given(d, "", "x"))...)
		calls = append(calls, each("RepoView", impl.RepoView, given(d, master), given(d, ""))...)
		for _, a := range acts {
			calls = append(calls, each("RepoDo", impl.RepoDo, given(d, master, a), given(d, "", a), given(d, master, powered(a, 1)))...)
		}
		calls = append(calls, each("RepoPlay", impl.RepoPlay, given(d, master, acts), given(d, master, nil), given(d, "", acts))...)
		calls = append(calls, callsOfOne("DiskOk", impl.DiskOk, d)...)
		calls = append(calls, callsOfOne("Sync", impl.Sync, d)...)
	}
	for _, h := range []impl.Head{shared(), {}, headOf(0, 1, catalogOf(1, nil)), headOf(0, 1, sharing())} {
		calls = append(calls, callsOfOne("HeadOk", impl.HeadOk, h)...)
		calls = append(calls, callsOfOne("HeadText", impl.HeadText, h)...)
		calls = append(calls, callsOfOne("ReadHead", impl.ReadHead, saidHead(h), saidHead(h)+"x", "")...)
	}
	for _, lines := range manyScripts() {
		calls = append(calls, callsOfOne("RunScript", impl.RunScript, script(lines...), script(lines...)+"x")...)
	}
	return calls
}

func allCalls(t *testing.T) []call {
	return slices.Concat(callsOfBytesAndDigests(), callsOfSealsToPacks(), callsOfChunksToTrees(), callsOfSolidsToChains(), callsOfDisksToScripts(t))
}

// namesOfAll are those of the program's exported functions.
func namesOfAll(t *testing.T) []string {
	paths, _ := filepath.Glob("../impl/*.go")
	var names []string
	for _, path := range paths {
		source, err := parser.ParseFile(token.NewFileSet(), path, nil, 0)
		if err != nil {
			t.Fatal(err)
		}
		for _, d := range source.Decls {
			if f, ok := d.(*ast.FuncDecl); ok && f.Recv == nil && f.Name.IsExported() {
				names = append(names, f.Name.Name)
			}
		}
	}
	return names
}

func TestPromise18EachFunctionTwice(t *testing.T) {
	tried := map[string]map[string]bool{}
	for _, c := range allCalls(t) {
		checkAgain(t, c)
		if tried[c.name] == nil {
			tried[c.name] = map[string]bool{}
		}
		tried[c.name][fmt.Sprintf("%q", shownAll(c.made(c.values()), false))] = true
	}
	names := namesOfAll(t)
	if len(names) < 80 {
		t.Errorf("only %d functions", len(names))
	}
	for _, name := range names {
		if len(tried[name]) < 2 {
			t.Errorf("%s: only %d unlike answers", name, len(tried[name]))
		}
	}
}

func TestPromise18ManyCallsAtATime(t *testing.T) {
	calls := allCalls(t)
	told := make([][]string, len(calls))
	for i, c := range calls {
		told[i] = shownAll(c.made(c.values()), false)
	}
	var callers sync.WaitGroup
	for caller := range 8 {
		callers.Go(func() {
			// Each one starts elsewhere, so that unlike calls meet.
			for k := range calls {
				i := (k + caller*len(calls)/8) % len(calls)
				if answer := shownAll(calls[i].made(calls[i].values()), false); !slices.Equal(answer, told[i]) {
					t.Errorf("%v: %.300q at a time with others, not %.300q", calls[i], answer, told[i])
				}
			}
		})
	}
	callers.Wait()
}
