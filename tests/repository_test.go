package tests

import (
	"fmt"
	"slices"
	"sort"
	"strings"
	"testing"

	"loop.example/g00228/impl"
)

func masterKey() string {
	return impl.Sum("master")
}

// sealed fails where there is no such seal.
func sealed(t *testing.T, number int64, data string) string {
	t.Helper()
	s, ok := impl.Seal(masterKey(), number, data)
	if !ok {
		t.Fatalf("no seal with %d of %d bytes", number, len(data))
	}
	return s
}

func catalogFile(t *testing.T, h impl.Head) impl.File {
	t.Helper()
	return file("catalog", impl.PutNum(uint64(h.Gen))+sealed(t, 2*h.Gen, saidHead(h)))
}

func boxFile(t *testing.T, n int64, list ...impl.Member) impl.File {
	t.Helper()
	return file(fmt.Sprint("box-", n), sealed(t, 2*n+1, saidBlock(list...)))
}

func sorted(list ...impl.File) []impl.File {
	list = slices.Clone(list)
	sort.Slice(list, func(i int, k int) bool { return list[i].Name < list[k].Name })
	return list
}

// membersOf tells those chunks of a catalog that lie in a box.
func membersOf(h impl.Head, c impl.Catalog, n int64) []impl.Member {
	var list []impl.Member
	for i, k := range c.Chunks {
		if h.Boxes[i] == n {
			list = append(list, member(fmt.Sprint(k.Num), k.Data))
		}
	}
	return list
}

// repoOf lays a catalog down, its chunks in the boxes of h.
func repoOf(t *testing.T, h impl.Head, c impl.Catalog, beside ...impl.File) impl.Disk {
	t.Helper()
	list := append(slices.Clone(beside), catalogFile(t, h))
	for _, n := range slices.Compact(slices.Sorted(slices.Values(h.Boxes))) {
		list = append(list, boxFile(t, n, membersOf(h, c, n)...))
	}
	return diskOf(sorted(list...))
}

func checkView(t *testing.T, what string, d impl.Disk, want impl.Catalog) {
	t.Helper()
	if c, code := impl.RepoView(d, masterKey()); code != impl.RpOk || !sameCatalog(c, want) {
		t.Errorf("%s: RepoView %d %s, not %s", what, code, shownCatalog(c), shownCatalog(want))
	}
}

func checkNoView(t *testing.T, what string, d impl.Disk, master string, want int64) {
	t.Helper()
	if c, code := impl.RepoView(d, master); code != want || !sameCatalog(c, impl.Catalog{}) {
		t.Errorf("%s: RepoView %d %s, not %d", what, code, shownCatalog(c), want)
	}
}

// changedFile is d with another text of a file; without the file, where there is none.
func changedFile(d impl.Disk, name string, data ...string) impl.Disk {
	held := heldByRule(d.Live)
	delete(held, name)
	for _, s := range data {
		held[name] = s
	}
	return diskOf(listByRule(held))
}

// shared is sharing() in boxes 1, 5 and 12 of a head; its number is 77.
func shared() impl.Head {
	h := bareOf(sharing(), 77, 3)
	h.NextBox = 13
	for i, n := range h.Boxes {
		h.Boxes[i] = []int64{0, 1, 5, 12}[n]
	}
	return h
}

func TestPromise16RightRepositories(t *testing.T) {
	for i, c := range rightCatalogs(t) {
		size := 0
		for _, k := range c.Chunks {
			size += len(k.Data)
		}
		for _, boxes := range []int64{1, 4, 30} {
			if len(c.Chunks) > 60*int(boxes) || size > 4000 {
				continue
			}
			h := bareOf(c, int64(i), boxes)
			checkView(t, "a repository", repoOf(t, h, c), c)
			checkView(t, "with files beside", repoOf(t, h, c, file("box", "x"), file("box-0", ""), file("box-01", "x"), file("catalog.new", "x"), file("zzz", "")), c)
		}
	}
	c, h := sharing(), shared()
	checkView(t, "in three boxes", repoOf(t, h, c), c)
	h.Gen = halfOfMost
	checkView(t, "the greatest Gen", repoOf(t, h, c), c)
	h.NextBox, h.Boxes = halfOfMost, []int64{halfOfMost - 1, 1, halfOfMost - 1, 1, halfOfMost - 1}
	checkView(t, "the greatest box", repoOf(t, h, c), c)
	h = shared()
	others := slices.Concat(members(member("1", "not asked for"), member("x", "")), membersOf(h, c, 5), members(member("02", "aaab"), member("+3", "z")))
	more := changedFile(repoOf(t, h, c), "box-5", boxFile(t, 5, others...).Data)
	checkView(t, "other members in a box", more, c)
	one := headOf(1, 61, manyChunks(60))
	var list []impl.File
	for i, k := range one.Catalog.Chunks[:50] {
		list = append(list, boxFile(t, int64(i)+1, member(fmt.Sprint(k.Num), k.Data)))
	}
	c = manyChunks(50)
	one = bareOf(c, 1, 50)
	checkView(t, "a box for each chunk", diskOf(sorted(append(list, catalogFile(t, one))...)), c)
	for range 20 {
		checkView(t, "once more", diskOf(sorted(append(list, catalogFile(t, one))...)), c)
	}
}

func TestPromise16ViewsThatAreRefused(t *testing.T) {
	d := repoOf(t, shared(), sharing())
	wrong := impl.Disk{Live: d.Live}
	for _, master := range append(wrongKeys(), "", masterKey()[1:], masterKey()+"x") {
		if len(master) == impl.KeySize {
			continue
		}
		checkNoView(t, "no disk and no key", wrong, master, impl.RpDisk)
		checkNoView(t, "no key", d, master, impl.RpKey)
		checkNoView(t, "no key and no catalog", impl.Disk{}, master, impl.RpKey)
	}
	for _, w := range wrongDisks() {
		checkNoView(t, w.what, w.disk, masterKey(), impl.RpDisk)
	}
	checkNoView(t, "no files", impl.Disk{}, masterKey(), impl.RpNone)
	checkNoView(t, "no catalog", changedFile(d, "catalog"), masterKey(), impl.RpNone)
	checkNoView(t, "other files alone", diskOf(files(file("Catalog", "x"), file("catalo", "x"), file("catalog.new", heldByRule(d.Live)["catalog"]))), masterKey(), impl.RpNone)
	checkNoView(t, "removed", diskOf(d.Live, removeOp("catalog")), masterKey(), impl.RpNone)
	checkNoView(t, "another key", d, impl.Sum("another"), impl.RpBad)
	checkNoView(t, "an empty catalog", changedFile(d, "catalog", ""), masterKey(), impl.RpBad)
	for _, name := range []string{"box-1", "box-5", "box-12"} {
		checkNoView(t, "without "+name, changedFile(d, name), masterKey(), impl.RpBad)
		checkNoView(t, "empty "+name, changedFile(d, name, ""), masterKey(), impl.RpBad)
		checkNoView(t, "removed "+name, diskOf(d.Live, removeOp(name)), masterKey(), impl.RpBad)
		checkView(t, "removed and made", diskOf(d.Live, removeOp(name), appendOp(name, heldByRule(d.Live)[name])), sharing())
		checkNoView(t, "longer "+name, diskOf(d.Live, appendOp(name, "x")), masterKey(), impl.RpBad)
	}
	checkNoView(t, "another master's box", changedFile(d, "box-5", func() string {
		s, _ := impl.Seal(impl.Sum("another"), 11, saidBlock(membersOf(shared(), sharing(), 5)...))
		return s
	}()), masterKey(), impl.RpBad)
}

func TestPromise16BrokenCatalogFiles(t *testing.T) {
	c, h := sharing(), shared()
	d := repoOf(t, h, c)
	text := saidHead(h)
	for _, w := range []struct {
		what string
		data string
	}{
		{"a number that is not the head's Gen", "\x4e" + sealed(t, 2*78, text)},
		{"a number below the head's Gen", "\x4c" + sealed(t, 2*76, text)},
		{"sealed with the Gen", "\x4d" + sealed(t, 77, text)},
		{"sealed with a number more", "\x4d" + sealed(t, 155, text)},
		{"sealed with 0", "\x4d" + sealed(t, 0, text)},
		{"no number", sealed(t, 154, text)},
		{"a number in another form", "\xcd\x00" + sealed(t, 154, text)},
		{"a number that is too great", impl.PutNum(halfOfMost+1) + sealed(t, 154, text)},
		{"the greatest number that can be read", impl.PutNum(impl.MaxNumber) + sealed(t, 154, text)},
		{"a number of 64 bits", impl.PutNum(1<<63) + sealed(t, 0, text)},
		{"a number of 64 bits, twice which is 154", impl.PutNum(1<<63+77) + sealed(t, 154, text)},
		{"a number alone", "\x4d"},
		{"a number that has no end", "\xcd"},
		{"no text", "\x4d" + sealed(t, 154, "")},
		{"a text cut short", "\x4d" + sealed(t, 154, text[:len(text)-1])},
		{"a longer text", "\x4d" + sealed(t, 154, text+"\x01")},
		{"not sealed", "\x4d" + text},
		{"a byte behind", "\x4d" + sealed(t, 154, text) + "x"},
	} {
		checkNoView(t, w.what, changedFile(d, "catalog", w.data), masterKey(), impl.RpBad)
	}
	checkView(t, "as it is", changedFile(d, "catalog", "\x4d"+sealed(t, 154, text)), c)
	whole := heldByRule(d.Live)["catalog"]
	for at := range len(whole) {
		checkNoView(t, "a byte changed", changedFile(d, "catalog", whole[:at]+string([]byte{whole[at] ^ 1})+whole[at+1:]), masterKey(), impl.RpBad)
		checkNoView(t, "cut short", changedFile(d, "catalog", whole[:at]), masterKey(), impl.RpBad)
	}
	for _, wrong := range wrongHeads() {
		if wrong.head.Gen < 0 || wrong.head.Gen > halfOfMost || headSaidOtherwise(wrong.head) || len(saidHead(wrong.head)) > impl.MaxSealed {
			continue
		}
		checkNoView(t, wrong.what, diskOf(files(catalogFile(t, wrong.head))), masterKey(), impl.RpBad)
	}
}

func TestPromise16BrokenBoxes(t *testing.T) {
	c, h := sharing(), shared()
	d := repoOf(t, h, c)
	five := membersOf(h, c, 5)
	if len(five) != 2 {
		t.Fatal(five)
	}
	other := slices.Clone(five)
	other[0].Name = "0" + other[0].Name
	nameless := slices.Clone(five)
	nameless[1].Name = "box"
	swapped := slices.Clone(five)
	swapped[0].Data, swapped[1].Data = "aaaa", "bbbb"
	empty := slices.Clone(five)
	empty[0].Data = ""
	long := slices.Clone(five)
	long[0].Data = strings.Repeat("x", 33)
	right := saidBlock(five...)
	for _, w := range []struct {
		what string
		data string
	}{
		{"sealed with n", sealed(t, 5, right)},
		{"sealed with twice n", sealed(t, 10, right)},
		{"sealed with the number of another box", sealed(t, 3, right)},
		{"not sealed", right},
		{"no solid", sealed(t, 11, "")},
		{"a solid cut short", sealed(t, 11, right[:len(right)-1])},
		{"a longer solid", sealed(t, 11, right+"\x00")},
		{"no members", sealed(t, 11, saidBlock())},
		{"the first member alone", sealed(t, 11, saidBlock(five[:1]...))},
		{"the last member alone", sealed(t, 11, saidBlock(five[1:]...))},
		{"a name with a nought ahead", sealed(t, 11, saidBlock(other...))},
		{"another name", sealed(t, 11, saidBlock(nameless...))},
		{"Data that other chunks have", sealed(t, 11, saidBlock(swapped...))},
		{"no Data", sealed(t, 11, saidBlock(empty...))},
		{"Data longer than Most", sealed(t, 11, saidBlock(long...))},
		{"a byte behind", sealed(t, 11, right) + "x"},
	} {
		checkNoView(t, w.what, changedFile(d, "box-5", w.data), masterKey(), impl.RpBad)
	}
	whole := heldByRule(d.Live)["box-5"]
	for at := range len(whole) {
		checkNoView(t, "a byte changed", changedFile(d, "box-5", whole[:at]+string([]byte{whole[at] ^ 128})+whole[at+1:]), masterKey(), impl.RpBad)
	}
	elsewhere := shared()
	elsewhere.Boxes[0], elsewhere.Boxes[1] = elsewhere.Boxes[1], elsewhere.Boxes[0]
	checkNoView(t, "chunks in other boxes", changedFile(d, "catalog", catalogFile(t, elsewhere).Data), masterKey(), impl.RpBad)
}

func TestPromise16CatalogsThatAreNotRight(t *testing.T) {
	tried := 0
	for _, wrong := range wrongCatalogs() {
		h := bareOf(wrong.c, 77, 4)
		if !impl.HeadOk(h) || slices.ContainsFunc(wrong.c.Chunks, func(k impl.Chunk) bool { return len(k.Data) > 1000 }) {
			continue
		}
		list := []impl.File{}
		for n := range int64(4) {
			// Where a chunk stands twice, its member cannot: the first one is there.
			once := slices.CompactFunc(membersOf(h, wrong.c, n+1), func(a impl.Member, b impl.Member) bool { return a.Name == b.Name })
			if !rightMembersByRule(once) {
				continue
			}
			list = append(list, boxFile(t, n+1, once...))
		}
		if len(saidHead(h)) <= impl.MaxSealed {
			checkNoView(t, wrong.what, diskOf(sorted(append(list, catalogFile(t, h))...)), masterKey(), impl.RpBad)
			tried++
		}
	}
	if tried < 20 {
		t.Errorf("only %d catalogs that are not right have a right head", tried)
	}
}
