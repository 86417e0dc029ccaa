package tests

import (
	"fmt"
	"slices"
	"strings"
	"testing"

	"loop.example/g00228/impl"
)

const (
	greatest = 1<<63 - 1
	lowest   = -1 << 63
)

var smallShape = impl.Shape{Least: 4, Bits: 3, Most: 32}

// byPairs cuts behind each two bytes, and behind the last one.
var byPairs = impl.Shape{Least: 2, Bits: 1, Most: 2}

func chunk(num int64, data string) impl.Chunk {
	return impl.Chunk{Num: num, Data: data}
}

func fileItem(path string, parts ...int64) impl.Item {
	return impl.Item{Path: path, Mode: 420, Parts: parts}
}

func dirItem(path string) impl.Item {
	return impl.Item{Path: path, Dir: true, Mode: 493}
}

func snap(id int64, time int64, items ...impl.Item) impl.Snap {
	return impl.Snap{Id: id, Time: time, Items: items}
}

func catalogOf(next int64, chunks []impl.Chunk, snaps ...impl.Snap) impl.Catalog {
	return impl.Catalog{Shape: smallShape, Next: next, Chunks: chunks, Snaps: snaps}
}

func sameItem(a impl.Item, b impl.Item) bool {
	return a.Path == b.Path && a.Dir == b.Dir && a.Mode == b.Mode && slices.Equal(a.Parts, b.Parts)
}

func sameSnap(a impl.Snap, b impl.Snap) bool {
	return a.Id == b.Id && a.Time == b.Time && slices.EqualFunc(a.Items, b.Items, sameItem)
}

func sameCatalog(a impl.Catalog, b impl.Catalog) bool {
	return a.Shape == b.Shape && a.Next == b.Next && slices.Equal(a.Chunks, b.Chunks) && slices.EqualFunc(a.Snaps, b.Snaps, sameSnap)
}

// copyOf shares no list with c.
func copyOf(c impl.Catalog) impl.Catalog {
	c.Chunks = slices.Clone(c.Chunks)
	c.Snaps = slices.Clone(c.Snaps)
	for i := range c.Snaps {
		items := slices.Clone(c.Snaps[i].Items)
		for k := range items {
			items[k].Parts = slices.Clone(items[k].Parts)
		}
		c.Snaps[i].Items = items
	}
	return c
}

// shownCatalog tells the first few of each list only, for lists and Data may be long.
func shownCatalog(c impl.Catalog) string {
	var b strings.Builder
	fmt.Fprintf(&b, "%v Next %d, %d chunks (", c.Shape, c.Next, len(c.Chunks))
	for _, k := range c.Chunks[:min(5, len(c.Chunks))] {
		fmt.Fprintf(&b, "{%d %.12q}", k.Num, k.Data)
	}
	fmt.Fprintf(&b, "), %d snapshots (", len(c.Snaps))
	for _, s := range c.Snaps[:min(4, len(c.Snaps))] {
		fmt.Fprintf(&b, "{%d@%d %d items", s.Id, s.Time, len(s.Items))
		for _, item := range s.Items[:min(4, len(s.Items))] {
			fmt.Fprintf(&b, " {%.20q %v %d %v}", item.Path, item.Dir, item.Mode, item.Parts[:min(6, len(item.Parts))])
		}
		b.WriteString("}")
	}
	return b.String() + ")"
}

func chunkByRule(c impl.Catalog, num int64) (string, bool) {
	for _, k := range c.Chunks {
		if k.Num == num {
			return k.Data, true
		}
	}
	return "", false
}

// treeByParts puts Data of the Parts one behind the other, and tells false where one is not there.
func treeByParts(c impl.Catalog, s impl.Snap) ([]impl.Node, bool) {
	var list []impl.Node
	for _, item := range s.Items {
		n := impl.Node{Path: item.Path, Dir: item.Dir, Mode: item.Mode}
		for _, num := range item.Parts {
			data, there := chunkByRule(c, num)
			if !there {
				return nil, false
			}
			n.Data += data
		}
		list = append(list, n)
	}
	return list, true
}

func rightShapeByRule(p impl.Shape) bool {
	return p.Least >= 1 && p.Least <= 1000 && p.Bits >= 1 && p.Bits <= 12 && p.Most >= p.Least && p.Most <= 4000
}

func rightChunksByRule(c impl.Catalog) bool {
	for i, k := range c.Chunks {
		if k.Num < 1 || k.Num > c.Next-1 || len(k.Data) < 1 || int64(len(k.Data)) > c.Shape.Most {
			return false
		}
		for _, other := range c.Chunks[:i] {
			if other.Num >= k.Num || other.Data == k.Data {
				return false
			}
		}
		used := false
		for _, s := range c.Snaps {
			for _, item := range s.Items {
				used = used || slices.Contains(item.Parts, k.Num)
			}
		}
		if !used {
			return false
		}
	}
	return len(c.Chunks) <= 200
}

func rightCatalogByRule(c impl.Catalog) bool {
	if !rightShapeByRule(c.Shape) || c.Next < 1 || c.Next > 1000000000000 || len(c.Snaps) > 20 || !rightChunksByRule(c) {
		return false
	}
	for i, s := range c.Snaps {
		if s.Id < 1 || s.Id > c.Next-1 || s.Time < 0 || s.Time > 100000000000 {
			return false
		}
		if i > 0 && (c.Snaps[i-1].Id >= s.Id || c.Snaps[i-1].Time > s.Time) {
			return false
		}
		if _, there := chunkByRule(c, s.Id); there {
			return false
		}
		if slices.ContainsFunc(s.Items, func(item impl.Item) bool { return item.Dir && len(item.Parts) > 0 }) {
			return false
		}
		if list, ok := treeByParts(c, s); !ok || !rightTreeByRule(list) {
			return false
		}
	}
	return true
}

// capturedByRule takes the tree whatever limits there are.
func capturedByRule(c impl.Catalog, tree []impl.Node, time int64) impl.Catalog {
	c = copyOf(c)
	taken := snap(c.Next, time)
	c.Next++
	gears := gearsByRule()
	for _, n := range tree {
		item := impl.Item{Path: n.Path, Dir: n.Dir, Mode: n.Mode}
		from := int64(0)
		for _, cut := range cutsByRule(gears, n.Data, c.Shape) {
			data := n.Data[from:cut]
			from = cut
			at := slices.IndexFunc(c.Chunks, func(k impl.Chunk) bool { return k.Data == data })
			if at < 0 {
				at = len(c.Chunks)
				c.Chunks = append(c.Chunks, chunk(c.Next, data))
				c.Next++
			}
			item.Parts = append(item.Parts, c.Chunks[at].Num)
		}
		taken.Items = append(taken.Items, item)
	}
	c.Snaps = append(c.Snaps, taken)
	return c
}

func droppedByRule(c impl.Catalog, id int64) impl.Catalog {
	left := impl.Catalog{Shape: c.Shape, Next: c.Next}
	used := map[int64]bool{}
	for _, s := range c.Snaps {
		if s.Id == id {
			continue
		}
		left.Snaps = append(left.Snaps, s)
		for _, item := range s.Items {
			for _, num := range item.Parts {
				used[num] = true
			}
		}
	}
	for _, k := range c.Chunks {
		if used[k.Num] {
			left.Chunks = append(left.Chunks, k)
		}
	}
	return left
}

func chunksOfByRule(c impl.Catalog, id int64) []int64 {
	var nums []int64
	for _, k := range c.Chunks {
		for _, s := range c.Snaps {
			if s.Id == id && slices.ContainsFunc(s.Items, func(item impl.Item) bool { return slices.Contains(item.Parts, k.Num) }) {
				nums = append(nums, k.Num)
			}
		}
	}
	return nums
}

// sharing has chunks that both snapshots use, chunks of one alone, one twice in one Data, the same Data at two Paths, and numbers that are free between.
func sharing() impl.Catalog {
	return catalogOf(20,
		[]impl.Chunk{chunk(2, "aaaa"), chunk(3, "bbbb"), chunk(5, "cc"), chunk(9, "dddd"), chunk(14, "e")},
		snap(1, 100, dirItem("a"), fileItem("a/x", 2, 3, 2), fileItem("b", 5), fileItem("c", 2, 3, 2), fileItem("d")),
		snap(7, 100, fileItem("a", 3, 9), dirItem("z")),
		snap(12, 250, fileItem("a", 14, 3)),
	)
}

// manyChunks has one file of just so many chunks, each of two bytes.
func manyChunks(count int) impl.Catalog {
	c := impl.Catalog{Shape: byPairs, Next: int64(count) + 2}
	var parts []int64
	for i := range count {
		c.Chunks = append(c.Chunks, chunk(int64(i)+2, string([]byte{byte(i), byte(i >> 8)})))
		parts = append(parts, int64(i)+2)
	}
	c.Snaps = []impl.Snap{snap(1, 0, fileItem("f", parts...))}
	return c
}

func manySnaps(count int) impl.Catalog {
	c := catalogOf(int64(count)+1, nil)
	for i := range count {
		c.Snaps = append(c.Snaps, snap(int64(i)+1, int64(i)*1000))
	}
	return c
}

// manyItems has the nodes of manyNodes, each file with one and the same chunk.
func manyItems(count int) impl.Catalog {
	var items []impl.Item
	for _, n := range manyNodes(count) {
		item := impl.Item{Path: n.Path, Dir: n.Dir, Mode: n.Mode}
		if !n.Dir {
			item.Parts = []int64{2}
		}
		items = append(items, item)
	}
	return catalogOf(3, []impl.Chunk{chunk(2, "x")}, snap(1, 5, items...))
}

// manyParts has one file of just so many Parts, all of the same byte.
func manyParts(count int) impl.Catalog {
	return catalogOf(3, []impl.Chunk{chunk(2, "x")}, snap(1, 5, fileItem("f", slices.Repeat([]int64{2}, count)...)))
}

// taken captures these trees one behind the other, at times that go on by a step.
func taken(t *testing.T, p impl.Shape, step int64, trees ...[]impl.Node) impl.Catalog {
	t.Helper()
	c, ok := impl.CatalogNew(p)
	for i, tree := range trees {
		code := int64(0)
		if c, _, code = impl.Capture(c, tree, int64(i)*step); code != impl.CtFine {
			t.Fatalf("tree %d is not taken: %d", i, code)
		}
	}
	if !ok {
		t.Fatalf("no catalog of %v", p)
	}
	return c
}

func fewTrees() [][]impl.Node {
	return [][]impl.Node{
		nil,
		nodes(fileNode("a", "aaaabbbbccccdddd")),
		nodes(dirNode("a"), dirNode("b"), dirNode("b/c")),
		nodes(fileNode("a", "the quick brown fox jumps over the lazy dog"), fileNode("b", "the quick brown fox jumps over the lazy dog")),
		parted(), deepest(), someTree(3), manyNodes(9),
		nodes(fileNode("a", strings.Repeat("incremental ", 9)), fileNode("b", "jumps over the lazy dog")),
	}
}

func rightCatalogs(t *testing.T) []impl.Catalog {
	list := []impl.Catalog{
		sharing(), manyChunks(1), manyChunks(199), manyChunks(200), manySnaps(1), manySnaps(19), manySnaps(20), manyItems(40), manyParts(4000),
		catalogOf(1, nil),
		catalogOf(1000, nil),
		catalogOf(impl.MaxNumber, nil),
		catalogOf(2, nil, snap(1, 0)),
		catalogOf(2, nil, snap(1, impl.MaxTime)),
		catalogOf(9, nil, snap(1, 0), snap(2, 0), snap(8, impl.MaxTime)),
		catalogOf(9, nil, snap(7, impl.MaxTime), snap(8, impl.MaxTime)),
		catalogOf(impl.MaxNumber, []impl.Chunk{chunk(impl.MaxNumber-1, "x")}, snap(impl.MaxNumber-2, 0, fileItem("f", impl.MaxNumber-1))),
		catalogOf(impl.MaxNumber, []impl.Chunk{chunk(1, "x")}, snap(impl.MaxNumber-1, 0, fileItem("f", 1))),
		catalogOf(3, []impl.Chunk{chunk(1, "\x00")}, snap(2, 0, fileItem("f", 1))),
		catalogOf(3, []impl.Chunk{chunk(1, strings.Repeat("\xff", 32))}, snap(2, 0, fileItem("f", 1))),
		catalogOf(4, []impl.Chunk{chunk(1, "ab"), chunk(2, "a")}, snap(3, 0, fileItem("f", 2, 1))),
		catalogOf(2, nil, snap(1, 3, impl.Item{Path: "a"}, impl.Item{Path: "b", Mode: 511}, impl.Item{Path: "c", Dir: true}, impl.Item{Path: "d", Dir: true, Mode: 511})),
		catalogOf(2, nil, snap(1, 3, dirItem("a"), dirItem("a/a"), dirItem("b"))),
		{Shape: impl.Shape{Least: 1000, Bits: 12, Most: 4000}, Next: 4, Chunks: []impl.Chunk{chunk(2, strings.Repeat("x", 4000)), chunk(3, "y")}, Snaps: []impl.Snap{snap(1, 3, fileItem("a", 2), fileItem("b", 3))}},
	}
	for _, p := range someShapes() {
		list = append(list, impl.Catalog{Shape: p, Next: 1})
	}
	for end := range len(fewTrees()) + 1 {
		list = append(list, taken(t, smallShape, 1000, fewTrees()[:end]...))
	}
	return list
}

type wrongCatalog struct {
	what string
	c    impl.Catalog
}

// changedCatalog is sharing with one thing made otherwise.
func changedCatalog(change func(c *impl.Catalog)) impl.Catalog {
	c := sharing()
	change(&c)
	return c
}

func catalogsOfWrongNumbers() []wrongCatalog {
	var list []wrongCatalog
	wrong := func(what string, change func(c *impl.Catalog)) {
		list = append(list, wrongCatalog{what, changedCatalog(change)})
	}
	for _, p := range wrongShapes() {
		list = append(list, wrongCatalog{"a Shape that is not right", impl.Catalog{Shape: p, Next: 1}})
	}
	wrong("a Shape that is not right", func(c *impl.Catalog) { c.Shape.Bits = 13 })
	for _, next := range []int64{0, -1, impl.MaxNumber + 1, 1 << 62, greatest, lowest} {
		list = append(list, wrongCatalog{"a Next that is none", catalogOf(next, nil)})
		wrong("a Next that is none", func(c *impl.Catalog) { c.Next = next })
	}
	wrong("a Num that is Next", func(c *impl.Catalog) { c.Next = 14 })
	wrong("a Num above Next", func(c *impl.Catalog) { c.Next = 13 })
	wrong("an Id that is Next", func(c *impl.Catalog) { c.Snaps[2].Id = 20 })
	for _, id := range []int64{21, impl.MaxNumber, greatest} {
		wrong("an Id above Next", func(c *impl.Catalog) { c.Snaps[2].Id = id })
	}
	for _, num := range []int64{0, -1, lowest} {
		wrong("a Num below 1", func(c *impl.Catalog) {
			c.Chunks[0].Num, c.Snaps[0] = num, snap(1, 100, fileItem("a", num), fileItem("b", 5))
		})
		wrong("an Id below 1", func(c *impl.Catalog) { c.Snaps[0].Id = num })
	}
	wrong("an Id below 1 alone", func(c *impl.Catalog) { *c = catalogOf(2, nil, snap(0, 0)) })
	wrong("a Num that does not rise", func(c *impl.Catalog) { c.Chunks[1], c.Chunks[2] = c.Chunks[2], c.Chunks[1] })
	wrong("a Num that does not rise at the end", func(c *impl.Catalog) { c.Chunks[3], c.Chunks[4] = c.Chunks[4], c.Chunks[3] })
	wrong("a Num twice", func(c *impl.Catalog) { c.Chunks = slices.Insert(c.Chunks, 1, chunk(2, "zz")) })
	wrong("an Id that does not rise", func(c *impl.Catalog) { c.Snaps[1].Id, c.Snaps[0].Id = 1, 7 })
	wrong("an Id twice", func(c *impl.Catalog) { c.Snaps[2].Id = 7 })
	for i, nums := range [][]int64{{2, 3, 5}, {2, 3, 5, 9}, {9, 14}} {
		for _, num := range nums {
			wrong("an Id that is the Num of a chunk", func(c *impl.Catalog) { c.Snaps[i].Id = num })
		}
	}
	wrong("Times that fall", func(c *impl.Catalog) { c.Snaps[1].Time = 99 })
	wrong("Times that fall at the end", func(c *impl.Catalog) { c.Snaps[2].Time = 0 })
	for _, time := range []int64{-1, lowest} {
		wrong("a Time below 0", func(c *impl.Catalog) { c.Snaps[0].Time = time })
		list = append(list, wrongCatalog{"a Time below 0", catalogOf(2, nil, snap(1, time))})
	}
	for _, time := range []int64{impl.MaxTime + 1, impl.MaxNumber, greatest} {
		wrong("a Time above MaxTime", func(c *impl.Catalog) { c.Snaps[2].Time = time })
		list = append(list, wrongCatalog{"a Time above MaxTime", catalogOf(2, nil, snap(1, time))})
	}
	return list
}

func catalogsOfWrongContents() []wrongCatalog {
	var list []wrongCatalog
	wrong := func(what string, change func(c *impl.Catalog)) {
		list = append(list, wrongCatalog{what, changedCatalog(change)})
	}
	for i := range sharing().Chunks {
		wrong("Data of no bytes", func(c *impl.Catalog) { c.Chunks[i].Data = "" })
		wrong("Data of more than Most", func(c *impl.Catalog) { c.Chunks[i].Data = strings.Repeat("x", 33) })
		wrong("a chunk that is not there", func(c *impl.Catalog) { c.Chunks = slices.Delete(c.Chunks, i, i+1) })
		for k := range i {
			wrong("the same Data twice", func(c *impl.Catalog) { c.Chunks[i].Data = c.Chunks[k].Data })
		}
	}
	wrong("Data of more than a smaller Most", func(c *impl.Catalog) { c.Shape = impl.Shape{Least: 3, Bits: 1, Most: 3} })
	for i := range 3 {
		for _, num := range []int64{0, -2, 1, 4, 7, 19, 20, 1 << 40, greatest, lowest} {
			wrong("a Part that is not there", func(c *impl.Catalog) { c.Snaps[i].Items = append(c.Snaps[i].Items, fileItem("zz", num)) })
			wrong("a Part that is not there behind another", func(c *impl.Catalog) { c.Snaps[i].Items = append(c.Snaps[i].Items, fileItem("zz", 3, num)) })
		}
		wrong("a Dir with Parts", func(c *impl.Catalog) {
			c.Snaps[i].Items = append(c.Snaps[i].Items, impl.Item{Path: "zz", Dir: true, Parts: []int64{3}})
		})
		wrong("a Path that is not right", func(c *impl.Catalog) { c.Snaps[i].Items = append(c.Snaps[i].Items, fileItem("zz/", 3)) })
		wrong("a Path without a Parent", func(c *impl.Catalog) { c.Snaps[i].Items = append(c.Snaps[i].Items, fileItem("zz/a", 3)) })
		wrong("a Path twice", func(c *impl.Catalog) { c.Snaps[i].Items = append(c.Snaps[i].Items, fileItem("zz"), fileItem("zz")) })
		wrong("Paths that do not rise", func(c *impl.Catalog) { c.Snaps[i].Items = append(c.Snaps[i].Items, fileItem("-")) })
		for _, mode := range []int64{-1, 512, greatest, lowest} {
			wrong("a Mode that is none", func(c *impl.Catalog) {
				c.Snaps[i].Items = append(c.Snaps[i].Items, impl.Item{Path: "zz", Mode: mode})
			})
		}
	}
	wrong("a chunk that no Item has", func(c *impl.Catalog) { c.Chunks = append(c.Chunks, chunk(15, "more")) })
	wrong("a chunk that no Item has ahead", func(c *impl.Catalog) { c.Chunks[0].Num, c.Snaps[0] = 2, snap(1, 100, fileItem("a", 5)) })
	wrong("a chunk of a snapshot that is gone", func(c *impl.Catalog) { c.Snaps = c.Snaps[1:] })
	wrong("chunks without snapshots", func(c *impl.Catalog) { c.Snaps = nil })
	return append(list,
		wrongCatalog{"more than MaxChunks chunks", manyChunks(201)},
		wrongCatalog{"many more than MaxChunks chunks", manyChunks(1900)},
		wrongCatalog{"more than MaxSnaps snapshots", manySnaps(21)},
		wrongCatalog{"many more than MaxSnaps snapshots", manySnaps(2000)},
		wrongCatalog{"more than MaxNodes Items", manyItems(41)},
		wrongCatalog{"many more than MaxNodes Items", manyItems(400)},
		wrongCatalog{"Data of more than MaxPack bytes", manyParts(4001)},
		wrongCatalog{"Data of very many bytes", manyParts(3000000)},
		wrongCatalog{"the zero value", impl.Catalog{}},
	)
}

func wrongCatalogs() []wrongCatalog {
	return append(catalogsOfWrongNumbers(), catalogsOfWrongContents()...)
}

func checkCatalog(t *testing.T, what string, c impl.Catalog, want bool) {
	t.Helper()
	if ok := impl.CatalogOk(c); ok != want {
		t.Errorf("%s: CatalogOk of %s: %v, not %v", what, shownCatalog(c), ok, want)
	}
}

func checkCaptured(t *testing.T, c impl.Catalog, tree []impl.Node, time int64) impl.Catalog {
	t.Helper()
	want := capturedByRule(c, tree, time)
	got, id, code := impl.Capture(c, tree, time)
	if code != impl.CtFine || id != c.Next || !sameCatalog(got, want) {
		t.Fatalf("Capture of %s at %d in %s: %s, %d, %d, not %s", shownNodes(tree), time, shownCatalog(c), shownCatalog(got), id, code, shownCatalog(want))
	}
	checkCatalog(t, "captured", got, true)
	return got
}

func checkNotCaptured(t *testing.T, c impl.Catalog, tree []impl.Node, time int64, want int64) {
	t.Helper()
	as := c
	if want == impl.CtWrong {
		as = impl.Catalog{}
	}
	got, id, code := impl.Capture(c, tree, time)
	if code != want || id != 0 || !sameCatalog(got, as) {
		t.Errorf("Capture of %s at %d in %s: %s, %d, %d, not %d", shownNodes(tree), time, shownCatalog(c), shownCatalog(got), id, code, want)
	}
}

func checkRestored(t *testing.T, c impl.Catalog, id int64, want []impl.Node) {
	t.Helper()
	if tree, ok := impl.Restore(c, id); !ok || !slices.Equal(tree, want) {
		t.Errorf("Restore %d of %s: %s, %v, not %s", id, shownCatalog(c), shownNodes(tree), ok, shownNodes(want))
	}
}

// checkNoSnap asks for a snapshot of which nothing is told; left is the catalog that Drop answers then.
func checkNoSnap(t *testing.T, what string, c impl.Catalog, id int64, left impl.Catalog) {
	t.Helper()
	if tree, ok := impl.Restore(c, id); ok || len(tree) != 0 {
		t.Errorf("%s: Restore %d of %s: %s, %v", what, id, shownCatalog(c), shownNodes(tree), ok)
	}
	if nums := impl.ChunksOf(c, id); len(nums) != 0 {
		t.Errorf("%s: ChunksOf %d of %s: %v", what, id, shownCatalog(c), nums)
	}
	if got, ok := impl.Drop(c, id); ok || !sameCatalog(got, left) {
		t.Errorf("%s: Drop %d of %s: %s, %v, not %s", what, id, shownCatalog(c), shownCatalog(got), ok, shownCatalog(left))
	}
}

func checkDropped(t *testing.T, c impl.Catalog, id int64) impl.Catalog {
	t.Helper()
	want := droppedByRule(c, id)
	got, ok := impl.Drop(c, id)
	if !ok || !sameCatalog(got, want) {
		t.Errorf("Drop %d of %s: %s, %v, not %s", id, shownCatalog(c), shownCatalog(got), ok, shownCatalog(want))
	}
	checkCatalog(t, "dropped", got, true)
	return got
}

func TestPromise12CatalogsThatAreRight(t *testing.T) {
	for _, c := range rightCatalogs(t) {
		checkCatalog(t, "right", c, true)
		if !rightCatalogByRule(c) {
			t.Errorf("the rule has %s for wrong", shownCatalog(c))
		}
	}
}

func TestPromise12CatalogsThatAreNotRight(t *testing.T) {
	for _, wrong := range wrongCatalogs() {
		checkCatalog(t, wrong.what, wrong.c, false)
		checkNotCaptured(t, wrong.c, parted(), impl.MaxTime, impl.CtWrong)
		checkNotCaptured(t, wrong.c, wrongTrees()[0], -1, impl.CtWrong)
		for _, id := range []int64{0, 1, 2, 7, 12, 20} {
			checkNoSnap(t, wrong.what, wrong.c, id, impl.Catalog{})
		}
		if s := impl.CatalogText(wrong.c); s != "" {
			t.Errorf("%s: CatalogText of %s: %.40q", wrong.what, shownCatalog(wrong.c), s)
		}
	}
}

func TestPromise12WrongTreesInACatalog(t *testing.T) {
	for _, tree := range wrongTrees() {
		checkNotCaptured(t, sharing(), tree, 250, impl.CtTree)
		c := catalogOf(1000, nil, snap(999, 0))
		for _, n := range tree {
			if n.Data != "" {
				c.Chunks = []impl.Chunk{chunk(1, "data")}
			}
			item := impl.Item{Path: n.Path, Dir: n.Dir, Mode: n.Mode, Parts: slices.Repeat([]int64{1}, (len(n.Data)+3)/4)}
			c.Snaps[0].Items = append(c.Snaps[0].Items, item)
		}
		checkCatalog(t, "a wrong tree", c, false)
	}
}

func TestPromise12CatalogsAsTheDocumentSays(t *testing.T) {
	right, wrong := 0, 0
	check := func(c impl.Catalog) {
		want := rightCatalogByRule(c)
		checkCatalog(t, "by the rule", c, want)
		if want {
			right++
		} else {
			wrong++
		}
	}
	for _, base := range []impl.Catalog{sharing(), manySnaps(3), manyChunks(3), manyItems(6), taken(t, byPairs, 0, fewTrees()[:4]...)} {
		for n := int64(-1); n <= 22; n++ {
			for i := range base.Chunks {
				c := copyOf(base)
				c.Chunks[i].Num = n
				check(c)
			}
			for i := range base.Snaps {
				c := copyOf(base)
				c.Snaps[i].Id = n
				check(c)
				c = copyOf(base)
				c.Snaps[i].Time = n * 50
				check(c)
				for k := range base.Snaps[i].Items {
					c = copyOf(base)
					c.Snaps[i].Items[k].Parts = []int64{n}
					check(c)
					c.Snaps[i].Items[k].Dir = true
					check(c)
				}
			}
			c := copyOf(base)
			c.Next = n
			check(c)
		}
	}
	if right < 100 || wrong < 100 {
		t.Errorf("%d right ones, %d wrong ones", right, wrong)
	}
}

func TestPromise12NewCatalogs(t *testing.T) {
	for _, p := range someShapes() {
		c, ok := impl.CatalogNew(p)
		if !ok || !sameCatalog(c, impl.Catalog{Shape: p, Next: 1}) {
			t.Errorf("CatalogNew(%v): %s, %v", p, shownCatalog(c), ok)
		}
		checkCatalog(t, "new", c, true)
		checkNoSnap(t, "new", c, 1, c)
	}
	for _, p := range wrongShapes() {
		if c, ok := impl.CatalogNew(p); ok || !sameCatalog(c, impl.Catalog{}) {
			t.Errorf("CatalogNew(%v): %s, %v", p, shownCatalog(c), ok)
		}
	}
}

func TestPromise12NumbersOfACapture(t *testing.T) {
	c := taken(t, byPairs, 1, nodes(fileNode("a", "aabbaac"), dirNode("b"), fileNode("b/x", "bb"), fileNode("c", "ddbb")))
	want := impl.Catalog{Shape: byPairs, Next: 6, Chunks: []impl.Chunk{chunk(2, "aa"), chunk(3, "bb"), chunk(4, "c"), chunk(5, "dd")},
		Snaps: []impl.Snap{snap(1, 0, fileItem("a", 2, 3, 2, 4), dirItem("b"), fileItem("b/x", 3), fileItem("c", 5, 3))}}
	if !sameCatalog(c, want) {
		t.Errorf("captured: %s, not %s", shownCatalog(c), shownCatalog(want))
	}
	d, id, code := impl.Capture(c, nodes(fileNode("e", "ddeeaa")), 0)
	want.Next = 8
	want.Chunks = append(want.Chunks, chunk(7, "ee"))
	want.Snaps = append(want.Snaps, snap(6, 0, fileItem("e", 5, 7, 2)))
	if id != 6 || code != impl.CtFine || !sameCatalog(d, want) {
		t.Errorf("captured: %s, %d, %d, not %s", shownCatalog(d), id, code, shownCatalog(want))
	}
	// Numbers that were left out ahead stay so: what is new comes behind all.
	d = checkCaptured(t, sharing(), nodes(fileNode("a", "eee"), fileNode("b", "cc")), 250)
	if len(d.Chunks) != 6 || d.Chunks[5] != chunk(21, "eee") || d.Snaps[3].Id != 20 || d.Next != 22 || !slices.Equal(d.Snaps[3].Items[1].Parts, []int64{5}) {
		t.Errorf("captured: %s", shownCatalog(d))
	}
}

func TestPromise12CapturesAsTheDocumentSays(t *testing.T) {
	for _, c := range rightCatalogs(t) {
		for _, tree := range fewTrees() {
			want := capturedByRule(c, tree, impl.MaxTime)
			if len(want.Snaps) > 20 || len(want.Chunks) > 200 || want.Next > 1000000000000 {
				checkNotCaptured(t, c, tree, impl.MaxTime, impl.CtFull)
			} else {
				checkCaptured(t, c, tree, impl.MaxTime)
			}
		}
	}
}

func TestPromise12ASnapshotIsRestoredAsItWasTaken(t *testing.T) {
	for _, p := range []impl.Shape{smallShape, {Least: 1000, Bits: 12, Most: 4000}, {Least: 60, Bits: 4, Most: 300}} {
		for _, tree := range rightTrees() {
			c := taken(t, p, 0, tree)
			checkRestored(t, c, 1, tree)
			checkRestored(t, c, 1, tree)
		}
	}
	for _, c := range rightCatalogs(t) {
		for _, s := range c.Snaps {
			tree, _ := treeByParts(c, s)
			checkRestored(t, c, s.Id, tree)
		}
	}
}

func TestPromise12AllElderOnesAreAsTheyWere(t *testing.T) {
	for seed := range uint64(12) {
		c, _ := impl.CatalogNew(smallShape)
		var trees [][]impl.Node
		var ids []int64
		for i := range uint64(20) {
			tree := someTree(seed*3 + i/2)
			id := c.Next
			c = checkCaptured(t, c, tree, int64(i/3)*10)
			trees, ids = append(trees, tree), append(ids, id)
			for k, elder := range trees {
				checkRestored(t, c, ids[k], elder)
			}
		}
		checkNotCaptured(t, c, nil, impl.MaxTime, impl.CtFull)
	}
}

func TestPromise12ATreeThatIsTakenAgainAddsNoChunk(t *testing.T) {
	for _, c := range rightCatalogs(t) {
		for _, s := range c.Snaps {
			tree, _ := impl.Restore(c, s.Id)
			once, _, code := impl.Capture(c, tree, impl.MaxTime)
			if code != impl.CtFine || len(once.Snaps) == impl.MaxSnaps || once.Next == impl.MaxNumber {
				continue
			}
			again := checkCaptured(t, once, tree, impl.MaxTime)
			if !slices.Equal(again.Chunks, once.Chunks) || again.Next != once.Next+1 {
				t.Errorf("taken again: %s, not the chunks of %s", shownCatalog(again), shownCatalog(once))
			}
			first, second := once.Snaps[len(once.Snaps)-1], again.Snaps[len(again.Snaps)-1]
			if !slices.EqualFunc(first.Items, second.Items, sameItem) {
				t.Errorf("taken again: other Items in %s", shownCatalog(again))
			}
		}
	}
	// The same Data, elsewhere and in other pieces of a tree, have the same chunks, too.
	c := taken(t, smallShape, 0, parted(), nodes(fileNode("q", "1"), fileNode("r", "10")), parted()[:1])
	if len(c.Chunks) != 10 || c.Next != 14 {
		t.Errorf("taken: %s", shownCatalog(c))
	}
}

func TestPromise12TimesOfACapture(t *testing.T) {
	empty, _ := impl.CatalogNew(smallShape)
	for _, time := range []int64{0, 1, 86400, impl.MaxTime - 1, impl.MaxTime} {
		c := checkCaptured(t, empty, parted(), time)
		checkCaptured(t, c, parted(), time)
		checkCaptured(t, c, nil, impl.MaxTime)
		checkNotCaptured(t, c, parted(), time-1, impl.CtTime)
		checkNotCaptured(t, c, parted(), -1, impl.CtTime)
		checkNotCaptured(t, c, parted(), impl.MaxTime+1, impl.CtTime)
	}
	for _, time := range []int64{-1, lowest, impl.MaxTime + 1, 1 << 62, greatest} {
		checkNotCaptured(t, empty, nil, time, impl.CtTime)
		checkNotCaptured(t, empty, parted(), time, impl.CtTime)
		checkNotCaptured(t, sharing(), parted(), time, impl.CtTime)
	}
	checkNotCaptured(t, sharing(), nil, 249, impl.CtTime)
	checkCaptured(t, sharing(), nil, 250)
	// Behind a drop the last one is another one.
	c := checkDropped(t, sharing(), 12)
	checkCaptured(t, c, nil, 100)
	checkNotCaptured(t, c, nil, 99, impl.CtTime)
}

func TestPromise12TheFirstFaultOfACaptureIsTold(t *testing.T) {
	badTree := nodes(fileNode("/", ""))
	full := manySnaps(20)
	wrong := manySnaps(21)
	checkNotCaptured(t, wrong, badTree, -1, impl.CtWrong)
	checkNotCaptured(t, wrong, nil, -1, impl.CtWrong)
	checkNotCaptured(t, wrong, nil, impl.MaxTime, impl.CtWrong)
	checkNotCaptured(t, full, badTree, -1, impl.CtTree)
	checkNotCaptured(t, full, badTree, impl.MaxTime, impl.CtTree)
	checkNotCaptured(t, full, nil, -1, impl.CtTime)
	checkNotCaptured(t, full, nil, 18999, impl.CtTime)
	checkNotCaptured(t, full, nil, 19000, impl.CtFull)
	checkNotCaptured(t, catalogOf(impl.MaxNumber, nil), badTree, 0, impl.CtTree)
	checkNotCaptured(t, catalogOf(impl.MaxNumber, nil), parted(), impl.MaxTime+1, impl.CtTime)
	checkNotCaptured(t, catalogOf(impl.MaxNumber, nil), parted(), 0, impl.CtFull)
	checkNotCaptured(t, manyChunks(200), nodes(fileNode("a", "??")), -1, impl.CtTime)
	checkNotCaptured(t, manyChunks(200), append(nodes(fileNode("a", "??")), badTree...), 0, impl.CtTree)
}

func TestPromise12AsManySnapshotsAsMayBe(t *testing.T) {
	c := checkCaptured(t, manySnaps(18), parted(), impl.MaxTime)
	c = checkCaptured(t, c, parted(), impl.MaxTime)
	checkNotCaptured(t, c, parted(), impl.MaxTime, impl.CtFull)
	checkNotCaptured(t, c, nil, impl.MaxTime, impl.CtFull)
	c = checkDropped(t, c, 5)
	c = checkCaptured(t, c, nil, impl.MaxTime)
	checkNotCaptured(t, c, nil, impl.MaxTime, impl.CtFull)
}

func TestPromise12AsManyChunksAsMayBe(t *testing.T) {
	pairs := func(count int) []impl.Node {
		var b strings.Builder
		for i := range count {
			b.Write([]byte{'?', byte(i + 1)})
		}
		return nodes(fileNode("g", b.String()+"\x00\x00"))
	}
	checkCaptured(t, manyChunks(200), pairs(0), 0)
	checkCaptured(t, manyChunks(199), pairs(1), 0)
	checkCaptured(t, manyChunks(1), pairs(199), 0)
	for _, more := range []int{1, 2, 100} {
		checkCaptured(t, manyChunks(200-more), pairs(more), 0)
		checkNotCaptured(t, manyChunks(200-more), pairs(more+1), 0, impl.CtFull)
		checkNotCaptured(t, manyChunks(200), pairs(more), 0, impl.CtFull)
	}
	empty, _ := impl.CatalogNew(impl.Shape{Least: 1, Bits: 1, Most: 2})
	var many []impl.Node
	for i := range 40 {
		many = append(many, fileNode(fmt.Sprintf("f%02d", i), someBytes(uint64(i), 4000)))
	}
	checkNotCaptured(t, empty, many, 0, impl.CtFull)
}

func TestPromise12NumbersThatAreUsedUp(t *testing.T) {
	with := func(next int64) impl.Catalog {
		return catalogOf(next, []impl.Chunk{chunk(2, "data")}, snap(1, 0, fileItem("f", 2)))
	}
	known, one, two := nodes(fileNode("f", "data")), nodes(fileNode("f", "other")), nodes(fileNode("f", "other"), fileNode("g", "two"))
	if len(capturedByRule(with(9), one, 0).Chunks) != 2 || len(capturedByRule(with(9), two, 0).Chunks) != 3 {
		t.Fatal("the trees have other chunks")
	}
	for free, trees := range [][][]impl.Node{nil, {nil, known, nodes(dirNode("d"))}, {one}, {two}} {
		for far, tree := range trees {
			c := with(impl.MaxNumber - int64(free))
			got := checkCaptured(t, c, tree, 5)
			if got.Next != impl.MaxNumber || got.Snaps[1].Id != c.Next {
				t.Errorf("%d free, tree %d: %s", free, far, shownCatalog(got))
			}
			checkNotCaptured(t, got, nil, 5, impl.CtFull)
			checkNotCaptured(t, with(c.Next+1), tree, 5, impl.CtFull)
			checkCaptured(t, with(c.Next-1), tree, 5)
		}
	}
	for _, tree := range [][]impl.Node{nil, known, one, two} {
		checkNotCaptured(t, with(impl.MaxNumber), tree, 0, impl.CtFull)
		checkNotCaptured(t, with(impl.MaxNumber+1), tree, 0, impl.CtWrong)
		checkNotCaptured(t, with(greatest), tree, 0, impl.CtWrong)
		checkCaptured(t, catalogOf(1, nil), tree, 0)
	}
	// Dropped or not, what is used up stays so.
	c := checkDropped(t, with(impl.MaxNumber), 1)
	checkNotCaptured(t, c, nil, 0, impl.CtFull)
}

func TestPromise12ADroppedSnapshotIsGoneAllOthersStay(t *testing.T) {
	for _, c := range rightCatalogs(t) {
		for _, s := range c.Snaps {
			left := checkDropped(t, c, s.Id)
			checkNoSnap(t, "dropped", left, s.Id, left)
			for _, other := range left.Snaps {
				tree, _ := treeByParts(c, other)
				checkRestored(t, left, other.Id, tree)
			}
			if len(left.Snaps) != len(c.Snaps)-1 {
				t.Errorf("%d snapshots are left of %d", len(left.Snaps), len(c.Snaps))
			}
		}
	}
}

func TestPromise12ChunksThatNoOtherOneUsesGo(t *testing.T) {
	nums := func(c impl.Catalog) string {
		var list []int64
		for _, k := range c.Chunks {
			list = append(list, k.Num)
		}
		return fmt.Sprint(list)
	}
	for id, want := range map[int64]string{1: "[3 9 14]", 7: "[2 3 5 14]", 12: "[2 3 5 9]"} {
		if got := nums(checkDropped(t, sharing(), id)); got != want {
			t.Errorf("Drop %d leaves %s, not %s", id, got, want)
		}
	}
	for _, order := range [][]int64{{1, 7, 12}, {1, 12, 7}, {7, 1, 12}, {7, 12, 1}, {12, 1, 7}, {12, 7, 1}} {
		c := sharing()
		for _, id := range order {
			c = checkDropped(t, c, id)
		}
		if !sameCatalog(c, catalogOf(20, nil)) {
			t.Errorf("dropped all by %v: %s", order, shownCatalog(c))
		}
	}
	// A tree that is taken twice keeps its chunks until both are dropped.
	c := taken(t, smallShape, 0, parted(), parted())
	first := checkDropped(t, c, c.Snaps[0].Id)
	second := checkDropped(t, c, c.Snaps[1].Id)
	if !slices.Equal(first.Chunks, c.Chunks) || !slices.Equal(second.Chunks, c.Chunks) {
		t.Error("a chunk went that another one uses")
	}
}

func TestPromise12ANumberThatWasDroppedIsNotGivenAgain(t *testing.T) {
	c := taken(t, smallShape, 0, parted())
	given := map[int64]bool{}
	for range 5 {
		for _, s := range c.Snaps {
			if given[s.Id] {
				t.Errorf("the Id %d is given again", s.Id)
			}
			given[s.Id] = true
		}
		for _, k := range c.Chunks {
			if given[k.Num] {
				t.Errorf("the Num %d is given again", k.Num)
			}
			given[k.Num] = true
		}
		left := checkDropped(t, c, c.Snaps[0].Id)
		if left.Next != c.Next || len(left.Snaps)+len(left.Chunks) != 0 {
			t.Errorf("dropped the only one: %s", shownCatalog(left))
		}
		c = checkCaptured(t, left, parted(), 0)
	}
	if c.Snaps[0].Id != 56 || len(given) != 55 {
		t.Errorf("%d numbers were given, then %s", len(given), shownCatalog(c))
	}
}

func TestPromise12SnapshotsThatAreNotThere(t *testing.T) {
	for _, c := range rightCatalogs(t) {
		for _, id := range []int64{0, -1, c.Next, c.Next + 1, impl.MaxNumber, greatest, lowest} {
			checkNoSnap(t, "no such Id", c, id, c)
		}
		for _, k := range c.Chunks[:min(9, len(c.Chunks))] {
			checkNoSnap(t, "the Num of a chunk", c, k.Num, c)
		}
	}
	for _, id := range []int64{2, 6, 8, 11, 13, 19} {
		checkNoSnap(t, "between", sharing(), id, sharing())
	}
}

func TestPromise12ChunksOfASnapshot(t *testing.T) {
	for _, c := range rightCatalogs(t) {
		for _, s := range c.Snaps {
			if nums, want := impl.ChunksOf(c, s.Id), chunksOfByRule(c, s.Id); !slices.Equal(nums, want) {
				t.Errorf("ChunksOf %d of %s: %v, not %v", s.Id, shownCatalog(c), nums, want)
			}
		}
	}
	for id, want := range map[int64][]int64{1: {2, 3, 5}, 7: {3, 9}, 12: {3, 14}, 2: nil, 20: nil, 0: nil} {
		if nums := impl.ChunksOf(sharing(), id); !slices.Equal(nums, want) {
			t.Errorf("ChunksOf %d: %v, not %v", id, nums, want)
		}
	}
	c := catalogOf(9, []impl.Chunk{chunk(1, "a"), chunk(2, "b"), chunk(3, "c"), chunk(4, "d")}, snap(8, 0, fileItem("f", 4, 2, 3, 2), fileItem("g", 1, 4)))
	if nums := impl.ChunksOf(c, 8); !slices.Equal(nums, []int64{1, 2, 3, 4}) {
		t.Errorf("ChunksOf: %v", nums)
	}
}

// stringsOf tells all texts of a catalog.
func stringsOf(c impl.Catalog) []string {
	var list []string
	for _, k := range c.Chunks {
		list = append(list, k.Data)
	}
	for _, s := range c.Snaps {
		for _, item := range s.Items {
			list = append(list, item.Path)
		}
	}
	return list
}

// withOwnStrings is c with texts that nothing else has.
func withOwnStrings(c impl.Catalog) impl.Catalog {
	c = copyOf(c)
	for i := range c.Chunks {
		c.Chunks[i].Data = strings.Clone(c.Chunks[i].Data)
	}
	for _, s := range c.Snaps {
		for i := range s.Items {
			s.Items[i].Path = strings.Clone(s.Items[i].Path)
		}
	}
	return c
}

func ownNodes(list []impl.Node) []impl.Node {
	list = slices.Clone(list)
	for i := range list {
		list[i].Path, list[i].Data = strings.Clone(list[i].Path), strings.Clone(list[i].Data)
	}
	return list
}

// catalogAnswers has all that can be asked of a catalog, by names.
func catalogAnswers(c impl.Catalog, tree []impl.Node) map[string]impl.Catalog {
	list := map[string]impl.Catalog{}
	list["captured"], _, _ = impl.Capture(c, tree, impl.MaxTime)
	list["no tree"], _, _ = impl.Capture(c, append(slices.Clone(tree), tree...), impl.MaxTime)
	list["no time"], _, _ = impl.Capture(c, tree, -1)
	full := c
	full.Next = impl.MaxNumber
	list["full"], _, _ = impl.Capture(full, tree, impl.MaxTime)
	for _, id := range []int64{0, 1, 7, 12} {
		list[fmt.Sprint("dropped ", id)], _ = impl.Drop(c, id)
	}
	list["pruned"], _, _ = impl.Prune(c, impl.Policy{Last: 2})
	list["none pruned"], _, _ = impl.Prune(c, impl.Policy{Last: 3})
	list["read"], _ = impl.ReadCatalog(impl.CatalogText(c))
	return list
}

func TestPromise18CatalogsAreNewMemory(t *testing.T) {
	c, tree := withOwnStrings(sharing()), ownNodes(nodes(fileNode("a", "aaaabbbbzzzz"), fileNode("b", "some text of its own")))
	arguments := stringsOf(c)
	for _, n := range tree {
		arguments = append(arguments, n.Path, n.Data)
	}
	restored, _ := impl.Restore(c, 1)
	text := impl.CatalogText(c)
	lists := map[string][]string{"text": {text}}
	for _, n := range restored {
		lists["restored"] = append(lists["restored"], n.Path, n.Data)
	}
	for what, answer := range catalogAnswers(c, tree) {
		lists[what] = stringsOf(answer)
	}
	for what, list := range lists {
		if len(list) == 0 {
			t.Errorf("%s: no answer", what)
		}
		for i, answer := range list {
			for _, argument := range arguments {
				if sharesMemory(answer, argument) {
					t.Errorf("%s: answer %d, %q, lies in an argument", what, i, answer)
				}
			}
			for k, other := range list {
				if i != k && sharesMemory(answer, other) {
					t.Errorf("%s: answers %d and %d, %q and %q, share memory", what, i, k, answer, other)
				}
			}
		}
	}
	if read, _ := impl.ReadCatalog(text); slices.ContainsFunc(stringsOf(read), func(s string) bool { return sharesMemory(s, text) }) {
		t.Error("what is read lies in the text")
	}
}

// filled writes into each list of a catalog, as far as it may go, and tells whether what was written elsewhere changed.
func filled(c impl.Catalog) bool {
	mark := int64(0)
	fill := func(list []int64) {
		for i := range list[:cap(list)] {
			mark++
			list[:cap(list)][i] = mark
		}
	}
	for _, s := range c.Snaps {
		for _, item := range s.Items {
			fill(item.Parts)
		}
	}
	seen := int64(0)
	for _, s := range c.Snaps {
		for _, item := range s.Items {
			for _, n := range item.Parts[:cap(item.Parts)] {
				seen++
				if n != seen {
					return false
				}
			}
		}
	}
	clear(c.Chunks[:cap(c.Chunks)])
	for _, s := range c.Snaps {
		clear(s.Items[:cap(s.Items)])
	}
	clear(c.Snaps[:cap(c.Snaps)])
	return true
}

// roomy is c with lists that have room behind them, filled with what is to stay.
func roomy(c impl.Catalog) (impl.Catalog, func() bool) {
	c = copyOf(c)
	var whole []func() bool
	chunks := append(slices.Clone(c.Chunks), chunk(7777, "spare"), chunk(7778, "room"))
	snaps := append(slices.Clone(c.Snaps), snap(7777, 7, fileItem("spare")), snap(7778, 8))
	for i := range c.Snaps {
		items := append(slices.Clone(c.Snaps[i].Items), fileItem("spare", 1, 2), fileItem("room"))
		for k := range items {
			parts := append(slices.Clone(items[k].Parts), 7777, 7778)
			was := slices.Clone(parts)
			whole = append(whole, func() bool { return slices.Equal(parts, was) })
			items[k].Parts = parts[:len(parts)-2]
		}
		was := slices.Clone(items)
		whole = append(whole, func() bool { return slices.EqualFunc(items, was, sameItem) })
		snaps[i].Items = items[:len(items)-2]
	}
	chunksWas, snapsWas := slices.Clone(chunks), slices.Clone(snaps)
	whole = append(whole, func() bool { return slices.Equal(chunks, chunksWas) && slices.EqualFunc(snaps, snapsWas, sameSnap) })
	c.Chunks, c.Snaps = chunks[:len(chunks)-2], snaps[:len(snaps)-2]
	return c, func() bool { return !slices.ContainsFunc(whole, func(same func() bool) bool { return !same() }) }
}

func TestPromise18CatalogsWriteIntoNoArgument(t *testing.T) {
	c, same := roomy(sharing())
	if !sameCatalog(c, sharing()) || !same() {
		t.Fatal("another catalog")
	}
	tree := append(slices.Clone(parted()), fileNode("spare", "room"))
	first := map[string]impl.Catalog{}
	for what, answer := range catalogAnswers(c, tree[:15]) {
		first[what] = copyOf(answer)
		if !filled(answer) {
			t.Errorf("%s: two lists of the answer share memory", what)
		}
	}
	restored, _ := impl.Restore(c, 1)
	firstRestored := slices.Clone(restored)
	nums := impl.ChunksOf(c, 1)
	firstNums := slices.Clone(nums)
	text := impl.CatalogText(c)
	clear(restored[:cap(restored)])
	clear(nums[:cap(nums)])
	if !same() || !sameCatalog(c, sharing()) || !slices.Equal(tree, append(parted(), fileNode("spare", "room"))) {
		t.Error("something was written into an argument, or behind it")
	}
	for what, answer := range catalogAnswers(c, tree[:15]) {
		if !sameCatalog(answer, first[what]) {
			t.Errorf("%s: the same arguments give another answer: %s, not %s", what, shownCatalog(answer), shownCatalog(first[what]))
		}
	}
	again, _ := impl.Restore(c, 1)
	if !slices.Equal(again, firstRestored) || !slices.Equal(impl.ChunksOf(c, 1), firstNums) || impl.CatalogText(c) != text {
		t.Error("the same arguments give other answers")
	}
}
