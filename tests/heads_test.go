package tests

import (
	"encoding/binary"
	"fmt"
	"slices"
	"strings"
	"testing"

	"loop.example/g00228/impl"
)

const halfOfMost = impl.MaxNumber / 2

func headOf(gen int64, nextBox int64, c impl.Catalog, boxes ...int64) impl.Head {
	return impl.Head{Gen: gen, NextBox: nextBox, Catalog: c, Boxes: boxes}
}

func bareChunks(nums ...int64) []impl.Chunk {
	var list []impl.Chunk
	for _, n := range nums {
		list = append(list, chunk(n, ""))
	}
	return list
}

func sameHead(a impl.Head, b impl.Head) bool {
	return a.Gen == b.Gen && a.NextBox == b.NextBox && sameCatalog(a.Catalog, b.Catalog) && slices.Equal(a.Boxes, b.Boxes)
}

func shownHead(h impl.Head) string {
	return fmt.Sprintf("Gen %d, NextBox %d, %d Boxes %v of %s", h.Gen, h.NextBox, len(h.Boxes), h.Boxes[:min(5, len(h.Boxes))], shownCatalog(h.Catalog))
}

// saidHead is the text of this head, whether it is right or not; numbers below 0 are told as those of 64 bits.
func saidHead(h impl.Head) string {
	var b []byte
	number := func(list ...int64) {
		for _, n := range list {
			b = binary.AppendUvarint(b, uint64(n))
		}
	}
	c := h.Catalog
	number(h.Gen, h.NextBox, c.Shape.Least, c.Shape.Bits, c.Shape.Most, c.Next, int64(len(c.Chunks)))
	for _, k := range c.Chunks {
		number(k.Num)
	}
	number(int64(len(c.Snaps)))
	for _, s := range c.Snaps {
		number(s.Id, s.Time, int64(len(s.Items)))
		for _, item := range s.Items {
			number(int64(len(item.Path)))
			b = append(b, item.Path...)
			if item.Dir {
				number(2*item.Mode + 1)
			} else {
				number(2 * item.Mode)
			}
			number(int64(len(item.Parts)))
			number(item.Parts...)
		}
	}
	number(h.Boxes...)
	return string(b)
}

func within(n int64, least int64, most int64) bool {
	return n >= least && n <= most
}

func rightHeadByRule(h impl.Head) bool {
	c := h.Catalog
	if !within(h.Gen, 0, 500000000000) || !within(h.NextBox, 1, 500000000000) || len(h.Boxes) != len(c.Chunks) {
		return false
	}
	for _, n := range h.Boxes {
		if !within(n, 1, h.NextBox-1) {
			return false
		}
	}
	if len(c.Chunks) > 200 || len(c.Snaps) > 20 || !rightShapeByRule(c.Shape) || !within(c.Next, 1, 1000000000000) {
		return false
	}
	for _, k := range c.Chunks {
		if k.Data != "" || !within(k.Num, 1, c.Next-1) {
			return false
		}
	}
	for _, s := range c.Snaps {
		if !within(s.Id, 1, c.Next-1) || !within(s.Time, 0, 100000000000) || len(s.Items) > 40 {
			return false
		}
		for _, item := range s.Items {
			if !pathByRule(item.Path) || !within(item.Mode, 0, 511) || len(item.Parts) > 4000 {
				return false
			}
			for _, num := range item.Parts {
				if !within(num, 1, c.Next-1) {
					return false
				}
			}
		}
	}
	return true
}

// readHeadByRule then asks whether the text is the one of what it has read.
func readHeadByRule(s string) (impl.Head, bool) {
	l := &lenient{rest: []byte(s)}
	var h impl.Head
	h.Gen = l.number()
	h.NextBox = l.number()
	c := &h.Catalog
	c.Shape.Least = l.number()
	c.Shape.Bits = l.number()
	c.Shape.Most = l.number()
	c.Next = l.number()
	l.each(func() { c.Chunks = append(c.Chunks, chunk(l.number(), "")) })
	l.each(func() {
		var taken impl.Snap
		taken.Id = l.number()
		taken.Time = l.number()
		l.each(func() {
			item := impl.Item{Path: l.text()}
			kind := l.number()
			item.Mode, item.Dir = kind/2, kind%2 == 1
			l.each(func() { item.Parts = append(item.Parts, l.number()) })
			taken.Items = append(taken.Items, item)
		})
		c.Snaps = append(c.Snaps, taken)
	})
	for range c.Chunks {
		h.Boxes = append(h.Boxes, l.number())
	}
	if l.broken || !rightHeadByRule(h) || saidHead(h) != s {
		return impl.Head{}, false
	}
	return h, true
}

// bareOf is the head of a catalog whose chunks lie in boxes by turns.
func bareOf(c impl.Catalog, gen int64, boxes int64) impl.Head {
	h := headOf(gen, boxes+1, copyOf(c))
	for i := range c.Chunks {
		h.Catalog.Chunks[i].Data = ""
		h.Boxes = append(h.Boxes, int64(i)%boxes+1)
	}
	return h
}

func rightHeads(t *testing.T) []impl.Head {
	few := bareChunks(1, 2, 3)
	list := []impl.Head{
		headOf(0, 1, catalogOf(1, nil)),
		headOf(halfOfMost, 1, catalogOf(1, nil)),
		headOf(0, halfOfMost, catalogOf(1, nil)),
		headOf(halfOfMost, halfOfMost, catalogOf(impl.MaxNumber, bareChunks(1, impl.MaxNumber-1), snap(impl.MaxNumber-1, impl.MaxTime, fileItem("a", impl.MaxNumber-1, 1))), halfOfMost-1, 1),
		headOf(1, 2, catalogOf(4, few), 1, 1, 1),
		headOf(127, 128, catalogOf(4, few), 127, 1, 63),
		headOf(128, 300, catalogOf(4, few), 299, 128, 127),
		// Nothing else is asked: what no right catalog has.
		headOf(1, 4, catalogOf(9, bareChunks(3, 2, 1)), 3, 2, 1),
		headOf(1, 4, catalogOf(9, bareChunks(2, 2, 2)), 3, 3, 3),
		headOf(1, 1, catalogOf(9, nil, snap(8, 5), snap(8, 4), snap(1, 0))),
		headOf(1, 2, catalogOf(9, bareChunks(8), snap(8, 5)), 1),
		headOf(1, 1, catalogOf(9, nil, snap(8, 5, fileItem("b", 8, 1, 7), fileItem("a/b"), fileItem("a/b"), impl.Item{Path: "a", Dir: true, Parts: []int64{1, 2}}))),
		headOf(1, 1, catalogOf(2, nil, snap(1, 5, impl.Item{Path: "a"}, impl.Item{Path: "b", Mode: 511}, impl.Item{Path: "c", Dir: true}, impl.Item{Path: "d", Dir: true, Mode: 511}))),
		bareOf(catalogOf(2, nil, snap(1, 0, slices.Repeat([]impl.Item{fileItem("a", 1)}, 40)...)), 3, 1),
	}
	for _, path := range rightPaths() {
		list = append(list, headOf(1, 1, catalogOf(9, nil, snap(8, 5, fileItem(path, 1)))))
	}
	for i, c := range rightCatalogs(t) {
		list = append(list, bareOf(c, int64(i), 1), bareOf(c, int64(100*i), 7))
	}
	return list
}

type wrongHead struct {
	what string
	head impl.Head
}

// plainHead is one that is right, with one of each thing and more.
func plainHead() impl.Head {
	return headOf(5, 4, catalogOf(9, bareChunks(2, 3, 8), snap(1, 10, dirItem("a"), fileItem("a/b", 2, 3, 2)), snap(4, 20, fileItem("c", 8))), 1, 3, 2)
}

func changedHead(change func(h *impl.Head)) impl.Head {
	h := plainHead()
	change(&h)
	return h
}

func numbersBeyond(least int64, most int64) []int64 {
	return []int64{least - 1, least - 2, most + 1, most + 2, lowest, greatest}
}

func headsOfWrongNumbers() []wrongHead {
	var list []wrongHead
	add := func(what string, least int64, most int64, set func(h *impl.Head, n int64)) {
		for _, n := range numbersBeyond(least, most) {
			list = append(list, wrongHead{fmt.Sprint(what, " ", n), changedHead(func(h *impl.Head) { set(h, n) })})
		}
	}
	add("Gen", 0, halfOfMost, func(h *impl.Head, n int64) { h.Gen = n })
	add("NextBox", 4, halfOfMost, func(h *impl.Head, n int64) { h.NextBox = n })
	add("Least", 1, 32, func(h *impl.Head, n int64) { h.Catalog.Shape.Least = n })
	add("Bits", 1, 12, func(h *impl.Head, n int64) { h.Catalog.Shape.Bits = n })
	add("Most", 4, 4000, func(h *impl.Head, n int64) { h.Catalog.Shape.Most = n })
	add("Next", 9, impl.MaxNumber, func(h *impl.Head, n int64) { h.Catalog.Next = n })
	for place := range 3 {
		add("a box", 1, 3, func(h *impl.Head, n int64) { h.Boxes[place] = n })
		add("Num", 1, 8, func(h *impl.Head, n int64) { h.Catalog.Chunks[place].Num = n })
		add("Part", 1, 8, func(h *impl.Head, n int64) { h.Catalog.Snaps[0].Items[1].Parts[place] = n })
	}
	for place := range 2 {
		add("Id", 1, 8, func(h *impl.Head, n int64) { h.Catalog.Snaps[place].Id = n })
		add("Time", 0, impl.MaxTime, func(h *impl.Head, n int64) { h.Catalog.Snaps[place].Time = n })
		add("Mode", 0, 511, func(h *impl.Head, n int64) { h.Catalog.Snaps[0].Items[place].Mode = n })
	}
	return list
}

func wrongHeads() []wrongHead {
	list := headsOfWrongNumbers()
	for _, w := range []struct {
		what   string
		change func(h *impl.Head)
	}{
		{"no boxes", func(h *impl.Head) { h.Boxes = nil }},
		{"a box too few", func(h *impl.Head) { h.Boxes = h.Boxes[:2] }},
		{"a box too many", func(h *impl.Head) { h.Boxes = append(h.Boxes, 1) }},
		{"boxes of no chunks", func(h *impl.Head) { h.Catalog.Chunks = nil }},
		{"NextBox 0 without chunks", func(h *impl.Head) { *h = headOf(5, 0, catalogOf(9, nil)) }},
		{"Next 0 without chunks", func(h *impl.Head) { *h = headOf(5, 1, catalogOf(0, nil)) }},
		{"a chunk with Data", func(h *impl.Head) { h.Catalog.Chunks[0].Data = "x" }},
		{"the last chunk with Data", func(h *impl.Head) { h.Catalog.Chunks[2].Data = "\x00" }},
		{"too many chunks", func(h *impl.Head) { *h = bareOf(manyChunks(201), 5, 3) }},
		{"too many snapshots", func(h *impl.Head) { *h = bareOf(manySnaps(21), 5, 3) }},
		{"too many items", func(h *impl.Head) { *h = bareOf(manyItems(41), 5, 3) }},
		{"too many parts", func(h *impl.Head) { *h = bareOf(manyParts(4001), 5, 3) }},
		{"far too many boxes", func(h *impl.Head) { h.Boxes = slices.Repeat([]int64{1}, 4000) }},
	} {
		list = append(list, wrongHead{w.what, changedHead(w.change)})
	}
	for _, path := range wrongPaths() {
		list = append(list, wrongHead{"the path " + path, changedHead(func(h *impl.Head) { h.Catalog.Snaps[0].Items[0].Path = path })})
		list = append(list, wrongHead{"at the end the path " + path, changedHead(func(h *impl.Head) { h.Catalog.Snaps[1].Items[0].Path = path })})
	}
	return list
}

func checkHeadRead(t *testing.T, s string, want impl.Head) {
	t.Helper()
	if h, ok := impl.ReadHead(s); !ok || !sameHead(h, want) {
		t.Errorf("ReadHead of %s: %s, %v, not %s", shortly(s), shownHead(h), ok, shownHead(want))
	}
}

func checkNoHead(t *testing.T, what string, s string) {
	t.Helper()
	if h, ok := impl.ReadHead(s); ok || !sameHead(h, impl.Head{}) {
		t.Errorf("%s: ReadHead of %s: %s, %v", what, shortly(s), shownHead(h), ok)
	}
}

// headSaidOtherwise holds where a text says another head, which may be right: Data are not said, twice the Mode may wrap, and boxes too few or too many are read as something else.
func headSaidOtherwise(h impl.Head) bool {
	read, ok := readHeadByRule(saidHead(h))
	return ok && !sameHead(read, h)
}

func TestPromise16TextsOfHeads(t *testing.T) {
	for _, c := range []struct {
		h    impl.Head
		want string
	}{
		{headOf(0, 1, impl.Catalog{Shape: impl.Shape{Least: 1, Bits: 2, Most: 3}, Next: 1}), "\x00\x01\x01\x02\x03\x01\x00\x00"},
		{headOf(128, 300, impl.Catalog{Shape: impl.Shape{Least: 1000, Bits: 12, Most: 4000}, Next: 128}), "\x80\x01\xac\x02\xe8\x07\x0c\xa0\x1f\x80\x01\x00\x00"},
		{headOf(3, 9, catalogOf(9, bareChunks(8, 4)), 8, 1), "\x03\x09\x04\x03\x20\x09\x02\x08\x04\x00\x08\x01"},
		{headOf(3, 9, catalogOf(9, bareChunks(8), snap(3, 127), snap(8, 128)), 7), "\x03\x09\x04\x03\x20\x09\x01\x08\x02\x03\x7f\x00\x08\x80\x01\x00\x07"},
		{headOf(3, 300, catalogOf(4, bareChunks(2, 3), snap(1, 5, impl.Item{Path: "a", Dir: true}, impl.Item{Path: "a/b", Mode: 1, Parts: []int64{3, 2, 3}})), 299, 2),
			"\x03\xac\x02\x04\x03\x20\x04\x02\x02\x03\x01\x01\x05\x02\x01a\x01\x00\x03a/b\x02\x03\x03\x02\x03\xab\x02\x02"},
	} {
		if s := impl.HeadText(c.h); s != c.want {
			t.Errorf("HeadText of %s: %q, not %q", shownHead(c.h), s, c.want)
		}
		checkHeadRead(t, c.want, c.h)
	}
}

func TestPromise16RightHeadsComeBackFromTheirTexts(t *testing.T) {
	for _, h := range rightHeads(t) {
		if !impl.HeadOk(h) || !rightHeadByRule(h) {
			t.Errorf("HeadOk is %t of %s", impl.HeadOk(h), shownHead(h))
		}
		s := impl.HeadText(h)
		if s != saidHead(h) {
			t.Errorf("HeadText of %s: %s, not %s", shownHead(h), shortly(s), shortly(saidHead(h)))
		}
		checkHeadRead(t, s, h)
	}
}

func TestPromise16WrongHeads(t *testing.T) {
	unread := 0
	for _, w := range wrongHeads() {
		if impl.HeadOk(w.head) || rightHeadByRule(w.head) {
			t.Errorf("%s: HeadOk of %s", w.what, shownHead(w.head))
		}
		if s := impl.HeadText(w.head); s != "" {
			t.Errorf("%s: HeadText %s", w.what, shortly(s))
		}
		if !headSaidOtherwise(w.head) {
			checkNoHead(t, w.what, saidHead(w.head))
			unread++
		}
	}
	if unread < 100 {
		t.Errorf("only %d texts of wrong heads", unread)
	}
}

func littleHeads() []impl.Head {
	return []impl.Head{
		headOf(0, 1, catalogOf(1, nil)), headOf(200, 3, catalogOf(4, bareChunks(3, 1)), 2, 1), plainHead(),
		headOf(halfOfMost, halfOfMost, catalogOf(impl.MaxNumber, bareChunks(300), snap(301, impl.MaxTime, fileItem("a/b", 300, 300))), 300),
		bareOf(sharing(), 77, 3),
	}
}

func TestPromise16BytesOfHeadsBehindAndThatAreNotThere(t *testing.T) {
	checkNoHead(t, "no bytes", "")
	for _, h := range append(rightHeads(t), littleHeads()...) {
		s := saidHead(h)
		if len(s) > 1500 {
			continue
		}
		for cut := range len(s) {
			checkNoHead(t, "cut short", s[:cut])
		}
		for _, more := range []string{"\x00", "\x01", "x", "\xff", "\x01\x01", s} {
			checkNoHead(t, "bytes behind the end", s+more)
		}
	}
}

func checkSomeHead(t *testing.T, s string) bool {
	t.Helper()
	want, is := readHeadByRule(s)
	if is {
		checkHeadRead(t, s, want)
	} else {
		checkNoHead(t, "no head's text", s)
	}
	return is
}

func TestPromise16BytesOfHeadsThatAreChanged(t *testing.T) {
	read := 0
	check := func(s string) {
		if checkSomeHead(t, s) {
			read++
		}
	}
	for _, h := range littleHeads() {
		s := saidHead(h)
		for at := range len(s) {
			check(s[:at] + s[at+1:])
			check(s[:at] + "\x00" + s[at:])
			check(s[:at] + "\x01" + s[at:])
			for b := range 256 {
				check(s[:at] + string([]byte{byte(b)}) + s[at+1:])
			}
		}
	}
	someStrings("\x00\x01\x02a", 7, func(s string) { check("\x02\x02\x01\x01\x05\x04" + s) })
	if read < 1000 {
		t.Errorf("only %d of these are texts of heads", read)
	}
}

// headWithNumber is the text of a right head, of which one number, at this place, stands as it is handed in.
func headWithNumber(place int, number string) string {
	said := []string{"\x05", "\x08", "\x04", "\x03", "\x20", "\x09", "\x01", "\x08", "\x01", "\x07", "\x05", "\x01", "\x01", "a", "\x02", "\x01", "\x08", "\x07"}
	said[place] = number
	return strings.Join(said, "")
}

func TestPromise16NumbersOfHeadsInAnotherForm(t *testing.T) {
	as := headWithNumber(13, "a")
	checkHeadRead(t, as, headOf(5, 8, catalogOf(9, bareChunks(8), snap(7, 5, impl.Item{Path: "a", Mode: 1, Parts: []int64{8}})), 7))
	for place := range len(as) {
		if place == 13 {
			continue
		}
		// All of them have one byte each, so the one at the place is that number.
		for _, other := range []string{"\x00", "\x80\x00", "\x80\x80\x80\x80\x80\x80\x80\x80\x00", "\x80\x80\x80\x80\x80\x80\x80\x80\x02"} {
			checkNoHead(t, "a number in another form", headWithNumber(place, string([]byte{as[place] | 0x80})+other))
		}
		checkNoHead(t, "a number without a last byte", headWithNumber(place, strings.Repeat("\xff", 10)+"\x01"))
		for _, n := range edgeNumbers() {
			s := headWithNumber(place, impl.PutNum(n))
			checkSomeHead(t, s)
			checkSomeHead(t, s+strings.Repeat("\x01", 5000))
		}
		for _, n := range []int64{halfOfMost - 1, halfOfMost, halfOfMost + 1, impl.MaxNumber - 1, impl.MaxNumber, impl.MaxNumber + 1, impl.MaxTime, impl.MaxTime + 1, 1022, 1023, 1024} {
			checkSomeHead(t, headWithNumber(place, impl.PutNum(uint64(n))))
		}
	}
	if !checkSomeHead(t, headWithNumber(0, impl.PutNum(halfOfMost))) || checkSomeHead(t, headWithNumber(0, impl.PutNum(halfOfMost+1))) {
		t.Error("Gen at its end, or beyond")
	}
	if !checkSomeHead(t, headWithNumber(1, impl.PutNum(halfOfMost))) || checkSomeHead(t, headWithNumber(1, impl.PutNum(halfOfMost+1))) {
		t.Error("NextBox at its end, or beyond")
	}
}

// headStrings tells all texts of a head.
func headStrings(h impl.Head) []string {
	return stringsOf(h.Catalog)
}

func TestPromise18HeadsAreNewMemory(t *testing.T) {
	h := bareOf(withOwnStrings(sharing()), 5, 3)
	h.Boxes = append(slices.Clone(h.Boxes), 77, 78)
	boxes := slices.Clone(h.Boxes)
	h.Boxes = h.Boxes[:len(h.Boxes)-2]
	c, same := roomy(h.Catalog)
	h.Catalog = c
	text := impl.HeadText(h)
	checkOwnStrings(t, "text", []string{text}, headStrings(h))
	read, ok := impl.ReadHead(text)
	checkOwnStrings(t, "read", headStrings(read), []string{text})
	if !ok || !impl.HeadOk(h) || !same() || !slices.Equal(h.Boxes[:len(boxes)], boxes) {
		t.Error("something was written into an argument, or behind it")
	}
	boxes = slices.Clone(read.Boxes)
	if !filled(read.Catalog) || !slices.Equal(read.Boxes, boxes) {
		t.Error("two lists of the answer share memory")
	}
	if impl.HeadText(h) != text {
		t.Error("the same head has another text")
	}
	checkHeadRead(t, text, h)
}
