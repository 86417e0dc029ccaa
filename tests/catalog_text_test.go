package tests

import (
	"encoding/binary"
	"slices"
	"strings"
	"testing"

	"loop.example/g00228/impl"
)

// saidCatalog is the text of this catalog, whether it is right or not; numbers below 0 are told as those of 64 bits.
func saidCatalog(c impl.Catalog) string {
	var b []byte
	number := func(list ...int64) {
		for _, n := range list {
			b = binary.AppendUvarint(b, uint64(n))
		}
	}
	text := func(s string) {
		number(int64(len(s)))
		b = append(b, s...)
	}
	number(c.Shape.Least, c.Shape.Bits, c.Shape.Most, c.Next, int64(len(c.Chunks)))
	for _, k := range c.Chunks {
		number(k.Num)
		text(k.Data)
	}
	number(int64(len(c.Snaps)))
	for _, s := range c.Snaps {
		number(s.Id, s.Time, int64(len(s.Items)))
		for _, item := range s.Items {
			text(item.Path)
			if item.Dir {
				number(2*item.Mode + 1)
			} else {
				number(2 * item.Mode)
			}
			number(int64(len(item.Parts)))
			number(item.Parts...)
		}
	}
	return string(b)
}

// lenient takes numbers of any form; broken tells that something was not there.
type lenient struct {
	rest   []byte
	broken bool
}

func (l *lenient) number() int64 {
	n, used := binary.Uvarint(l.rest)
	if used <= 0 || n > 1000000000000 {
		l.broken = true
		return 0
	}
	l.rest = l.rest[used:]
	return int64(n)
}

func (l *lenient) text() string {
	long := l.number()
	if long > int64(len(l.rest)) {
		l.broken = true
		return ""
	}
	taken := string(l.rest[:long])
	l.rest = l.rest[long:]
	return taken
}

func (l *lenient) each(take func()) {
	for left := l.number(); left > 0 && !l.broken; left-- {
		take()
	}
}

// readCatalogByRule then asks whether the text is the one of what it has read.
func readCatalogByRule(s string) (impl.Catalog, bool) {
	l := &lenient{rest: []byte(s)}
	var c impl.Catalog
	c.Shape.Least = l.number()
	c.Shape.Bits = l.number()
	c.Shape.Most = l.number()
	c.Next = l.number()
	l.each(func() {
		num := l.number()
		c.Chunks = append(c.Chunks, chunk(num, l.text()))
	})
	l.each(func() {
		var taken impl.Snap
		taken.Id = l.number()
		taken.Time = l.number()
		l.each(func() {
			item := impl.Item{Path: l.text()}
			kind := l.number()
			item.Mode, item.Dir = kind/2, kind%2 == 1
			l.each(func() { item.Parts = append(item.Parts, l.number()) })
			taken.Items = append(taken.Items, item)
		})
		c.Snaps = append(c.Snaps, taken)
	})
	if l.broken || !rightCatalogByRule(c) || saidCatalog(c) != s {
		return impl.Catalog{}, false
	}
	return c, true
}

// littleCatalogs have short texts, of which each byte can be made each other one.
func littleCatalogs(t *testing.T) []impl.Catalog {
	return []impl.Catalog{
		catalogOf(1, nil), catalogOf(2, nil, snap(1, 0)), sharing(), manySnaps(3), manyItems(3),
		catalogOf(3, []impl.Chunk{chunk(2, "x")}, snap(1, 5, fileItem("f", 2))),
		catalogOf(impl.MaxNumber, []impl.Chunk{chunk(300, "x")}, snap(301, impl.MaxTime, dirItem("a"), fileItem("a/b", 300, 300))),
		taken(t, byPairs, 1, nodes(fileNode("a", "aabbaa"), dirNode("b")), nil),
	}
}

func checkCatalogRead(t *testing.T, s string, want impl.Catalog) {
	t.Helper()
	if c, ok := impl.ReadCatalog(s); !ok || !sameCatalog(c, want) {
		t.Errorf("ReadCatalog of %d bytes (%.60q): %s, %v, not %s", len(s), s, shownCatalog(c), ok, shownCatalog(want))
	}
}

func checkNoCatalog(t *testing.T, what string, s string) {
	t.Helper()
	if c, ok := impl.ReadCatalog(s); ok || !sameCatalog(c, impl.Catalog{}) {
		t.Errorf("%s: ReadCatalog of %d bytes (%.60q): %s, %v", what, len(s), s, shownCatalog(c), ok)
	}
}

func TestPromise12TextsOfCatalogs(t *testing.T) {
	for _, c := range []struct {
		c    impl.Catalog
		want string
	}{
		{impl.Catalog{Shape: impl.Shape{Least: 1, Bits: 2, Most: 3}, Next: 1}, "\x01\x02\x03\x01\x00\x00"},
		{impl.Catalog{Shape: impl.Shape{Least: 1000, Bits: 12, Most: 4000}, Next: 128}, "\xe8\x07\x0c\xa0\x1f\x80\x01\x00\x00"},
		{catalogOf(2, nil, snap(1, 0)), "\x04\x03\x20\x02\x00\x01\x01\x00\x00"},
		{catalogOf(9, nil, snap(3, 127), snap(8, 128)), "\x04\x03\x20\x09\x00\x02\x03\x7f\x00\x08\x80\x01\x00"},
		{catalogOf(2, nil, snap(1, 5, dirItem("ab"))), "\x04\x03\x20\x02\x00\x01\x01\x05\x01\x02ab\xdb\x07\x00"},
		{catalogOf(2, nil, snap(1, 5, fileItem("ab"))), "\x04\x03\x20\x02\x00\x01\x01\x05\x01\x02ab\xc8\x06\x00"},
		{catalogOf(4, []impl.Chunk{chunk(2, "xy"), chunk(3, "\x00")}, snap(1, 5, impl.Item{Path: "a", Dir: true}, impl.Item{Path: "a/b", Mode: 1, Parts: []int64{3, 2, 3}})),
			"\x04\x03\x20\x04\x02\x02\x02xy\x03\x01\x00\x01\x01\x05\x02\x01a\x01\x00\x03a/b\x02\x03\x03\x02\x03"},
	} {
		if s := impl.CatalogText(c.c); s != c.want {
			t.Errorf("CatalogText of %s: %q, not %q", shownCatalog(c.c), s, c.want)
		}
		checkCatalogRead(t, c.want, c.c)
	}
}

func TestPromise12ARightCatalogComesBackFromItsText(t *testing.T) {
	for _, c := range rightCatalogs(t) {
		s := impl.CatalogText(c)
		if s != saidCatalog(c) {
			t.Errorf("CatalogText of %s: %.60q, not %.60q", shownCatalog(c), s, saidCatalog(c))
		}
		checkCatalogRead(t, s, c)
	}
}

// catalogSaidOtherwise holds where a text says another catalog, which may be right: twice the Mode may wrap.
func catalogSaidOtherwise(c impl.Catalog) bool {
	return slices.ContainsFunc(c.Snaps, func(s impl.Snap) bool {
		return slices.ContainsFunc(s.Items, func(item impl.Item) bool { return item.Mode > 1<<62 || item.Mode < -1<<62 })
	})
}

func TestPromise12WrongCatalogsAreNotRead(t *testing.T) {
	for _, wrong := range wrongCatalogs() {
		if !catalogSaidOtherwise(wrong.c) {
			checkNoCatalog(t, wrong.what, saidCatalog(wrong.c))
		}
	}
	checkNoCatalog(t, "a Dir with a Part", "\x04\x03\x20\x03\x01\x02\x01x\x01\x01\x05\x02\x01a\x01\x01\x02\x01b\x00\x01\x02")
	checkCatalogRead(t, "\x04\x03\x20\x03\x01\x02\x01x\x01\x01\x05\x02\x01a\x01\x00\x01b\x00\x01\x02",
		catalogOf(3, []impl.Chunk{chunk(2, "x")}, snap(1, 5, impl.Item{Path: "a", Dir: true}, impl.Item{Path: "b", Parts: []int64{2}})))
}

func TestPromise12BytesOfCatalogsBehindAndThatAreNotThere(t *testing.T) {
	checkNoCatalog(t, "no bytes", "")
	for _, c := range rightCatalogs(t) {
		s := saidCatalog(c)
		if len(s) > 1500 {
			continue
		}
		for cut := range len(s) {
			checkNoCatalog(t, "cut short", s[:cut])
		}
		for _, more := range []string{"\x00", "\x01", "x", "\xff", "\x01\x01\x00\x00", s} {
			checkNoCatalog(t, "bytes behind the end", s+more)
		}
	}
}

func TestPromise12BytesOfCatalogsThatAreChanged(t *testing.T) {
	read := 0
	check := func(s string) {
		if want, is := readCatalogByRule(s); is {
			checkCatalogRead(t, s, want)
			read++
		} else {
			checkNoCatalog(t, "no catalog's text", s)
		}
	}
	for _, c := range littleCatalogs(t) {
		s := saidCatalog(c)
		for at := range s {
			check(s[:at] + s[at+1:])
			check(s[:at] + "\x00" + s[at:])
			check(s[:at] + "\x01" + s[at:])
			for b := range 256 {
				changed := s[:at] + string([]byte{byte(b)}) + s[at+1:]
				check(changed)
				if other, ok := impl.ReadCatalog(changed); ok && changed != s && sameCatalog(other, c) {
					t.Errorf("%s is read from %q, and from %q", shownCatalog(c), s, changed)
				}
			}
		}
	}
	for seed := range uint64(4000) {
		check("\x01\x01\x05\x05" + lettersOf(seed, int(seed%16), "\x00\x00\x01\x02\x03a\x00\x01\x01b\x80"))
	}
	someStrings("\x00\x01\x02a", 7, func(s string) { check("\x01\x01\x05\x04" + s) })
	if read < 1000 {
		t.Errorf("only %d of these are texts of catalogs", read)
	}
}

// catalogWithNumber is the text of a right catalog, of which one number, at this place, stands as it is handed in.
func catalogWithNumber(place int, number string) string {
	said := []string{"\x04", "\x03", "\x20", "\x09", "\x01", "\x08", "\x01", "x", "\x01", "\x07", "\x05", "\x01", "\x01", "a", "\x02", "\x01", "\x08"}
	said[place] = number
	return strings.Join(said, "")
}

var numberPlaces = []int{0, 1, 2, 3, 4, 5, 6, 8, 9, 10, 11, 12, 14, 15, 16}

func TestPromise12NumbersOfCatalogsInAnotherForm(t *testing.T) {
	for _, place := range numberPlaces {
		as := catalogWithNumber(7, "x")
		c := catalogOf(9, []impl.Chunk{chunk(8, "x")}, snap(7, 5, impl.Item{Path: "a", Mode: 1, Parts: []int64{8}}))
		checkCatalogRead(t, as, c)
		// All of them have one byte each, so the one at the place is that number.
		was := as[place]
		for _, other := range []string{"\x00", "\x80\x00", "\x80\x80\x80\x80\x80\x80\x80\x80\x00", "\x80\x80\x80\x80\x80\x80\x80\x80\x02"} {
			checkNoCatalog(t, "a number in another form", catalogWithNumber(place, string([]byte{was | 0x80})+other))
		}
		checkNoCatalog(t, "a number without a last byte", catalogWithNumber(place, strings.Repeat("\xff", 10)+"\x01"))
	}
	for _, nought := range []string{"\x80\x00", "\x80\x80\x00", "\x80\x80\x80\x80\x80\x80\x80\x80\x80\x00"} {
		checkNoCatalog(t, "no chunks", "\x04\x03\x20\x02"+nought+"\x00")
		checkNoCatalog(t, "no snapshots", "\x04\x03\x20\x02\x00"+nought)
		checkNoCatalog(t, "the Time 0", "\x04\x03\x20\x02\x00\x01\x01"+nought+"\x00")
		checkNoCatalog(t, "no items", "\x04\x03\x20\x02\x00\x01\x01\x00"+nought)
		checkNoCatalog(t, "the Mode 0", "\x04\x03\x20\x02\x00\x01\x01\x00\x01\x01a"+nought+"\x00")
		checkNoCatalog(t, "no Parts", "\x04\x03\x20\x02\x00\x01\x01\x00\x01\x01a\x00"+nought)
	}
}

func TestPromise12NumbersOfCatalogsThatAreTooGreat(t *testing.T) {
	for _, n := range edgeNumbers() {
		for _, place := range numberPlaces {
			s := catalogWithNumber(place, impl.PutNum(n))
			if want, is := readCatalogByRule(s); is {
				checkCatalogRead(t, s, want)
			} else {
				checkNoCatalog(t, "a number that is too great", s)
				checkNoCatalog(t, "a number that is too great", s+strings.Repeat("\x01", 5000))
			}
		}
	}
	checkCatalogRead(t, catalogWithNumber(3, impl.PutNum(impl.MaxNumber)), catalogOf(impl.MaxNumber, []impl.Chunk{chunk(8, "x")}, snap(7, 5, impl.Item{Path: "a", Mode: 1, Parts: []int64{8}})))
	checkNoCatalog(t, "Next above MaxNumber", catalogWithNumber(3, impl.PutNum(impl.MaxNumber+1)))
	checkCatalogRead(t, catalogWithNumber(10, impl.PutNum(impl.MaxTime)), catalogOf(9, []impl.Chunk{chunk(8, "x")}, snap(7, impl.MaxTime, impl.Item{Path: "a", Mode: 1, Parts: []int64{8}})))
	checkNoCatalog(t, "a Time above MaxTime", catalogWithNumber(10, impl.PutNum(impl.MaxTime+1)))
	checkCatalogRead(t, catalogWithNumber(14, "\xfe\x07"), catalogOf(9, []impl.Chunk{chunk(8, "x")}, snap(7, 5, impl.Item{Path: "a", Mode: 511, Parts: []int64{8}})))
	checkNoCatalog(t, "a Mode of 512", catalogWithNumber(14, "\x80\x08"))
}
