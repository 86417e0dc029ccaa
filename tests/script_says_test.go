package tests

import (
	"fmt"
	"slices"
	"strings"
	"testing"

	"loop.example/g00228/impl"
)

func TestPromise17WhatLinesSayAheadOfNew(t *testing.T) {
	checkLines(t,
		[]string{"list", "show 0", "show 1", "files", "open", "snap 1", "snap 1 a=x", "snap 1 A=x", "cut 0 1 a=x", "cut 99 1", "drop 0", "drop 1", "crash 0 0", "crash 9 9", "list", "files", "new", "list"},
		[]string{"no 3", "no 3", "no 3", "files", "no 3", "no 3", "no 3", "no 3", "no 3", "no 3", "no 3", "no 3", "no 3", "no 3", "no 3", "files", "ok", "list"})
	checkLines(t, []string{"fly", "show", "drop x", "new x", "list", "files"}, []string{"what", "what", "what", "what", "no 3", "files"})
}

func TestPromise17WhatLinesSayBehindNew(t *testing.T) {
	checkLines(t,
		[]string{"new", "list", "files", "show 0", "show 1", "drop 0", "drop 1", "open", "new", "crash 0 0", "crash 1 1", "new", "list", "files"},
		[]string{"ok", "list", "files catalog", "no 9", "no 9", "no 9", "no 9", "ok", "no 5", "ok", "ok", "no 5", "list", "files catalog"})
	checkLines(t,
		[]string{"new", "snap 0", "list", "show 1", "files", "snap 0", "list", "show 1", "show 2", "show 3", "new", "open", "files"},
		[]string{"ok", "ok", "list 1@0", "show", "files catalog", "ok", "list 1@0 2@0", "show", "show", "no 9", "no 5", "ok", "files catalog"})
}

func TestPromise17WhatSnapshotsSay(t *testing.T) {
	checkLines(t,
		[]string{"new", "snap 5 a/ a/x=one b=two", "list", "show 1", "files", "snap 9 b=two a/", "list", "show 4", "files", "snap 9 c=three", "list", "show 5", "files"},
		[]string{"ok", "ok", "list 1@5", "show a/ a/x=one b=two", "files box-1 catalog", "ok", "list 1@5 4@9", "show a/ b=two", "files box-1 catalog", "ok", "list 1@5 4@9 5@9", "show c=three", "files box-1 box-2 catalog"})
	checkLines(t,
		[]string{"new", "snap 9", "snap 8", "snap 0", "snap 9 a=x", "snap 8 a=x", "snap 999999", "snap 999998", "snap 1000000", "snap 999999 a=x", "list"},
		[]string{"ok", "ok", "no 6", "no 6", "ok", "no 6", "ok", "no 6", "what", "ok", "list 1@9 2@9 4@999999 5@999999"})
	checkLines(t,
		[]string{"new", "snap 1 a=", "show 1", "files", "snap 1 a=x", "files", "snap 1 b=x", "files", "snap 1 a=xx", "files", "list"},
		[]string{"ok", "ok", "show a=", "files catalog", "ok", "files box-1 catalog", "ok", "files box-1 catalog", "ok", "files box-1 box-2 catalog", "list 1@1 2@1 4@1 5@1"})
	long := lettersOf(3, 500, "abcdefghijklmnopqrstuvwxyz=/")
	checkLines(t,
		[]string{"new", "snap 1 a=" + long, "show 1", "snap 1 a=" + long + "! b=" + long[300:], "open", "show 1"},
		[]string{"ok", "ok", "show a=" + long, "ok", "ok", "show a=" + long})
}

func TestPromise17WhatDropsSay(t *testing.T) {
	checkLines(t,
		[]string{"new", "snap 5 a=one", "snap 5 a=one b=two", "list", "drop 1", "list", "show 1", "show 3", "files", "drop 1", "drop 2", "drop 4", "drop 3", "list", "show 3", "files", "drop 3", "snap 0 c=one", "list", "files"},
		[]string{"ok", "ok", "ok", "list 1@5 3@5", "ok", "list 3@5", "no 9", "show a=one b=two", "files box-1 box-2 catalog", "no 9", "no 9", "no 9", "ok", "list", "no 9", "files catalog", "no 9", "ok", "list 5@0", "files box-3 catalog"})
	checkLines(t,
		[]string{"new", "snap 5 a=one", "snap 6 a=two", "snap 7 a=three", "drop 3", "list", "files", "show 1", "show 3", "show 5", "open", "files", "snap 6", "snap 7 a=two", "list", "files"},
		[]string{"ok", "ok", "ok", "ok", "ok", "list 1@5 5@7", "files box-1 box-3 catalog", "show a=one", "no 9", "show a=three", "ok", "files box-1 box-3 catalog", "no 6", "ok", "list 1@5 5@7 7@7", "files box-1 box-3 box-4 catalog"})
}

// fullScript takes so many snapshots behind new.
func fullScript(count int) []string {
	list := []string{"new"}
	for i := range count {
		list = append(list, fmt.Sprintf("snap %d a=%d", i, i))
	}
	return list
}

func TestPromise17SnapshotsWithoutRoom(t *testing.T) {
	if impl.MaxSnaps != 20 || impl.MaxChunks != 200 {
		t.Fatal("other limits")
	}
	full := append(fullScript(20), "snap 19 a=1", "snap 20", "cut 0 19", "cut 99 19 b=x", "snap 18", "snap 19 A=", "drop 3", "snap 19 b=x", "snap 19 b=x")
	said := append(repeated("ok", 21), "no 7", "no 7", "no 7", "no 7", "no 6", "no 6", "ok", "ok", "no 7")
	checkLines(t, full, said)
	var many, oks []string
	for s := range 5 {
		line := "snap 1"
		for i := range 40 {
			line += fmt.Sprintf(" %02d=%d", i, 40*s+i)
		}
		many, oks = append(many, line), append(oks, "ok")
	}
	many, oks = append([]string{"new"}, many...), append([]string{"ok"}, oks...)
	checkLines(t, append(many, "snap 1 x=200", "snap 1 x=199 y=0", "drop 1", "snap 1 x=200 y=0", "cut 0 1 z=201"), append(oks, "no 7", "ok", "ok", "ok", "no 8"))
}

func TestPromise17MoreNewChunksThanABoxHolds(t *testing.T) {
	shape := impl.Shape{Least: 4, Bits: 3, Most: 32}
	line, chunks, nodes := "snap 1", 0, 0
	for seed := uint64(0); chunks < 60; seed++ {
		data := fmt.Sprint(seed, "abc")
		if chunks < 42 {
			data += lettersOf(seed, 6, "abcdefghijklmnop")
		}
		cuts, _ := impl.Cuts(data, shape)
		if len(cuts) == 2-chunks/42 {
			line += fmt.Sprintf(" n%02d=%s", nodes, data)
			chunks, nodes = chunks+len(cuts), nodes+1
		}
	}
	if nodes > 39 {
		t.Fatalf("%d nodes", nodes)
	}
	checkLines(t, []string{"new", line, "list", "files"}, []string{"ok", "ok", "list 1@1", "files box-1 catalog"})
	checkLines(t, []string{"new", line + " x=y", "list", "files", "cut 99 1 x=y " + line[7:], "list", line}, []string{"ok", "no 7", "list", "files catalog", "no 7", "list", "ok"})
}

// unmarked is a text of 33 letters of which by the shape of scripts just the last one is not in the first chunk.
func unmarked() string {
	gears, shape := gearsByRule(), impl.Shape{Least: 4, Bits: 3, Most: 32}
	for seed := uint64(0); ; seed++ {
		text := lettersOf(seed, 33, "abcdefghijklmnopqrstuvwxyz")
		if slices.Equal(cutsByRule(gears, text, shape), []int64{32, 33}) {
			return text
		}
	}
}

func TestPromise17TheShapeOfScripts(t *testing.T) {
	text := unmarked()
	for long, next := range map[int]string{3: "3", 31: "3", 32: "3", 33: "4"} {
		checkLines(t, []string{"new", "snap 1 a=" + text[:long], "snap 1", "list"}, []string{"ok", "ok", "ok", "list 1@1 " + next + "@1"})
	}
	gears, shape := gearsByRule(), impl.Shape{Least: 4, Bits: 3, Most: 32}
	for seed := range uint64(60) {
		text := lettersOf(seed, int(seed)*2+1, "abcdefghijklmnopqrstuvwxyz")
		chunks := map[string]int{}
		last := int64(0)
		for _, cut := range cutsByRule(gears, text, shape) {
			chunks[text[last:cut]]++
			last = cut
		}
		checkLines(t, []string{"new", "snap 1 a=" + text, "snap 1", "list"}, []string{"ok", "ok", "ok", fmt.Sprint("list 1@1 ", 2+len(chunks), "@1")})
	}
}

func TestPromise17WhatACutLeaves(t *testing.T) {
	ahead := []string{"new", "snap 5 b=two"}
	older, newer := []string{"list 1@5", "show b=two", "no 9"}, []string{"list 1@5 3@6", "show b=two", "show b=three c/"}
	for n, c := range []struct {
		said  string
		files string
		seen  []string
	}{
		{"no 8", "files box-1 catalog", older},
		{"no 8", "files box-1 box-2 catalog", older},
		{"no 8", "files box-1 box-2 catalog", older},
		{"no 8", "files box-1 box-2 catalog catalog.new", older},
		{"no 8", "files box-1 box-2 catalog", newer},
		{"ok", "files box-1 box-2 catalog", newer},
		{"ok", "files box-1 box-2 catalog", newer},
	} {
		asks := []string{"files", "list", "show 1", "show 3", "files"}
		said := slices.Concat([]string{"ok", "ok", c.said, c.files}, c.seen, []string{c.files})
		checkLines(t, append(append(slices.Clone(ahead), fmt.Sprintf("cut %d 6 b=three c/", n)), asks...), said)
		swept := "files box-1 catalog"
		if n >= 4 {
			swept = "files box-1 box-2 catalog"
		}
		checkLines(t, slices.Concat(ahead, []string{fmt.Sprintf("cut %d 6 c/ b=three", n), "open"}, asks), slices.Concat([]string{"ok", "ok", c.said, "ok", swept}, c.seen, []string{swept}))
	}
}

func TestPromise17WhatACrashLeaves(t *testing.T) {
	// Behind cut 4 there are two ops: catalog.new is there, and is renamed.
	ahead := []string{"new", "snap 5 b=two", "cut 4 6 b=three"}
	for keep, seen := range [][]string{{"files box-1 catalog", "list 1@5", "no 9"}, {"files box-1 catalog", "list 1@5", "no 9"}, {"files box-1 box-2 catalog", "list 1@5 3@6", "show b=three"}, {"files box-1 box-2 catalog", "list 1@5 3@6", "show b=three"}} {
		for _, torn := range []string{"0", "1", "50", "999999"} {
			for _, more := range []string{"", "000"} {
				if keep < 2 && more != "" {
					continue
				}
				line := fmt.Sprintf("crash %d%s %s", keep, more, torn)
				checkLines(t, append(slices.Clone(ahead), line, "files", "list", "show 3"), append([]string{"ok", "ok", "no 8", "ok"}, seen...))
				checkLines(t, append(slices.Clone(ahead), line, line, "files", "list", "show 3"), append([]string{"ok", "ok", "no 8", "ok", "ok"}, seen...))
			}
		}
	}
	checkLines(t,
		[]string{"new", "snap 5 b=two", "cut 1 6 b=three", "files", "crash 1 3", "files", "cut 2 6 b=three", "files", "crash 0 0", "files", "list"},
		[]string{"ok", "ok", "no 8", "files box-1 box-2 catalog", "ok", "files box-1 catalog", "no 8", "files box-1 box-2 catalog", "ok", "files box-1 catalog", "list 1@5"})
	checkLines(t,
		[]string{"new", "crash 0 0", "list", "snap 1 a=x", "crash 0 0", "list", "drop 1", "files", "crash 0 0", "files", "list", "crash 1 0", "files"},
		[]string{"ok", "ok", "list", "ok", "ok", "list 1@1", "ok", "files catalog", "ok", "files catalog", "list", "ok", "files catalog"})
}

// album is a script without cuts and crashes gone through by rule, without disks: next and boxes tell in which box a chunk lies.
type album struct {
	isThere bool
	catalog impl.Catalog
	next    int64
	boxes   map[int64]int64
}

func (a *album) snap(time int64, tree []impl.Node) string {
	last := int64(0)
	for _, s := range a.catalog.Snaps {
		last = s.Time
	}
	switch {
	case !rightTreeByRule(tree) || time < last:
		return "no 6"
	case len(a.catalog.Snaps) == 20:
		return "no 7"
	}
	a.catalog = capturedByRule(a.catalog, tree, time)
	more := int64(0)
	for _, k := range a.catalog.Chunks {
		if a.boxes[k.Num] == 0 {
			a.boxes[k.Num] = a.next
			more = 1
		}
	}
	a.next += more
	return "ok"
}

func (a *album) drop(id int64) string {
	if !slices.ContainsFunc(a.catalog.Snaps, func(s impl.Snap) bool { return s.Id == id }) {
		return "no 9"
	}
	a.catalog = droppedByRule(a.catalog, id)
	return "ok"
}

func (a *album) list() string {
	said := "list"
	for _, s := range a.catalog.Snaps {
		said += fmt.Sprintf(" %d@%d", s.Id, s.Time)
	}
	return said
}

func (a *album) show(id int64) string {
	for _, s := range a.catalog.Snaps {
		if s.Id == id {
			tree, _ := treeByParts(a.catalog, s)
			return strings.Join(append([]string{"show"}, nodesSaid(tree)...), " ")
		}
	}
	return "no 9"
}

func (a *album) files() string {
	names := map[string]int{}
	if a.isThere {
		names["catalog"]++
	}
	for _, k := range a.catalog.Chunks {
		names[fmt.Sprint("box-", a.boxes[k.Num])]++
	}
	said := []string{"files"}
	for name := range names {
		said = append(said, name)
	}
	slices.Sort(said[1:])
	return strings.Join(said, " ")
}

// line needs one whose form is right.
func (a *album) line(t *testing.T, line string) string {
	s := scene{t: t}
	word, rest, _ := strings.Cut(line, " ")
	first, rest, _ := strings.Cut(rest, " ")
	switch {
	case word == "files":
		return a.files()
	case word == "new" && a.isThere:
		return "no 5"
	case word == "new":
		a.isThere = true
		a.catalog, a.next, a.boxes = impl.Catalog{Shape: impl.Shape{Least: 4, Bits: 3, Most: 32}, Next: 1}, 1, map[int64]int64{}
		return "ok"
	case !a.isThere:
		return "no 3"
	case word == "snap":
		return a.snap(s.number(first), nodesByRule(rest))
	case word == "drop":
		return a.drop(s.number(first))
	case word == "list":
		return a.list()
	case word == "show":
		return a.show(s.number(first))
	}
	return "ok"
}

// drawnTree has nodes whose Data have much in common, and now and then is not right.
func drawnTree(drawn string) string {
	words := ""
	for _, b := range []byte(drawn) {
		switch b % 16 {
		case 0:
			words += " d/"
		case 1:
			words += " d/x=onetwothree"
		case 2:
			words += " d/ d/y=two"
		case 3:
			words += fmt.Sprintf(" n%d=%s", b/16, strings.Repeat("abcdefgh", int(b/16)))
		default:
			words += fmt.Sprintf(" %c=%s", 'a'+b%5, []string{"", "one", "two", "onetwothree", lettersOf(uint64(b/16), 40, "abcdefgh")}[b/16%5])
		}
	}
	return words
}

// drawnLines has lines of all kinds behind new; those of lost power only where they are wanted.
func drawnLines(seed uint64, count int, withCuts bool) []string {
	list := []string{"new"}
	time := 0
	for i := range count - 1 {
		drawn := someBytes(seed*1000+uint64(i), 8)
		time += int(drawn[0]) % 3
		at := fmt.Sprint(time)
		kind := drawn[1] % 12
		if !withCuts && kind >= 10 {
			kind = 0
		}
		list = append(list, map[byte]string{
			0: "snap " + at + drawnTree(drawn[2:2+drawn[2]%6]),
			1: "snap " + at + drawnTree(drawn[2:4]),
			2: "snap " + fmt.Sprint(drawn[2]%40),
			3: "snap " + at + drawnTree(drawn[2:7]),
			4: fmt.Sprint("drop ", drawn[2]%32),
			5: fmt.Sprint("drop ", drawn[2]%8),
			6: "list",
			7: fmt.Sprint("show ", drawn[2]%32),
			8: []string{"files", "open", "new"}[drawn[2]%3],
			9: "files",
			// A cut in most acts, a crash with most ops.
			10: fmt.Sprint("cut ", drawn[6]%10, " ", at) + drawnTree(drawn[2:2+drawn[2]%4]),
			11: fmt.Sprint("crash ", drawn[2]%5, " ", drawn[3]),
		}[kind])
	}
	return list
}

func TestPromise17ScriptsWithoutDisks(t *testing.T) {
	codes := map[string]int{}
	for seed := range uint64(60) {
		var a album
		lines := append(drawnLines(seed, 30, false), "list", "files", "show 1", "show 2", "show 7")
		if seed%5 == 0 {
			lines = append([]string{"list", "show 1", "drop 1", "snap 1 a=x", "files"}, lines...)
		}
		var said []string
		for _, line := range lines {
			said = append(said, a.line(t, line))
			codes[strings.Split(said[len(said)-1], " ")[0]]++
			codes[said[len(said)-1]]++
		}
		checkLines(t, lines, said)
	}
	for _, code := range []string{"ok", "no 3", "no 5", "no 6", "no 9", "list", "show", "files"} {
		if codes[code] < 20 {
			t.Errorf("%q only %d times", code, codes[code])
		}
	}
}

func TestPromise17ScriptsByRule(t *testing.T) {
	codes := map[string]int{}
	for seed := range uint64(150) {
		text := script(drawnLines(seed+100, 40, true)...)
		checkByRule(t, text)
		for _, said := range strings.Split(impl.RunScript(text), "\n") {
			codes[said]++
		}
	}
	for _, code := range []string{"ok", "no 5", "no 6", "no 8", "no 9"} {
		if codes[code] < 20 {
			t.Errorf("%q only %d times", code, codes[code])
		}
	}
}
