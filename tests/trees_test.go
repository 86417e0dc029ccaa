package tests

import (
	"encoding/binary"
	"fmt"
	"path"
	"regexp"
	"slices"
	"strings"
	"testing"

	"loop.example/g00228/impl"
)

var (
	pathRule      = regexp.MustCompile(`^[a-z0-9._-]{1,20}(/[a-z0-9._-]{1,20}){0,5}$`)
	dotsRule      = regexp.MustCompile(`(^|/)\.\.?($|/)`)
	extensionRule = regexp.MustCompile(`^.+\.([^.]*)$`)
)

func pathByRule(p string) bool {
	return pathRule.MatchString(p) && !dotsRule.MatchString(p)
}

func parentByRule(p string) string {
	if up := path.Dir(p); pathByRule(p) && up != "." {
		return up
	}
	return ""
}

func extensionByRule(p string) string {
	if said := extensionRule.FindStringSubmatch(path.Base(p)); pathByRule(p) && said != nil {
		return said[1]
	}
	return ""
}

func dirNode(p string) impl.Node {
	return impl.Node{Path: p, Dir: true, Mode: 493}
}

func fileNode(p string, data string) impl.Node {
	return impl.Node{Path: p, Mode: 420, Data: data}
}

func nodes(list ...impl.Node) []impl.Node {
	return list
}

// rightTreeByRule asks for the Parent of each node among all others.
func rightTreeByRule(list []impl.Node) bool {
	for i, n := range list {
		if !pathByRule(n.Path) || n.Mode < 0 || n.Mode > 511 || len(n.Data) > 4000 || n.Dir && n.Data != "" {
			return false
		}
		if i > 0 && list[i-1].Path >= n.Path {
			return false
		}
		up := parentByRule(n.Path)
		if up != "" && !slices.ContainsFunc(list, func(m impl.Node) bool { return m.Path == up && m.Dir }) {
			return false
		}
	}
	return len(list) <= 40
}

func underByRule(list []impl.Node, p string) []impl.Node {
	var under []impl.Node
	for _, n := range list {
		if n.Path == p || strings.HasPrefix(n.Path, p+"/") {
			under = append(under, n)
		}
	}
	return under
}

func changedByRule(a []impl.Node, b []impl.Node) []string {
	count := map[impl.Node]int{}
	for _, n := range append(slices.Clone(a), b...) {
		count[n]++
	}
	var paths []string
	for n, times := range count {
		if times == 1 {
			paths = append(paths, n.Path)
		}
	}
	slices.Sort(paths)
	return slices.Compact(paths)
}

// saidNodes is the text of these nodes, whether they are right or not; numbers below 0 are told as those of 64 bits.
func saidNodes(list ...impl.Node) string {
	b := binary.AppendUvarint(nil, uint64(len(list)))
	for _, n := range list {
		b = binary.AppendUvarint(b, uint64(len(n.Path)))
		b = append(b, n.Path...)
		if n.Dir {
			b = binary.AppendUvarint(b, uint64(2*n.Mode+1))
			continue
		}
		b = binary.AppendUvarint(b, uint64(2*n.Mode))
		b = binary.AppendUvarint(b, uint64(len(n.Data)))
		b = append(b, n.Data...)
	}
	return string(b)
}

// readTreeByRule takes numbers of any form, and then asks whether the text is the one of what it has read.
func readTreeByRule(s string) ([]impl.Node, bool) {
	rest, broken := []byte(s), false
	number := func() int64 {
		n, used := binary.Uvarint(rest)
		if used <= 0 || n > 1000000000000 {
			broken = true
			return 0
		}
		rest = rest[used:]
		return int64(n)
	}
	text := func() string {
		long := number()
		if long > int64(len(rest)) {
			broken = true
			return ""
		}
		taken := string(rest[:long])
		rest = rest[long:]
		return taken
	}
	var list []impl.Node
	for left := number(); left > 0 && !broken; left-- {
		n := impl.Node{Path: text()}
		kind := number()
		n.Mode, n.Dir = kind/2, kind%2 == 1
		if !n.Dir {
			n.Data = text()
		}
		list = append(list, n)
	}
	if broken || !rightTreeByRule(list) || saidNodes(list...) != s {
		return nil, false
	}
	return list, true
}

// shownNodes tells the first few only, for lists and Data may be long.
func shownNodes(list []impl.Node) string {
	var b strings.Builder
	fmt.Fprintf(&b, "%d nodes (", len(list))
	for _, n := range list[:min(6, len(list))] {
		fmt.Fprintf(&b, "{%.30q %v %d %.20q}", n.Path, n.Dir, n.Mode, n.Data)
	}
	return b.String() + ")"
}

// manyNodes has just so many, of which each fourth is a directory and the next three lie in it.
func manyNodes(count int) []impl.Node {
	var list []impl.Node
	for i := range count {
		above := fmt.Sprintf("d%02d", i/4)
		if i%4 == 0 {
			list = append(list, dirNode(above))
		} else {
			list = append(list, fileNode(fmt.Sprintf("%s/f%02d", above, i), strings.Repeat("x", i)))
		}
	}
	return list
}

// someTree takes, by its seed, some of the paths whose neighbours part what lies below one.
func someTree(seed uint64) []impl.Node {
	drawn := someBytes(seed, 400)
	names := []string{"a", "a-b", "a.b", "a0", "ab", "b"}
	var list []impl.Node
	var grow func(above string, deep int)
	grow = func(above string, deep int) {
		for _, name := range names {
			draw := drawn[0]
			drawn = drawn[1:]
			if draw%3 != 0 || len(list) >= 30 || len(drawn) < 50 {
				continue
			}
			n := impl.Node{Path: above + name, Dir: draw%2 == 0 && deep < 5, Mode: int64(draw) * 2}
			if !n.Dir {
				n.Data = someBytes(uint64(draw), int(draw)%7)
			}
			list = append(list, n)
			if n.Dir {
				grow(n.Path+"/", deep+1)
			}
		}
	}
	grow("", 0)
	slices.SortFunc(list, func(x impl.Node, y impl.Node) int { return strings.Compare(x.Path, y.Path) })
	return list
}

// parted has nodes that stand between one and what lies below it: a-b and a.b are ahead of a/x, ab and a0 behind.
func parted() []impl.Node {
	return nodes(
		dirNode("a"), fileNode("a-b", "1"), dirNode("a.b"), fileNode("a.b/x", "2"), fileNode("a/x", "3"), dirNode("a/y"),
		fileNode("a/y-z", "4"), fileNode("a/y.", ""), fileNode("a/y/a", "5"), fileNode("a/y0", "6"), fileNode("a/yy", "7"),
		fileNode("a0", "8"), dirNode("aa"), fileNode("aa/x", "9"), fileNode("b", "10"),
	)
}

func deepest() []impl.Node {
	return nodes(dirNode("a"), dirNode("a/b"), dirNode("a/b/c"), dirNode("a/b/c/d"), dirNode("a/b/c/d/e"), fileNode("a/b/c/d/e/f", "deep"))
}

func rightTrees() [][]impl.Node {
	list := [][]impl.Node{
		nil,
		nodes(fileNode("a", "")),
		nodes(fileNode("a", "data")),
		nodes(dirNode("a")),
		nodes(impl.Node{Path: "a"}),
		nodes(impl.Node{Path: "a", Mode: 511}),
		nodes(impl.Node{Path: "a", Dir: true}),
		nodes(impl.Node{Path: "a", Dir: true, Mode: 511}),
		nodes(fileNode("a", strings.Repeat("\xff", 4000))),
		nodes(fileNode("a", "\x00"), fileNode("a-", "\xff\n/"), fileNode("aa", "")),
		nodes(fileNode("-", ""), fileNode("...", ""), fileNode(".x", ""), fileNode("0", ""), fileNode("_", ""), fileNode("z", "")),
		nodes(dirNode("a"), dirNode("a/a"), dirNode("a/a/a"), fileNode("a/a/b", "x"), fileNode("b", "")),
		nodes(dirNode(strings.Repeat("n", 20)), fileNode(strings.Repeat("n", 20)+"/"+strings.Repeat("m", 20), "x")),
		parted(), deepest(), manyNodes(2), manyNodes(39), manyNodes(40),
	}
	for seed := range uint64(60) {
		list = append(list, someTree(seed))
	}
	return list
}

func wrongTrees() [][]impl.Node {
	const most, least = 1<<63 - 1, -1 << 63
	list := [][]impl.Node{
		nodes(impl.Node{}),
		nodes(fileNode("b", ""), fileNode("a", "")),
		nodes(fileNode("a", ""), fileNode("a", "")),
		nodes(fileNode("a", "1"), fileNode("a", "2")),
		nodes(dirNode("a"), dirNode("a")),
		nodes(dirNode("a"), fileNode("a", "")),
		nodes(dirNode("a"), fileNode("a/x", ""), fileNode("a-b", "")),
		nodes(fileNode("a", ""), fileNode("c", ""), fileNode("b", "")),
		nodes(fileNode("a/x", "")),
		nodes(dirNode("a/x")),
		nodes(fileNode("a/x", ""), dirNode("b")),
		nodes(fileNode("a/x", ""), dirNode("a")),
		nodes(dirNode("a"), fileNode("b/x", "")),
		nodes(dirNode("a"), fileNode("aa/x", "")),
		nodes(dirNode("aa"), fileNode("aaa/x", "")),
		nodes(dirNode("a"), fileNode("a/b/x", "")),
		nodes(dirNode("b"), fileNode("b/a/b", "")),
		nodes(dirNode("a"), dirNode("a/a"), fileNode("a/b/x", "")),
		nodes(dirNode("b"), fileNode("b/b", ""), fileNode("b/b/x", "")),
		nodes(fileNode("a", ""), fileNode("a/x", "")),
		nodes(fileNode("a", "data"), dirNode("a/x")),
		nodes(impl.Node{Path: "a", Dir: true, Data: "x"}),
		nodes(fileNode("a", strings.Repeat("x", 4001))),
		nodes(fileNode("a", strings.Repeat("x", 100001))),
		nodes(dirNode("a"), impl.Node{Path: "a/b", Dir: true, Data: "\x00"}),
		manyNodes(41), manyNodes(400),
		append(manyNodes(40), fileNode("z", "")),
		append(deepest()[:5], dirNode("a/b/c/d/e/f"), fileNode("a/b/c/d/e/f/g", "")),
	}
	for _, mode := range []int64{512, -1, 513, 1023, 1024, -511, -512, 1 << 32, most, least, most / 2, least / 2, least + 1} {
		list = append(list, nodes(impl.Node{Path: "a", Mode: mode}), nodes(impl.Node{Path: "a", Dir: true, Mode: mode}))
	}
	for _, p := range wrongPaths() {
		list = append(list, nodes(fileNode(p, "x")), nodes(dirNode(p)))
	}
	for _, one := range list {
		if len(one) == 1 {
			list = append(list, append(nodes(fileNode("-", "")), one...), append(one[:1:1], fileNode("zz", "")))
		}
	}
	return list
}

func rightPaths() []string {
	twenty := strings.Repeat("n", 20)
	list := []string{
		"a", "z", "0", "9", ".x", "-", "_", "--", "...", "....", ".a", "a.", "..a", "a..", "a..b", ".-", "._", "-.", ".0.",
		"a/b", "a/b/c", "a/b/c/d", "a/b/c/d/e", "a/b/c/d/e/f", "a/...", ".../a", "a/.x", ".x/a", "a./b.", "a/..b", "a/b..", "..b/a", ".b/.c",
		twenty, twenty[1:], "a/" + twenty, twenty + "/a", strings.Repeat(".", 20), strings.Repeat("-", 20),
		strings.Repeat(twenty+"/", 5) + twenty, "abcdefghijklmnopqrst", "uvwxyz0123456789.-_",
	}
	return list
}

func wrongPaths() []string {
	twentyOne := strings.Repeat("n", 21)
	list := []string{
		"", "/", "//", ".", "..", "/a", "a/", "a//b", "//a", "a//", "/a/", "a/b/", "a/b//c", "a/b/c/d/e/f/", "/b/c/d/e/f",
		"./a", "../a", "a/.", "a/..", "a/./b", "a/../b", "./.", "../..", "./", "/.", "../", "/..",
		"a/b/c/d/e/f/g", "a/b/c/d/e/f/g/h", "a/b/c/d/e/f//", strings.Repeat("a/", 1000) + "a", strings.Repeat("/", 6), strings.Repeat("/", 1000),
		twentyOne, "a/" + twentyOne, twentyOne + "/a", "a/" + twentyOne + "/b", strings.Repeat(".", 21), strings.Repeat("n", 300), strings.Repeat("n", 100000),
		"A", "Z", "aB", "Ab", "a/B", "A/b", "a.Go", "`", "{", ":", ",", "^", "@", "[", "+", "*", " ", "a b", " a", "a ", "a\n", "\na", "a/b\n",
		"a\x00", "\x00", "\x00a", "a\\b", "\\", "\xff", "\xc3\xa4", "a/\xc3\xa4", "\u017f", "\u212a", "a\x80", "~", "a~", "=",
	}
	return list
}

func checkPath(t *testing.T, p string, ok bool, up string, extension string) {
	t.Helper()
	if got := impl.PathOk(p); got != ok {
		t.Errorf("PathOk(%.60q): %v, not %v", p, got, ok)
	}
	if got := impl.Parent(p); got != up {
		t.Errorf("Parent(%.60q): %q, not %q", p, got, up)
	}
	if got := impl.Extension(p); got != extension {
		t.Errorf("Extension(%.60q): %q, not %q", p, got, extension)
	}
}

func checkTree(t *testing.T, list []impl.Node, want bool) {
	t.Helper()
	if ok := impl.TreeOk(list); ok != want {
		t.Errorf("TreeOk of %s: %v, not %v", shownNodes(list), ok, want)
	}
}

func checkFound(t *testing.T, list []impl.Node, p string, want impl.Node) {
	t.Helper()
	if n, ok := impl.Find(list, p); !ok || n != want {
		t.Errorf("Find %.40q in %s: %s, %v, not %s", p, shownNodes(list), shownNodes(nodes(n)), ok, shownNodes(nodes(want)))
	}
}

func checkNotFound(t *testing.T, list []impl.Node, p string) {
	t.Helper()
	if n, ok := impl.Find(list, p); ok || n != (impl.Node{}) {
		t.Errorf("Find %.40q in %s: %s, %v", p, shownNodes(list), shownNodes(nodes(n)), ok)
	}
	checkUnder(t, list, p)
}

func checkUnder(t *testing.T, list []impl.Node, p string, want ...impl.Node) {
	t.Helper()
	if under := impl.Under(list, p); !slices.Equal(under, want) {
		t.Errorf("Under %.40q in %s: %s, not %s", p, shownNodes(list), shownNodes(under), shownNodes(want))
	}
}

// checkChanged asks either way round: what one has and the other has not is the same.
func checkChanged(t *testing.T, a []impl.Node, b []impl.Node, want ...string) {
	t.Helper()
	if paths := impl.Changed(a, b); !slices.Equal(paths, want) {
		t.Errorf("Changed between %s and %s: %.200q, not %.200q", shownNodes(a), shownNodes(b), paths, want)
	}
	if paths := impl.Changed(b, a); !slices.Equal(paths, want) {
		t.Errorf("Changed between %s and %s: %.200q, not %.200q", shownNodes(b), shownNodes(a), paths, want)
	}
}

func checkTreeRead(t *testing.T, s string, want []impl.Node) {
	t.Helper()
	if list, ok := impl.ReadTree(s); !ok || !slices.Equal(list, want) {
		t.Errorf("ReadTree of %d bytes (%.60q): %s, %v, not %s", len(s), s, shownNodes(list), ok, shownNodes(want))
	}
}

func checkNoTree(t *testing.T, what string, s string) {
	t.Helper()
	if list, ok := impl.ReadTree(s); ok || len(list) != 0 {
		t.Errorf("%s: ReadTree of %d bytes (%.60q) tells %s, %v", what, len(s), s, shownNodes(list), ok)
	}
}

func TestPromise10PathsThatAreRight(t *testing.T) {
	for _, p := range rightPaths() {
		checkPath(t, p, true, parentByRule(p), extensionByRule(p))
	}
}

func TestPromise10PathsThatAreNotRight(t *testing.T) {
	for _, p := range wrongPaths() {
		checkPath(t, p, false, "", "")
	}
}

func TestPromise10EachByteOfAName(t *testing.T) {
	const right = "abcdefghijklmnopqrstuvwxyz0123456789.-_"
	for b := range 256 {
		one := string([]byte{byte(b)})
		ok := strings.Contains(right, one)
		for _, p := range []string{"x" + one + "y", "d/x" + one + "y", "x" + one + "y/f"} {
			if got := impl.PathOk(p); got != (ok || b == '/') {
				t.Errorf("PathOk(%q): %v", p, got)
			}
		}
		for _, p := range []string{one, "d/" + one, one + "/f", "d/" + one + "/f"} {
			if got := impl.PathOk(p); got != (ok && b != '.') {
				t.Errorf("PathOk(%q): %v", p, got)
			}
		}
		if got := impl.PathOk("x"+one) && impl.PathOk(one+"x"); got != ok {
			t.Errorf("PathOk beside %q: %v", one, got)
		}
	}
}

func TestPromise10PathsAsTheDocumentSays(t *testing.T) {
	check := func(p string) { checkPath(t, p, pathByRule(p), parentByRule(p), extensionByRule(p)) }
	someStrings("a./", 9, check)
	someStrings("b-.A/", 6, check)
	for seed := range uint64(3000) {
		check(lettersOf(seed, int(seed%60), "abcz09.-_/abcxyz"))
	}
	for parts := range 9 {
		for long := range 24 {
			name := strings.Repeat("q", long)
			check(strings.Repeat("a/", parts) + name)
			check(strings.Repeat(name+"/", parts) + name)
			check(name + strings.Repeat("/a", parts))
		}
	}
}

func TestPromise10WhatIsAboveARightPathIsOne(t *testing.T) {
	check := func(p string) {
		if !impl.PathOk(p) {
			return
		}
		steps := strings.Count(p, "/")
		for up := impl.Parent(p); up != ""; up = impl.Parent(up) {
			if !impl.PathOk(up) || !strings.HasPrefix(p, up+"/") {
				t.Errorf("%q is above %q", up, p)
			}
			steps--
		}
		if steps != 0 {
			t.Errorf("%q has %d names too many", p, steps)
		}
	}
	for _, p := range rightPaths() {
		check(p)
	}
	someStrings("a.-/", 7, check)
	checkPath(t, "a", true, "", "")
	checkPath(t, "a/b", true, "a", "")
	checkPath(t, "a.b/c/d", true, "a.b/c", "")
	checkPath(t, "a/b/c/d/e/f", true, "a/b/c/d/e", "")
}

func TestPromise10Extensions(t *testing.T) {
	for name, want := range map[string]string{
		"a": "", "a.go": "go", "a.b.c": "c", "z.tar.gz": "gz", "a.": "", "a.b.": "", "a..": "", "a..b": "b", "a.b..": "",
		".x": "", ".x.y": "y", ".x.": "", "..x": "x", "...": "", "...x": "x", ".a.b.c": "c", "-.x": "x", "a.-": "-", "a._0": "_0", ".-": "",
		"0.1.2": "2", "a.b-c": "b-c", "n.abcdefghijklmnopqr": "abcdefghijklmnopqr",
	} {
		checkPath(t, name, true, "", want)
		checkPath(t, "d/"+name, true, "d", want)
		checkPath(t, "d.e/f.g/"+name, true, "d.e/f.g", want)
		checkPath(t, name+"/b", true, name, "")
		checkPath(t, name+"/.b", true, name, "")
		checkPath(t, name+"/b.x", true, name, "x")
		checkPath(t, name+"/", false, "", "")
		checkPath(t, "/"+name, false, "", "")
		checkPath(t, "A/"+name, false, "", "")
		checkPath(t, name+"//c.d", false, "", "")
	}
}

func TestPromise10TreesThatAreRight(t *testing.T) {
	for _, list := range rightTrees() {
		checkTree(t, list, true)
	}
}

func TestPromise10TreesThatAreNotRight(t *testing.T) {
	for _, list := range wrongTrees() {
		checkTree(t, list, false)
		for _, p := range []string{"a", "a/x", "d00", "", "-", "zz"} {
			checkNotFound(t, list, p)
		}
		for _, n := range list[:min(3, len(list))] {
			checkNotFound(t, list, n.Path)
		}
		checkChanged(t, list, list)
		checkChanged(t, list, nil)
		checkChanged(t, list, parted())
		checkChanged(t, list, wrongTrees()[0])
		if s := impl.TreeText(list); s != "" {
			t.Errorf("TreeText of %s: %.40q", shownNodes(list), s)
		}
	}
}

func TestPromise10TreesAsTheDocumentSays(t *testing.T) {
	var all []impl.Node
	for _, p := range []string{"a", "a-", "a/b", "a/b/c", "b", "b/", "b/a"} {
		all = append(all, dirNode(p), fileNode(p, ""))
	}
	for _, x := range all {
		for _, y := range all {
			checkTree(t, nodes(x, y), rightTreeByRule(nodes(x, y)))
			for _, z := range all {
				checkTree(t, nodes(x, y, z), rightTreeByRule(nodes(x, y, z)))
			}
		}
	}
	for _, list := range rightTrees() {
		for i := range list {
			less := slices.Delete(slices.Clone(list), i, i+1)
			checkTree(t, less, rightTreeByRule(less))
			other := slices.Clone(list)
			other[i].Dir = !other[i].Dir
			checkTree(t, other, rightTreeByRule(other))
			other[0], other[i] = other[i], other[0]
			checkTree(t, other, rightTreeByRule(other))
		}
	}
}

func TestPromise10NodesAreFoundByTheirPath(t *testing.T) {
	for _, list := range rightTrees() {
		for _, n := range list {
			checkFound(t, list, n.Path, n)
			for _, p := range []string{n.Path + "/", "/" + n.Path, n.Path + "/q", n.Path + "//", n.Path + "\x00", n.Path + "/" + n.Path + "/q", "./" + n.Path, strings.ToUpper(n.Path) + "Q"} {
				checkNotFound(t, list, p)
			}
		}
		for _, p := range append(wrongPaths(), "q", "a/q", "q/a", "d0", "d", "a/b/c/d/e/g", "a-bb") {
			checkNotFound(t, list, p)
		}
	}
	checkNotFound(t, parted(), "x")
	checkNotFound(t, parted(), "y")
	checkNotFound(t, parted(), "a/b")
	checkNotFound(t, deepest(), "a/b/c/d/e/f/g")
	checkNotFound(t, deepest(), "a/b/c/d/e/f/g/h")
}

func TestPromise10WhatLiesUnderAPath(t *testing.T) {
	list := parted()
	checkUnder(t, list, "a", list[0], list[4], list[5], list[6], list[7], list[8], list[9], list[10])
	checkUnder(t, list, "a/y", list[5], list[8])
	checkUnder(t, list, "a/y-z", list[6])
	checkUnder(t, list, "a.b", list[2], list[3])
	checkUnder(t, list, "aa", list[12], list[13])
	checkUnder(t, list, "a-b", list[1])
	checkUnder(t, list, "b", list[14])
	checkUnder(t, deepest(), "a", deepest()...)
	checkUnder(t, deepest(), "a/b/c/d/e/f", deepest()[5])
	for _, none := range []string{"", "/", "a/", "a/y/", "x", "y", "a/b", "a-", "c", "a/y/b", "a/z", "A"} {
		checkUnder(t, list, none)
	}
	for _, list := range rightTrees() {
		for _, n := range list {
			checkUnder(t, list, n.Path, underByRule(list, n.Path)...)
		}
	}
}

func TestPromise10OneFieldThatHasChanged(t *testing.T) {
	list := nodes(dirNode("a"), fileNode("a/x", ""), fileNode("a/y", "data"), fileNode("b", "data"), dirNode("c"), fileNode("d", "data"))
	change := func(i int, to impl.Node) []impl.Node {
		other := slices.Clone(list)
		other[i] = to
		return other
	}
	checkChanged(t, list, list)
	checkChanged(t, list, slices.Clone(list))
	checkChanged(t, list, change(0, impl.Node{Path: "a", Dir: true, Mode: 494}), "a")
	checkChanged(t, list, change(1, impl.Node{Path: "a/x", Mode: 0}), "a/x")
	checkChanged(t, list, change(1, impl.Node{Path: "a/x", Dir: true, Mode: 420}), "a/x")
	checkChanged(t, list, change(1, fileNode("a/x", "\x00")), "a/x")
	checkChanged(t, list, change(2, fileNode("a/y", "datb")), "a/y")
	checkChanged(t, list, change(2, fileNode("a/y", "dat")), "a/y")
	checkChanged(t, list, change(2, fileNode("a/y", "")), "a/y")
	checkChanged(t, list, change(3, impl.Node{Path: "b", Mode: 421, Data: "data"}), "b")
	checkChanged(t, list, change(4, impl.Node{Path: "c", Mode: 493}), "c")
	checkChanged(t, list, change(2, fileNode("a/z", "data")), "a/y", "a/z")
	checkChanged(t, list, change(5, fileNode("e", "data")), "d", "e")
	checkChanged(t, list, change(5, fileNode("c/d", "data")), "c/d", "d")
}

func TestPromise10JustThosePathsHaveChanged(t *testing.T) {
	checkChanged(t, nil, nil)
	checkChanged(t, nil, nodes(fileNode("a", "")), "a")
	checkChanged(t, parted()[:1], parted()[:3], "a-b", "a.b")
	checkChanged(t, parted(), parted()[:14], "b")
	checkChanged(t, parted(), parted()[1:4], "a", "a/x", "a/y", "a/y-z", "a/y.", "a/y/a", "a/y0", "a/yy", "a0", "aa", "aa/x", "b")
	checkChanged(t, nodes(fileNode("a", ""), fileNode("c", "")), nodes(fileNode("b", ""), fileNode("d", "")), "a", "b", "c", "d")
	checkChanged(t, manyNodes(40), nil, changedByRule(manyNodes(40), nil)...)
	checkChanged(t, manyNodes(40), parted(), changedByRule(manyNodes(40), parted())...)
	trees := rightTrees()
	for _, a := range trees {
		for _, b := range trees {
			checkChanged(t, a, b, changedByRule(a, b)...)
		}
	}
}

func TestPromise10TextsOfTrees(t *testing.T) {
	for _, c := range []struct {
		list []impl.Node
		want string
	}{
		{nil, "\x00"},
		{nodes(impl.Node{Path: "a"}), "\x01\x01a\x00\x00"},
		{nodes(impl.Node{Path: "a", Dir: true}), "\x01\x01a\x01"},
		{nodes(impl.Node{Path: "a", Mode: 511}), "\x01\x01a\xfe\x07\x00"},
		{nodes(impl.Node{Path: "a", Dir: true, Mode: 511}), "\x01\x01a\xff\x07"},
		{nodes(impl.Node{Path: "ab", Mode: 63, Data: "\x00\xff"}), "\x01\x02ab\x7e\x02\x00\xff"},
		{nodes(impl.Node{Path: "ab", Mode: 64, Data: "x"}), "\x01\x02ab\x80\x01\x01x"},
		{nodes(impl.Node{Path: "ab", Mode: 64, Dir: true}), "\x01\x02ab\x81\x01"},
		{nodes(dirNode("a"), fileNode("a/x", "hi")), "\x02\x01a\xdb\x07\x03a/x\xc8\x06\x02hi"},
		{nodes(fileNode("a", strings.Repeat("x", 128)), fileNode("b", "")), "\x02\x01a\xc8\x06\x80\x01" + strings.Repeat("x", 128) + "\x01b\xc8\x06\x00"},
		{nodes(fileNode("a", strings.Repeat("y", 4000))), "\x01\x01a\xc8\x06\xa0\x1f" + strings.Repeat("y", 4000)},
	} {
		if s := impl.TreeText(c.list); s != c.want {
			t.Errorf("TreeText of %s: %.40q, not %.40q", shownNodes(c.list), s, c.want)
		}
		checkTreeRead(t, c.want, c.list)
	}
}

func TestPromise10RightTreesComeBack(t *testing.T) {
	for _, list := range rightTrees() {
		s := impl.TreeText(list)
		if s != saidNodes(list...) {
			t.Errorf("TreeText of %s: %.40q, not %.40q", shownNodes(list), s, saidNodes(list...))
		}
		checkTreeRead(t, s, list)
	}
}

// saidOtherwise holds where a text says another node, which may be right: a directory's Data are not said, and twice the Mode may wrap.
func saidOtherwise(n impl.Node) bool {
	return n.Dir && n.Data != "" || n.Mode > 1<<62 || n.Mode < -1<<62
}

func TestPromise10WrongTreesAreNotRead(t *testing.T) {
	for _, list := range wrongTrees() {
		if !slices.ContainsFunc(list, saidOtherwise) {
			checkNoTree(t, "a wrong tree", saidNodes(list...))
		}
	}
	checkNoTree(t, "a directory with Data", "\x01\x01a\x01\x01x")
	checkNoTree(t, "a directory with a size", "\x01\x01a\x01\x00")
	checkNoTree(t, "a file without a size", "\x01\x01a\x00")
	checkNoTree(t, "41 nodes", saidNodes(manyNodes(41)...))
}

func TestPromise10BytesOfTreesBehindAndThatAreNotThere(t *testing.T) {
	checkNoTree(t, "no bytes", "")
	for _, list := range rightTrees() {
		s := saidNodes(list...)
		for cut := range len(s) {
			checkNoTree(t, "cut short", s[:cut])
		}
		for _, more := range []string{"\x00", "\x01", "x", "\xff", "\x01z\x00\x00", s} {
			checkNoTree(t, "bytes behind the end", s+more)
		}
		checkNoTree(t, "a node fewer than is said", saidNodes(append(slices.Clone(list), fileNode("z", "x"))...)[:len(s)])
	}
}

func TestPromise10BytesOfTreesThatAreChanged(t *testing.T) {
	check := func(s string) {
		if want, is := readTreeByRule(s); is {
			checkTreeRead(t, s, want)
		} else {
			checkNoTree(t, "no tree's text", s)
		}
	}
	for _, list := range [][]impl.Node{nil, parted(), deepest(), manyNodes(9), nodes(fileNode("a", "x"), fileNode("b", "")), nodes(dirNode("a"), fileNode("a/b", "hello"))} {
		s := saidNodes(list...)
		for at := range s {
			check(s[:at] + s[at+1:])
			check(s[:at] + "\x00" + s[at:])
			for b := range 256 {
				changed := s[:at] + string([]byte{byte(b)}) + s[at+1:]
				check(changed)
				if other, ok := impl.ReadTree(changed); ok && changed != s && slices.Equal(other, list) {
					t.Errorf("%s is read from %q, and from %q", shownNodes(list), s, changed)
				}
			}
		}
	}
	someStrings("\x00\x01ab", 8, check)
	for seed := range uint64(3000) {
		check(lettersOf(seed, int(seed%14), "\x00\x01\x02\x03a/b\x80x"))
	}
}

func TestPromise10NumbersOfTreesInAnotherForm(t *testing.T) {
	checkTreeRead(t, "\x01\x01a\x01", nodes(impl.Node{Path: "a", Dir: true}))
	checkTreeRead(t, "\x01\x01a\x00\x01x", nodes(impl.Node{Path: "a", Data: "x"}))
	for _, one := range []string{"\x81", "\x81\x00", "\x81\x80\x00", "\x81\x80\x80\x80\x80\x80\x80\x80\x80\x00", "\x81\x80\x80\x80\x80\x80\x80\x80\x80\x02", strings.Repeat("\x81", 10) + "\x01"} {
		checkNoTree(t, "a count", one+"\x01a\x01")
		checkNoTree(t, "a size of a Path", "\x01"+one+"a\x01")
		checkNoTree(t, "a Mode", "\x01\x01a"+one)
		checkNoTree(t, "a size of Data", "\x01\x01a\x00"+one+"x")
	}
	for _, nought := range []string{"\x80", "\x80\x00", "\x80\x80\x00", "\x80\x80\x80\x80\x80\x80\x80\x80\x80\x00", "\x80\x80\x80\x80\x80\x80\x80\x80\x80\x02"} {
		checkNoTree(t, "a count of no nodes", nought)
		checkNoTree(t, "a Mode", "\x01\x01a"+nought+"\x00")
		checkNoTree(t, "a size of no Data", "\x01\x01a\x00"+nought)
	}
}

func TestPromise10NumbersOfTreesThatAreTooGreat(t *testing.T) {
	for _, n := range edgeNumbers() {
		if n <= 4000 {
			continue
		}
		number := impl.PutNum(n)
		checkNoTree(t, "a count", number)
		checkNoTree(t, "a count", number+saidNodes(manyNodes(40)...)[1:])
		checkNoTree(t, "a size of a Path", "\x01"+number+"a\x01")
		checkNoTree(t, "a size of a Path", "\x01"+number+strings.Repeat("a", 5000))
		checkNoTree(t, "a Mode", "\x01\x01a"+number)
		checkNoTree(t, "a Mode", "\x01\x01a"+number+"\x00")
		checkNoTree(t, "a size of Data", "\x01\x01a\x00"+number+"x")
		checkNoTree(t, "a size of Data", "\x01\x01a\x00"+number+strings.Repeat("x", 5000))
	}
	checkTreeRead(t, "\x01\x01a\xff\x07", nodes(impl.Node{Path: "a", Dir: true, Mode: 511}))
	checkNoTree(t, "a Mode of 512", "\x01\x01a\x80\x08\x00")
	checkNoTree(t, "a directory's Mode of 512", "\x01\x01a\x81\x08")
}

func TestPromise18TreesAreNewMemory(t *testing.T) {
	list := nodes(dirNode(strings.Clone("dir")), fileNode(strings.Clone("dir/file.ext"), strings.Clone("some data")))
	s := impl.TreeText(list)
	read, _ := impl.ReadTree(s)
	found, _ := impl.Find(list, "dir/file.ext")
	under := impl.Under(list, "dir")
	answers := []string{s, impl.Parent(list[1].Path), impl.Extension(list[1].Path), found.Path, found.Data}
	for _, n := range append(slices.Clone(read), under...) {
		answers = append(answers, n.Path, n.Data)
	}
	answers = append(answers, impl.Changed(list, nil)...)
	answers = append(answers, impl.Changed(nil, list)...)
	if len(answers) != 5+8+4 || answers[1] != "dir" || answers[2] != "ext" || found != list[1] {
		t.Fatalf("answers: %q", answers)
	}
	arguments := []string{list[0].Path, list[1].Path, list[1].Data}
	for i, answer := range answers {
		for _, argument := range arguments {
			if sharesMemory(answer, argument) {
				t.Errorf("answer %d, %q, lies in an argument", i, answer)
			}
		}
		for k, other := range answers {
			if i != k && sharesMemory(answer, other) {
				t.Errorf("answers %d and %d, %q and %q, share memory", i, k, answer, other)
			}
		}
	}
}

func TestPromise18TreesWriteIntoNoArgument(t *testing.T) {
	list := append(make([]impl.Node, 0, 60), parted()...)
	list = append(list, dirNode("spare"), dirNode("room"))
	same := slices.Clone(list)
	a, b := list[:15], append(make([]impl.Node, 0, 60), deepest()...)
	answers := func() ([]impl.Node, []string, string, []impl.Node) {
		n, _ := impl.Find(a, "a/y")
		s := impl.TreeText(a)
		read, _ := impl.ReadTree(s)
		return append(impl.Under(a, "a"), n), impl.Changed(a, b), s, read
	}
	under, changed, s, read := answers()
	firstUnder, firstChanged, firstRead := slices.Clone(under), slices.Clone(changed), slices.Clone(read)
	clear(under[:cap(under)])
	clear(changed[:cap(changed)])
	clear(read[:cap(read)])
	if !slices.Equal(list, same) || !slices.Equal(b, deepest()) {
		t.Error("something was written into an argument, or behind it")
	}
	under, changed, again, read := answers()
	if !slices.Equal(under, firstUnder) || !slices.Equal(changed, firstChanged) || !slices.Equal(read, firstRead) || again != s {
		t.Error("the same arguments give other answers")
	}
}
