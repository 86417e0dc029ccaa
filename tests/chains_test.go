package tests

import (
	"fmt"
	"slices"
	"strings"
	"testing"

	"loop.example/g00228/impl"
)

func whole(s string) impl.Link {
	return impl.Link{Base: -1, Data: s}
}

func over(base int64, list ...impl.Piece) impl.Link {
	return impl.Link{Base: base, Pieces: list}
}

func chain(list ...impl.Link) []impl.Link {
	return list
}

func sameLink(a impl.Link, b impl.Link) bool {
	return a.Base == b.Base && a.Data == b.Data && slices.Equal(a.Pieces, b.Pieces)
}

func sameChain(a []impl.Link, b []impl.Link) bool {
	return slices.EqualFunc(a, b, sameLink)
}

func shownChain(list []impl.Link) string {
	var b strings.Builder
	fmt.Fprintf(&b, "%d links [", len(list))
	for _, l := range list[:min(8, len(list))] {
		fmt.Fprintf(&b, "{%d %.20q %s}", l.Base, l.Data, shown(l.Pieces))
	}
	return b.String() + "]"
}

// textByRule makes each version anew, from a whole one on.
func textByRule(list []impl.Link, n int64) string {
	if list[n].Base == -1 {
		return list[n].Data
	}
	return madeByRule(textByRule(list, list[n].Base), list[n].Pieces)
}

func depthByRule(list []impl.Link, n int64) int64 {
	depth := int64(0)
	for list[n].Base != -1 {
		n = list[n].Base
		depth++
	}
	return depth
}

func rightLinkByRule(list []impl.Link, n int64) bool {
	l := list[n]
	if l.Base == -1 {
		return len(l.Pieces) == 0 && len(l.Data) <= 4000
	}
	if l.Base < -1 || l.Base >= n || l.Data != "" {
		return false
	}
	return okByRule(int64(len(textByRule(list, l.Base))), l.Pieces) && depthByRule(list, n) <= 6
}

func rightChainByRule(list []impl.Link) bool {
	for n := range list {
		if !rightLinkByRule(list, int64(n)) {
			return false
		}
	}
	return len(list) <= 30
}

func bytesByRule(list []impl.Link) int64 {
	size := 0
	for _, l := range list {
		size += len(l.Data)
		if l.Base != -1 {
			size += len(saidPieces(l.Pieces...))
		}
	}
	return int64(size)
}

func addedByRule(list []impl.Link, text string, base int64) impl.Link {
	if base == -1 || depthByRule(list, base) >= 6 {
		return whole(text)
	}
	delta := deltaByRule(textByRule(list, base), text)
	if len(delta) > 500 || len(saidPieces(delta...)) >= len(text) {
		return whole(text)
	}
	return over(base, delta...)
}

func changedLink(list []impl.Link, n int64, l impl.Link) []impl.Link {
	changed := slices.Clone(list)
	changed[n] = l
	return changed
}

// noNumbers has numbers below 0 and behind the end, some of which have lower bits that are a number.
func noNumbers(list []impl.Link) []int64 {
	end := int64(len(list))
	return []int64{-1, -2, -end, -end - 1, end, end + 1, 2*end + 1, 30, 31, 256, 1 << 32, 1<<32 + 1, 1 << 62, greatest, lowest, lowest + 1}
}

func checkVersion(t *testing.T, what string, list []impl.Link, n int64, text string, depth int64) {
	t.Helper()
	if s, ok := impl.VersionAt(list, n); !ok || s != text {
		t.Errorf("%s: version %d of %s: %.40q, %v, not %.40q", what, n, shownChain(list), s, ok, text)
	}
	if got := impl.DepthAt(list, n); got != depth {
		t.Errorf("%s: version %d of %s is %d deep, not %d", what, n, shownChain(list), got, depth)
	}
}

// checkNoVersion holds for a number that there is none of, and for all of a chain that is not right.
func checkNoVersion(t *testing.T, what string, list []impl.Link, n int64) {
	t.Helper()
	if s, ok := impl.VersionAt(list, n); ok || s != "" {
		t.Errorf("%s: version %d of %s: %.40q, %v", what, n, shownChain(list), s, ok)
	}
	if depth := impl.DepthAt(list, n); depth != -1 {
		t.Errorf("%s: version %d of %s is %d deep", what, n, shownChain(list), depth)
	}
	if out, ok := impl.Whole(list, n); ok || len(out) != 0 {
		t.Errorf("%s: Whole of %d of %s: %s, %v", what, n, shownChain(list), shownChain(out), ok)
	}
	checkNotSkipped(t, what, list, n)
}

func checkNotSkipped(t *testing.T, what string, list []impl.Link, n int64) {
	t.Helper()
	if out, ok := impl.Skip(list, n); ok || len(out) != 0 {
		t.Errorf("%s: Skip of %d of %s: %s, %v", what, n, shownChain(list), shownChain(out), ok)
	}
}

func checkNotAdded(t *testing.T, what string, list []impl.Link, text string, base int64) {
	t.Helper()
	if out, ok := impl.AddVersion(list, text, base); ok || len(out) != 0 {
		t.Errorf("%s: AddVersion of %.40q over %d to %s: %s, %v", what, text, base, shownChain(list), shownChain(out), ok)
	}
}

// checkChain holds each version of a right chain, how deep it is, and how many bytes all have against plain rules.
func checkChain(t *testing.T, what string, list []impl.Link) {
	t.Helper()
	if !rightChainByRule(list) {
		t.Fatalf("%s: %s is not right by the rule", what, shownChain(list))
	}
	if !impl.ChainOk(list) {
		t.Errorf("%s: %s is not right", what, shownChain(list))
	}
	for n := range int64(len(list)) {
		checkVersion(t, what, list, n, textByRule(list, n), depthByRule(list, n))
	}
	if size := impl.ChainBytes(list); size != bytesByRule(list) {
		t.Errorf("%s: %s has %d bytes, not %d", what, shownChain(list), size, bytesByRule(list))
	}
}

func checkNoChain(t *testing.T, what string, list []impl.Link) {
	t.Helper()
	if impl.ChainOk(list) {
		t.Errorf("%s: %s is right", what, shownChain(list))
	}
	if size := impl.ChainBytes(list); size != -1 {
		t.Errorf("%s: %s has %d bytes", what, shownChain(list), size)
	}
	for n := range list {
		checkNoVersion(t, what, list, int64(n))
	}
	checkNoVersion(t, what, list, -1)
	checkNoVersion(t, what, list, int64(len(list)))
	for _, text := range []string{"", "x", "0123456789abcdef", strings.Repeat("x", 4001)} {
		checkNotAdded(t, what, list, text, -1)
		checkNotAdded(t, what, list, text, 0)
		checkNotAdded(t, what, list, text, int64(len(list)-1))
		checkNotAdded(t, what, list, text, int64(len(list)))
	}
}

// checkBehind holds an act's answer against what it was to be, and each version behind it against the one ahead of it.
func checkBehind(t *testing.T, what string, list []impl.Link, out []impl.Link, ok bool, want []impl.Link) []impl.Link {
	t.Helper()
	if !ok || !sameChain(out, want) {
		t.Fatalf("%s: of %s came %s, %v, not %s", what, shownChain(list), shownChain(out), ok, shownChain(want))
	}
	checkChain(t, what, list)
	checkChain(t, what, out)
	for n := range int64(len(list)) {
		was, _ := impl.VersionAt(list, n)
		if s, ok := impl.VersionAt(out, n); !ok || s != was {
			t.Errorf("%s: version %d was %.40q, and is %.40q, %v", what, n, was, s, ok)
		}
	}
	return out
}

func checkAdded(t *testing.T, list []impl.Link, text string, base int64) []impl.Link {
	t.Helper()
	out, ok := impl.AddVersion(list, text, base)
	want := append(slices.Clone(list), addedByRule(list, text, base))
	checkBehind(t, fmt.Sprintf("AddVersion of %.40q over %d", text, base), list, out, ok, want)
	if s, ok := impl.VersionAt(out, int64(len(list))); !ok || s != text {
		t.Errorf("added over %d: %.40q, %v, not %.40q", base, s, ok, text)
	}
	return out
}

func checkWhole(t *testing.T, list []impl.Link, n int64) []impl.Link {
	t.Helper()
	out, ok := impl.Whole(list, n)
	checkBehind(t, fmt.Sprintf("Whole of %d", n), list, out, ok, changedLink(list, n, whole(textByRule(list, n))))
	if depth := impl.DepthAt(out, n); depth != 0 {
		t.Errorf("made whole, %d is %d deep", n, depth)
	}
	return out
}

// skippedByRule tells false where a link may not skip its base.
func skippedByRule(list []impl.Link, n int64) ([]impl.Link, bool) {
	if list[n].Base == -1 || list[list[n].Base].Base == -1 {
		return nil, false
	}
	base := list[list[n].Base]
	composed := composedByRule(base.Pieces, list[n].Pieces)
	return changedLink(list, n, over(base.Base, composed...)), len(composed) <= 500
}

// checkSkip tells the chain as it was where n may not skip its base.
func checkSkip(t *testing.T, list []impl.Link, n int64) ([]impl.Link, bool) {
	t.Helper()
	want, may := skippedByRule(list, n)
	if !may {
		checkNotSkipped(t, "no skip by the rule", list, n)
		return list, false
	}
	out, ok := impl.Skip(list, n)
	checkBehind(t, fmt.Sprintf("Skip of %d", n), list, out, ok, want)
	if was, is := impl.DepthAt(list, n), impl.DepthAt(out, n); is != was-1 {
		t.Errorf("%d was %d deep, and is %d deep when it has skipped its base", n, was, is)
	}
	return out, true
}

// branched has several links of one base, an empty version, one that is the same as its base, and one of no pieces.
func branched() []impl.Link {
	return chain(
		whole("0123456789abcdef"),
		over(0, from(0, 10), data("XYZ"), from(10, 6)),
		whole(""),
		over(1, from(13, 6), data("!")),
		over(1, from(0, 19)),
		over(2, data("new")),
		over(3),
		over(0, from(15, 1)),
	)
}

// deepChain has links of all depths from 0 to so many, each a letter longer than the one that it stands on.
func deepChain(depth int) []impl.Link {
	list := chain(whole("0123456789"))
	for n := range int64(depth) {
		list = append(list, over(n, data("x"), from(0, 10+n)))
	}
	return list
}

// manyLinks has just so many, each fourth one whole.
func manyLinks(count int) []impl.Link {
	var list []impl.Link
	for n := range count {
		if n%4 == 0 {
			list = append(list, whole(fmt.Sprintf("number %d", n)))
		} else {
			list = append(list, over(int64(n-1), from(0, 8), data("more"), from(6, 2)))
		}
	}
	return list
}

func rightChains() [][]impl.Link {
	long := someBytes(5, impl.MaxPack)
	return [][]impl.Link{
		nil, chain(whole("")), chain(whole("x")), chain(whole(long)), chain(whole(""), over(0)), chain(whole(""), whole("")), branched(),
		deepChain(1), deepChain(5), deepChain(impl.MaxDepth), append(deepChain(6), over(5, data("y")), over(5, from(3, 4)), whole("end"), over(9)),
		manyLinks(29), manyLinks(impl.MaxLinks), slices.Repeat(chain(whole("same")), 30), append(chain(whole("base")), slices.Repeat(chain(over(0, from(1, 3))), 29)...),
		chain(whole(long), over(0, from(0, 4000)), over(1, from(1, 3999), data("z")), over(0, slices.Repeat(pieces(from(3992, 8)), 500)...), over(3, from(3999, 1), data(long[1:]))),
		chain(whole("\x00\xff"), over(0, slices.Repeat(pieces(data("ab"), from(1, 1)), 250)...), over(1, slices.Repeat(pieces(from(2, 3)), 500)...)),
	}
}

type wrongChain struct {
	what string
	list []impl.Link
}

// wrongBases has links that have no right base behind so many others, and are right else.
func wrongBases(count int64) []impl.Link {
	var list []impl.Link
	for _, base := range []int64{-2, -3, -256, lowest, lowest + 1, -1 << 32, count, count + 1, count + 30, 256, 1 << 32, 1<<32 - 1, greatest} {
		list = append(list, over(base), over(base, data("x")))
	}
	return append(list, impl.Link{Base: -2, Data: "x"}, impl.Link{Base: lowest, Data: "x"})
}

func wrongLinks(right []impl.Link) []wrongChain {
	long := strings.Repeat("x", impl.MaxPack+1)
	list := []wrongChain{
		{"Pieces of a whole link", chain(impl.Link{Base: -1, Pieces: pieces(data("x"))})},
		{"Pieces and Data of a whole link", chain(impl.Link{Base: -1, Data: "x", Pieces: pieces(data("x"))})},
		{"a piece of nothing of a whole link", chain(impl.Link{Base: -1, Data: "x", Pieces: pieces(impl.Piece{})})},
		{"Data of MaxPack bytes and one more", chain(whole(long))},
		{"Data of many bytes", chain(whole(strings.Repeat(long, 30)))},
	}
	for _, l := range wrongBases(int64(len(right))) {
		list = append(list, wrongChain{fmt.Sprintf("Base %d", l.Base), chain(l)})
	}
	for base := range right {
		n := int64(base)
		size := int64(len(textByRule(right, n)))
		list = append(list,
			wrongChain{"Data with a Base", chain(impl.Link{Base: n, Data: "x"})},
			wrongChain{"Data and Pieces with a Base", chain(impl.Link{Base: n, Data: "x", Pieces: pieces(data("x"))})},
			wrongChain{"a piece more", chain(over(n, slices.Repeat(pieces(data("x")), 501)...))},
			wrongChain{"a byte more", chain(over(n, data(long)))},
		)
		for _, p := range wrongFor(size) {
			list = append(list, wrongChain{"a wrong piece", chain(over(n, p))}, wrongChain{"a wrong piece behind", chain(over(n, data("x"), p))})
		}
	}
	return list
}

// wrongChains puts each wrong link behind each beginning of a right chain, at its end and ahead of a right one.
func wrongChains() []wrongChain {
	var list []wrongChain
	for k := range len(branched()) + 1 {
		right := branched()[:k]
		for _, wrong := range wrongLinks(right) {
			list = append(list,
				wrongChain{wrong.what, slices.Concat(right, wrong.list)},
				wrongChain{wrong.what, slices.Concat(right, wrong.list, chain(whole("behind")))},
			)
		}
	}
	return append(list,
		wrongChain{"a link too deep", append(deepChain(6), over(6, data("x")))},
		wrongChain{"a link too deep of no pieces", append(deepChain(6), over(6))},
		wrongChain{"two links too deep", append(deepChain(6), over(6, data("x")), over(7, data("x")))},
		wrongChain{"a link too deep, ahead of others", append(deepChain(6), over(6, data("x")), whole("behind"), over(0))},
		wrongChain{"a link too many", manyLinks(31)},
		wrongChain{"a whole link too many", slices.Repeat(chain(whole("same")), 31)},
		wrongChain{"an empty link too many", slices.Repeat(chain(whole("")), 31)},
		wrongChain{"a link over one too many", append(manyLinks(30), over(0, data("x")))},
		wrongChain{"many links too many", slices.Repeat(chain(whole("")), 10000)},
		wrongChain{"links that stand on each other", chain(over(1, data("x")), over(0, data("x")))},
		wrongChain{"a base behind", chain(over(1, data("x")), whole("base"))},
		wrongChain{"a link on itself", chain(over(0))},
	)
}

func TestPromise14ChainsThatAreRight(t *testing.T) {
	for _, list := range rightChains() {
		checkChain(t, "right", list)
		for k := range list {
			checkChain(t, "a beginning", list[:k])
		}
		for _, n := range noNumbers(list) {
			if n < 0 || n >= int64(len(list)) {
				checkNoVersion(t, "no such number", list, n)
			}
		}
	}
}

func TestPromise14ChainsThatAreNotRight(t *testing.T) {
	for _, wrong := range wrongChains() {
		if len(wrong.list) < 100 && rightChainByRule(wrong.list) {
			t.Fatalf("%s: %s is right by the rule", wrong.what, shownChain(wrong.list))
		}
		checkNoChain(t, wrong.what, wrong.list)
	}
}

func TestPromise14EmptyListsAreAsNone(t *testing.T) {
	none := []impl.Piece{}
	list := chain(impl.Link{Base: -1, Pieces: none}, impl.Link{Base: -1, Data: "0123456789", Pieces: none}, impl.Link{Base: 1, Pieces: none}, over(1, from(0, 9)))
	checkChain(t, "empty lists", list)
	for n := range int64(len(list)) {
		checkWhole(t, list, n)
		checkSkip(t, list, n)
		checkAdded(t, list, "0123456789, and more", n)
	}
	checkChain(t, "no links", []impl.Link{})
	checkAdded(t, []impl.Link{}, "x", -1)
	checkNotAdded(t, "no base", []impl.Link{}, "x", 0)
}

func TestPromise14VersionsAsTheyAreTold(t *testing.T) {
	for n, want := range []struct {
		text  string
		depth int64
	}{
		{"0123456789abcdef", 0}, {"0123456789XYZabcdef", 1}, {"", 0}, {"abcdef!", 2}, {"0123456789XYZabcdef", 2}, {"new", 1}, {"", 3}, {"f", 1},
	} {
		checkVersion(t, "branched", branched(), int64(n), want.text, want.depth)
	}
	for n := range int64(7) {
		checkVersion(t, "deep", deepChain(6), n, strings.Repeat("x", int(n))+"0123456789", n)
	}
}

func TestPromise14PiecesAreHeldAgainstTheTextOfTheirVersion(t *testing.T) {
	// Of 16, 19 and 7 bytes, and one of none.
	list := chain(whole("0123456789abcdef"), over(0, from(0, 10), data("XYZ"), from(10, 6)), over(1, from(13, 6), data("!")), over(2))
	for base, size := range []int64{16, 19, 7, 0} {
		for end := int64(1); end <= 20; end++ {
			for _, p := range pieces(from(end-1, 1), from(0, end), from(end/2, end-end/2)) {
				more := append(slices.Clone(list), over(int64(base), p))
				if end <= size {
					checkChain(t, "right for its version", more)
				} else {
					checkNoChain(t, "not right for its version", more)
				}
			}
		}
	}
	most := chain(whole(someBytes(1, impl.MaxPack)), over(0, from(0, 3999)))
	checkChain(t, "the last byte", append(slices.Clone(most), over(0, from(3999, 1))))
	checkNoChain(t, "the last byte of an earlier one", append(slices.Clone(most), over(1, from(3999, 1))))
}

func TestPromise14DataOfJustMaxPack(t *testing.T) {
	for _, long := range []int{0, 1, 3999, impl.MaxPack} {
		checkChain(t, "a whole link", chain(whole(strings.Repeat("x", long)), whole("")))
		checkChain(t, "Data of a piece", chain(whole(""), over(0, pieces(data("x"+strings.Repeat("x", max(0, long-1))))...)))
	}
	for _, long := range []int{4001, 4002, 8000, 100000} {
		checkNoChain(t, "a whole link", chain(whole(strings.Repeat("x", long))))
		checkNoChain(t, "a whole link behind", chain(whole(""), whole(strings.Repeat("x", long))))
		checkNoChain(t, "Data of a piece", chain(whole(""), over(0, data(strings.Repeat("x", long)))))
	}
}

func TestPromise14JustMaxDepth(t *testing.T) {
	for depth := range 7 {
		list := deepChain(depth)
		checkChain(t, "deep", list)
		text := "x" + textByRule(list, int64(depth))
		out := checkAdded(t, list, text+"y", int64(depth))
		if deeper := impl.DepthAt(out, int64(depth+1)); deeper != []int64{1, 2, 3, 4, 5, 6, 0}[depth] {
			t.Errorf("over one %d deep, one is added %d deep", depth, deeper)
		}
	}
	for depth := 7; depth < 20; depth++ {
		checkNoChain(t, "too deep", deepChain(depth))
	}
	// All is well with many links that are just as deep, for others stand beside them.
	wide := append(deepChain(6), slices.Repeat(chain(over(5, data("y"))), 23)...)
	checkChain(t, "wide", wide)
	checkNoChain(t, "wide, and one deeper", changedLink(wide, 29, over(28, data("y"))))
	checkChain(t, "wide, and one whole", changedLink(wide, 29, whole("y")))
}

func TestPromise14ALongTextIsAddedWholeToADeepOne(t *testing.T) {
	list := chain(whole(someBytes(1, 1000)))
	for n := range int64(12) {
		list = checkAdded(t, list, textByRule(list, n)+"more", n)
		if want := []int64{1, 2, 3, 4, 5, 6, 0, 1, 2, 3, 4, 5}[n]; impl.DepthAt(list, n+1) != want || (list[n+1].Base == -1) != (want == 0) {
			t.Errorf("version %d is %d deep, not %d: %s", n+1, impl.DepthAt(list, n+1), want, shownChain(list))
		}
	}
}

func TestPromise14JustMaxLinks(t *testing.T) {
	texts := []string{"", "x", "number 0", "number 0moreand", someBytes(1, 4000)}
	for _, text := range texts {
		for _, base := range []int64{-1, 0, 3, 28} {
			checkAdded(t, manyLinks(29), text, base)
			checkNotAdded(t, "MaxLinks", manyLinks(30), text, base)
			checkNotAdded(t, "more than MaxLinks", manyLinks(31), text, base)
		}
		checkNotAdded(t, "MaxLinks", manyLinks(30), text, 29)
	}
	var list []impl.Link
	for n := range int64(impl.MaxLinks) {
		list = checkAdded(t, list, strings.Repeat("number ", int(n)), n-1)
	}
	checkNotAdded(t, "MaxLinks", list, "", -1)
	checkNotAdded(t, "MaxLinks", list, "number ", 29)
	for n := range int64(impl.MaxLinks) {
		checkWhole(t, list, n)
		checkSkip(t, list, n)
	}
}

func TestPromise14TextsOfJustMaxPackAreAdded(t *testing.T) {
	long := someBytes(1, impl.MaxPack)
	for _, text := range []string{long, long[:3999], long[1:], long[7:] + long[:7], strings.Repeat("a", 4000)} {
		list := checkAdded(t, nil, text, -1)
		list = checkAdded(t, list, text, 0)
		list = checkAdded(t, list, long, 0)
		list = checkAdded(t, list, text, 2)
		for base := int64(-1); base < 4; base++ {
			checkNotAdded(t, "a byte more", list, text+strings.Repeat("x", 4001-len(text)), base)
			checkNotAdded(t, "many bytes more", list, strings.Repeat(text, 25), base)
		}
	}
	checkNotAdded(t, "a byte more", nil, long+"x", -1)
	checkNotAdded(t, "a byte more", chain(whole("x")), long+"x", 0)
}

func TestPromise14BasesToAddTo(t *testing.T) {
	for _, list := range rightChains() {
		if len(list) == impl.MaxLinks {
			continue
		}
		end := int64(len(list))
		for base := int64(-1); base < end; base++ {
			for _, text := range []string{"", "x", "0123456789XYZabcdef", "another text, that no other one has"} {
				checkAdded(t, list, text, base)
			}
			if base >= 0 {
				checkAdded(t, list, textByRule(list, base), base)
			}
		}
		for _, base := range noNumbers(list) {
			if base < -1 || base >= end {
				for _, text := range []string{"", "x", "0123456789abcdef"} {
					checkNotAdded(t, "no such base", list, text, base)
				}
			}
		}
	}
}

func checkLastLink(t *testing.T, list []impl.Link, text string, base int64, want impl.Link) {
	t.Helper()
	out := checkAdded(t, list, text, base)
	if last := out[len(out)-1]; !sameLink(last, want) {
		t.Errorf("AddVersion of %.40q over %d: %s, not %s", text, base, shownChain(chain(last)), shownChain(chain(want)))
	}
}

func TestPromise14ADeltaThatIsNoShorterIsNotTaken(t *testing.T) {
	// Far has its six bytes at the place 128, which takes two bytes to tell.
	near, far := "abcdef", strings.Repeat("-", 128)+"abcdef"
	list := chain(whole(near), whole(far), whole(""))
	for _, c := range []struct {
		base int64
		text string
		want impl.Link
	}{
		{0, "abcdef", over(0, from(0, 6))},                                           // 4 bytes for 6
		{0, "abcdefx", over(0, from(0, 6), data("x"))},                               // 6 for 7
		{0, "xabcdefy", whole("xabcdefy")},                                           // 8 for 8
		{1, "xabcdef", whole("xabcdef")},                                             // 7 for 7
		{1, "xabcdefy", whole("xabcdefy")},                                           // 9 for 8
		{1, "abcdef", over(1, from(128, 6))},                                         // 5 for 6
		{1, "abcdefabcdef", over(1, from(128, 6), from(128, 6))},                     // 9 for 12
		{0, "xabcdefyabcdef", over(0, data("x"), from(0, 6), data("y"), from(0, 6))}, // 11 for 14
		{0, "", whole("")},                                                           // 1 for 0
		{2, "", whole("")},                                                           // 1 for 0
		{2, "x", whole("x")},                                                         // 3 for 1
		{2, "abcdef", whole("abcdef")},                                               // 8 for 6
		{0, "abcde", whole("abcde")},                                                 // 7 for 5
		{0, "ghijkl", whole("ghijkl")},                                               // 8 for 6
		{-1, "abcdef", whole("abcdef")},
		{-1, "", whole("")},
		{-1, far, whole(far)},
	} {
		checkLastLink(t, list, c.text, c.base, c.want)
	}
}

// How many bytes a delta saves hangs on how many are told one by one: there is a length with each edge.
func TestPromise14DeltasAboutAsLongAsTheText(t *testing.T) {
	seen := map[int]int{}
	for _, place := range []int{0, 128} {
		for long := 4; long < 12; long++ {
			for ahead := range 4 {
				for after := range 4 {
					same := someBytes(3, long)
					list := chain(whole(strings.Repeat("-", place) + same))
					text := strings.Repeat("<", ahead) + same + strings.Repeat(">", after)
					out := checkAdded(t, list, text, 0)
					more := len(saidPieces(deltaByRule(textByRule(list, 0), text)...)) - len(text)
					if (out[1].Base == 0) != (more < 0) {
						t.Errorf("a delta of %d bytes more than the text: %s", more, shownChain(out))
					}
					seen[more]++
				}
			}
		}
	}
	for more := -3; more <= 2; more++ {
		if seen[more] == 0 {
			t.Errorf("no delta was %d bytes longer: %v", more, seen)
		}
	}
}

func TestPromise14ABaseWhoseTextNoDeltaGoesTo(t *testing.T) {
	list := chain(whole("abcdef"), whole("abcdef-"))
	just := strings.Repeat("abcdef", 500)
	checkLastLink(t, list, just, 0, over(0, slices.Repeat(pieces(from(0, 6)), 500)...))
	checkLastLink(t, list, just+"abcdef", 0, whole(just+"abcdef"))
	checkLastLink(t, list, just+"x", 0, whole(just+"x"))
	checkLastLink(t, list, just[6:]+"x", 0, over(0, append(slices.Repeat(pieces(from(0, 6)), 499), data("x"))...))
	checkLastLink(t, list, just+strings.Repeat("abcdef", 166), 1, whole(just+strings.Repeat("abcdef", 166)))
	// Beside it is one to which a delta goes.
	near := append(slices.Clone(list), whole(just+"abcdef"))
	checkLastLink(t, near, just+"abcdef", 2, over(2, from(0, 3006)))
	checkLastLink(t, near, just+"abcdef", 0, whole(just+"abcdef"))
}

func TestPromise14AVersionThatIsTheSameAsItsBase(t *testing.T) {
	for _, text := range []string{"", "x", "abcde", "abcdef", "0123456789", someBytes(1, 127), someBytes(1, 128), someBytes(1, 4000)} {
		want := whole(text)
		if len(text) >= 6 {
			want = over(0, from(0, int64(len(text))))
		}
		checkLastLink(t, chain(whole(text)), text, 0, want)
		list := chain(whole(text), over(0, pieces(from(0, int64(len(text))))[:min(1, len(text))]...))
		if len(text) >= 6 {
			want.Base = 1
		}
		checkLastLink(t, list, text, 1, want)
	}
}

func TestPromise14MadeWhole(t *testing.T) {
	for _, list := range rightChains() {
		for n := range int64(len(list)) {
			out := checkWhole(t, list, n)
			if again := checkWhole(t, out, n); !sameChain(again, out) {
				t.Errorf("made whole again: %s, not %s", shownChain(again), shownChain(out))
			}
		}
		all := list
		for n := range int64(len(list)) {
			all = checkWhole(t, all, n)
		}
		for n := range int64(len(list)) {
			checkVersion(t, "all made whole", all, n, textByRule(list, n), 0)
		}
		all = list
		for n := int64(len(list)) - 1; n >= 0; n-- {
			all = checkWhole(t, all, n)
		}
	}
}

func TestPromise14WhatStandsOnALinkThatIsMadeWhole(t *testing.T) {
	list := deepChain(6)
	for n := range int64(7) {
		out := checkWhole(t, list, n)
		for k := range int64(7) {
			want := k
			if k >= n {
				want = k - n
			}
			checkVersion(t, "behind Whole", out, k, strings.Repeat("x", int(k))+"0123456789", want)
		}
	}
	// Where there was no room below, there is some behind it.
	out := checkWhole(t, list, 3)
	text := "y" + textByRule(list, 6)
	checkLastLink(t, list, text, 6, whole(text))
	checkLastLink(t, out, text, 6, over(6, data("y"), from(0, 16)))
	out = checkWhole(t, branched(), 1)
	checkVersion(t, "of several of one base", out, 3, "abcdef!", 1)
	checkVersion(t, "of several of one base", out, 4, "0123456789XYZabcdef", 1)
	checkVersion(t, "its base", out, 0, "0123456789abcdef", 0)
}

func TestPromise14SkippedBases(t *testing.T) {
	for _, list := range rightChains() {
		for n := range int64(len(list)) {
			checkSkip(t, list, n)
		}
		// All that may, one behind the other, from both ends.
		up, down := list, list
		for n := range int64(len(list)) {
			up, _ = checkSkip(t, up, n)
			down, _ = checkSkip(t, down, int64(len(list))-1-n)
		}
	}
	for n, may := range []bool{false, false, false, true, true, false, true, false} {
		if _, ok := checkSkip(t, branched(), int64(n)); ok != may {
			t.Errorf("Skip of %d: %v", n, ok)
		}
	}
}

func TestPromise14SkippedAsTheDocumentSays(t *testing.T) {
	for _, c := range []struct {
		n    int64
		want impl.Link
	}{
		{3, over(0, from(10, 6), data("!"))},
		{4, over(0, from(0, 10), data("XYZ"), from(10, 6))},
		{6, over(1)},
	} {
		out, ok := impl.Skip(branched(), c.n)
		if want := changedLink(branched(), c.n, c.want); !ok || !sameChain(out, want) {
			t.Errorf("Skip of %d: %s, %v, not %s", c.n, shownChain(out), ok, shownChain(want))
		}
	}
	// What stands on it comes up with it; its base, and what else stands there, stays.
	list := append(branched(), over(3, from(6, 1)), over(8, data("z")))
	out, _ := checkSkip(t, list, 3)
	for n, want := range []int64{0, 1, 0, 1, 2, 1, 2, 1, 2, 3} {
		checkVersion(t, "behind Skip", out, int64(n), textByRule(list, int64(n)), want)
	}
}

func TestPromise14SkippedAgainUntilRefused(t *testing.T) {
	for _, list := range rightChains() {
		for n := range int64(len(list)) {
			out, times := list, int64(0)
			for {
				next, ok := checkSkip(t, out, n)
				if !ok {
					break
				}
				out = next
				times++
			}
			if _, may := skippedByRule(out, n); may || times > 5 {
				t.Errorf("Skip of %d of %s: %d times", n, shownChain(list), times)
			}
		}
	}
	out, times := deepChain(6), 0
	for base := int64(4); base >= 0; base-- {
		next, ok := checkSkip(t, out, 6)
		if !ok || next[6].Base != base {
			t.Fatalf("its base is not %d: %s, %v", base, shownChain(next), ok)
		}
		out = next
		times++
	}
	if _, ok := checkSkip(t, out, 6); ok || times != 5 {
		t.Errorf("skipped %d times, and again: %v", times, ok)
	}
}

func TestPromise14DeltasThatAreNotOneAreNotSkipped(t *testing.T) {
	many := slices.Repeat(pieces(data("x")), 500)
	list := chain(whole("base"), over(0, many...))
	just := append(slices.Clone(list), over(1, from(0, 499), data("y")), over(1, from(0, 500)))
	for n := int64(2); n < 4; n++ {
		if out, ok := checkSkip(t, just, n); !ok || len(out[n].Pieces) != 500 {
			t.Errorf("Skip of %d: %s, %v", n, shownChain(out), ok)
		}
	}
	more := append(slices.Clone(list), over(1, from(0, 500), data("y")), over(1, data("y"), from(0, 500)), over(1, from(0, 250), from(0, 251)), over(2, from(500, 1)))
	for n := int64(2); n < 5; n++ {
		checkNotSkipped(t, "a piece more", more, n)
		checkWhole(t, more, n)
	}
	// Its base may not skip, but it may, for it asks for one piece alone.
	out, ok := checkSkip(t, more, 5)
	if !ok || !sameLink(out[5], over(1, data("y"))) {
		t.Errorf("%s, %v", shownChain(out), ok)
	}
}

// In each step an act that is drawn, on a number that is drawn, is held against the rules.
func TestPromise14ManyActs(t *testing.T) {
	for seed := range uint64(60) {
		drawn := someBytes(seed+1, 400)
		var list []impl.Link
		var texts []string
		for step := 0; step+4 < len(drawn) && len(list) < impl.MaxLinks; step += 4 {
			n := int64(drawn[step+1]) % int64(len(list)+1)
			if n == int64(len(list)) || drawn[step]%4 < 2 {
				texts = append(texts, drawnText(texts, drawn[step:step+4]))
				list = checkAdded(t, list, texts[len(texts)-1], n-1)
			} else if drawn[step]%4 == 2 {
				list = checkWhole(t, list, n)
			} else {
				list, _ = checkSkip(t, list, n)
			}
		}
		for n, text := range texts {
			if s, ok := impl.VersionAt(list, int64(n)); !ok || s != text {
				t.Errorf("version %d is %.40q, %v, not %.40q as it was added", n, s, ok, text)
			}
		}
	}
}

// drawnText changes a text that was there before, or tells a new one.
func drawnText(texts []string, drawn string) string {
	if len(texts) == 0 || drawn[0] < 16 {
		return someBytes(uint64(drawn[2]), 2*int(drawn[3]))
	}
	text := texts[int(drawn[2])%len(texts)]
	at := int(drawn[3]) * len(text) / 256
	switch drawn[0] % 3 {
	case 0:
		return text[:at] + "between" + text[at:]
	case 1:
		return text[at:] + text[:at]
	}
	return text[at:]
}

func TestPromise14BytesOfChains(t *testing.T) {
	for _, c := range []struct {
		list []impl.Link
		want int64
	}{
		{nil, 0},
		{chain(), 0},
		{chain(whole("")), 0},
		{chain(whole("abc")), 3},
		{chain(whole("abc"), whole(""), whole("defgh")), 8},
		{slices.Repeat(chain(whole(strings.Repeat("x", 4000))), 30), 120000},
		{chain(whole(""), over(0)), 1},
		{chain(whole("abc"), over(0, from(0, 3))), 3 + 4},
		{chain(whole("abc"), over(0, data("abc")), over(1, from(1, 1), data("z"))), 3 + 5 + 6},
		{chain(whole(strings.Repeat("x", 200)), over(0, from(0, 200)), over(0, from(150, 50))), 200 + 5 + 5},
		{append(chain(whole("")), slices.Repeat(chain(over(0)), 29)...), 29},
		{branched(), 16 + 11 + 0 + 6 + 4 + 5 + 1 + 4},
	} {
		if size := impl.ChainBytes(c.list); size != c.want {
			t.Errorf("%s has %d bytes, not %d", shownChain(c.list), size, c.want)
		}
	}
}

func linkStrings(list []impl.Link) []string {
	var all []string
	for _, l := range list {
		all = append(all, l.Data)
		for _, p := range l.Pieces {
			all = append(all, p.Data)
		}
	}
	return all
}

// ownChain has strings that no other one has.
func ownChain() []impl.Link {
	list := append(branched(), over(3, from(6, 1), data("z")))
	for i := range list {
		list[i].Data = strings.Clone(list[i].Data)
		for k := range list[i].Pieces {
			list[i].Pieces[k].Data = strings.Clone(list[i].Pieces[k].Data)
		}
	}
	return list
}

func chainAnswers(list []impl.Link, text string) map[string][]impl.Link {
	answers := map[string][]impl.Link{}
	answers["added over"], _ = impl.AddVersion(list, text, 4)
	answers["added whole"], _ = impl.AddVersion(list, text, -1)
	answers["made whole"], _ = impl.Whole(list, 3)
	answers["whole again"], _ = impl.Whole(list, 0)
	answers["skipped"], _ = impl.Skip(list, 4)
	answers["skipped below"], _ = impl.Skip(list, 8)
	return answers
}

func TestPromise18ChainsAreNewMemory(t *testing.T) {
	list, text := ownChain(), strings.Clone("0123456789XYZabcdef, and more")
	for what, answer := range chainAnswers(list, text) {
		if len(answer) == 0 {
			t.Fatalf("%s: no answer", what)
		}
		all := linkStrings(answer)
		for i, s := range all {
			for k, other := range all {
				if i != k && sharesMemory(s, other) {
					t.Errorf("%s: %q and %q share memory", what, s, other)
				}
			}
			for _, given := range append(linkStrings(list), text) {
				if sharesMemory(s, given) {
					t.Errorf("%s: %q lies in an argument", what, s)
				}
			}
		}
	}
	for n := range int64(len(list)) {
		s, _ := impl.VersionAt(list, n)
		for _, given := range linkStrings(list) {
			if sharesMemory(s, given) {
				t.Errorf("version %d, %q, lies in an argument", n, s)
			}
		}
	}
}

// filledChain writes into each list of a chain, as far as it may go, and tells whether what was written elsewhere changed.
func filledChain(list []impl.Link) bool {
	for i, l := range list {
		for k := range l.Pieces[:cap(l.Pieces)] {
			l.Pieces[:cap(l.Pieces)][k] = from(int64(i), int64(k))
		}
	}
	for i, l := range list {
		for k, p := range l.Pieces[:cap(l.Pieces)] {
			if p != from(int64(i), int64(k)) {
				return false
			}
		}
	}
	clear(list[:cap(list)])
	return true
}

func TestPromise18ChainsWriteIntoNoArgument(t *testing.T) {
	room := append(ownChain(), whole("spare"), over(0, data("room")))
	var lists [][]impl.Piece
	for i := range room {
		roomy := append(slices.Clone(room[i].Pieces), data("spare"), from(77, 77))
		lists = append(lists, roomy)
		room[i].Pieces = roomy[:len(roomy)-2]
	}
	list, text := room[:len(room)-2], "0123456789XYZabcdef, and more"
	roomWas := slices.Clone(room)
	var listsWere [][]impl.Piece
	for _, l := range lists {
		listsWere = append(listsWere, slices.Clone(l))
	}
	first := map[string][]impl.Link{}
	for what, answer := range chainAnswers(list, text) {
		first[what] = slices.Clone(answer)
		for i := range answer {
			first[what][i].Pieces = slices.Clone(answer[i].Pieces)
		}
		if !filledChain(answer) {
			t.Errorf("%s: two lists of the answer share memory", what)
		}
	}
	checkChain(t, "with room", list)
	if !sameChain(room, roomWas) || !slices.EqualFunc(lists, listsWere, slices.Equal[[]impl.Piece]) {
		t.Error("something was written into an argument, or behind it")
	}
	for what, answer := range chainAnswers(list, text) {
		if !sameChain(answer, first[what]) {
			t.Errorf("%s: the same arguments give another answer: %s, not %s", what, shownChain(answer), shownChain(first[what]))
		}
	}
}
