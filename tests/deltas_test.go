package tests

import (
	"encoding/binary"
	"fmt"
	"math/big"
	"slices"
	"strings"
	"testing"

	"loop.example/g00228/impl"
)

func from(at int64, long int64) impl.Piece {
	return impl.Piece{From: at, Long: long}
}

func data(s string) impl.Piece {
	return impl.Piece{Data: s}
}

func pieces(list ...impl.Piece) []impl.Piece {
	return list
}

// okByRule reckons with great numbers, which no sum is too great for.
func okByRule(old int64, list []impl.Piece) bool {
	if old < 0 || old > 4000 || len(list) > 500 {
		return false
	}
	size := new(big.Int)
	for _, p := range list {
		end := new(big.Int).Add(big.NewInt(p.From), big.NewInt(p.Long))
		if p.Data != "" && (p.From != 0 || p.Long != 0) {
			return false
		}
		if p.Data == "" && (p.From < 0 || p.Long < 1 || end.Cmp(big.NewInt(old)) > 0) {
			return false
		}
		size.Add(size, big.NewInt(p.Long+int64(len(p.Data))))
	}
	return size.Cmp(big.NewInt(4000)) <= 0
}

// deltaByRule tries each place of the old text, the first one first.
func deltaByRule(old string, text string) []impl.Piece {
	var list []impl.Piece
	for at := 0; at < len(text); {
		place, long := 0, 0
		for k := range len(old) {
			same := 0
			for k+same < len(old) && at+same < len(text) && old[k+same] == text[at+same] {
				same++
			}
			if same > long {
				place, long = k, same
			}
		}
		if long >= 6 {
			list = append(list, from(int64(place), int64(long)))
			at += long
			continue
		}
		if last := len(list) - 1; last >= 0 && list[last].Data != "" {
			list[last].Data += text[at : at+1]
		} else {
			list = append(list, data(text[at:at+1]))
		}
		at++
	}
	return list
}

func madeByRule(old string, list []impl.Piece) string {
	var b []byte
	for _, p := range list {
		b = append(b, p.Data...)
		for k := range p.Long {
			b = append(b, old[p.From+k])
		}
	}
	return string(b)
}

// composedByRule tells of each byte that a makes which piece made it, and starts anew wherever that is another one.
func composedByRule(a []impl.Piece, b []impl.Piece) []impl.Piece {
	type made struct{ piece, at int64 }
	var bytes []made
	for i, p := range a {
		for k := range p.Long + int64(len(p.Data)) {
			bytes = append(bytes, made{int64(i), k})
		}
	}
	var list []impl.Piece
	for _, p := range b {
		if p.Data != "" {
			list = append(list, p)
			continue
		}
		for k := p.From; k < p.From+p.Long; k++ {
			of := a[bytes[k].piece]
			if k == p.From || bytes[k].piece != bytes[k-1].piece {
				list = append(list, impl.Piece{})
				if of.Data == "" {
					list[len(list)-1].From = of.From + bytes[k].at
				}
			}
			last := &list[len(list)-1]
			if of.Data == "" {
				last.Long++
			} else {
				last.Data += of.Data[bytes[k].at : bytes[k].at+1]
			}
		}
	}
	return list
}

// saidPieces is the text of these pieces, whether they are right or not; numbers below 0 are told as those of 64 bits.
func saidPieces(list ...impl.Piece) string {
	b := binary.AppendUvarint(nil, uint64(len(list)))
	for _, p := range list {
		b = binary.AppendUvarint(b, uint64(len(p.Data)))
		b = append(b, p.Data...)
		if p.Data == "" {
			b = binary.AppendUvarint(b, uint64(p.From))
			b = binary.AppendUvarint(b, uint64(p.Long))
		}
	}
	return string(b)
}

// readByRule takes numbers of any form, and then asks whether the text is the one of what it has read.
func readByRule(s string) ([]impl.Piece, bool) {
	rest, broken := []byte(s), false
	number := func() int64 {
		n, used := binary.Uvarint(rest)
		if used <= 0 || n > 1000000000000 {
			broken = true
			return 0
		}
		rest = rest[used:]
		return int64(n)
	}
	var list []impl.Piece
	for left := number(); left > 0 && !broken; left-- {
		long := number()
		if long > int64(len(rest)) {
			return nil, false
		}
		p := data(string(rest[:long]))
		rest = rest[long:]
		if long == 0 {
			p = from(number(), number())
		}
		list = append(list, p)
	}
	if broken || !okByRule(4000, list) || saidPieces(list...) != s {
		return nil, false
	}
	return list, true
}

// shown tells the first few only, quoted, for lists may be long and Data may be any bytes.
func shown(list []impl.Piece) string {
	var b strings.Builder
	fmt.Fprintf(&b, "%d pieces (", len(list))
	for _, p := range list[:min(5, len(list))] {
		fmt.Fprintf(&b, "{%d %d %.20q}", p.From, p.Long, p.Data)
	}
	return b.String() + ")"
}

func checkPieces(t *testing.T, old int64, list []impl.Piece, want bool) {
	t.Helper()
	if ok := impl.PiecesOk(old, list); ok != want {
		t.Errorf("PiecesOk of %s for %d bytes: %v, not %v", shown(list), old, ok, want)
	}
}

func checkDelta(t *testing.T, old string, text string, want []impl.Piece) {
	t.Helper()
	list, ok := impl.DeltaOf(old, text)
	if !ok || !slices.Equal(list, want) {
		t.Errorf("DeltaOf(%.60q, %.60q): %s, %v, not %s", old, text, shown(list), ok, shown(want))
	}
	checkPatched(t, old, list, text)
}

func checkNoDelta(t *testing.T, old string, text string) {
	t.Helper()
	if list, ok := impl.DeltaOf(old, text); ok || len(list) != 0 {
		t.Errorf("DeltaOf %d bytes and %d: %d pieces, %v", len(old), len(text), len(list), ok)
	}
}

func checkPatched(t *testing.T, old string, list []impl.Piece, want string) {
	t.Helper()
	if s, ok := impl.Patch(old, list); !ok || s != want {
		t.Errorf("Patch of %d bytes by %s: %d bytes (%.60q) %v, not %d bytes (%.60q)", len(old), shown(list), len(s), s, ok, len(want), want)
	}
}

func checkNothingPatched(t *testing.T, what string, old string, list []impl.Piece) {
	t.Helper()
	if s, ok := impl.Patch(old, list); ok || s != "" {
		t.Errorf("%s: Patch of %d bytes by %d pieces tells %d bytes, %v", what, len(old), len(list), len(s), ok)
	}
}

func checkComposed(t *testing.T, a []impl.Piece, b []impl.Piece, want []impl.Piece) {
	t.Helper()
	if list, ok := impl.Compose(a, b); !ok || !slices.Equal(list, want) {
		t.Errorf("Compose of %s and %s: %s, %v, not %s", shown(a), shown(b), shown(list), ok, shown(want))
	}
}

func checkNotComposed(t *testing.T, what string, a []impl.Piece, b []impl.Piece) {
	t.Helper()
	if list, ok := impl.Compose(a, b); ok || len(list) != 0 {
		t.Errorf("%s: Compose of %s and %s: %s, %v", what, shown(a), shown(b), shown(list), ok)
	}
}

func checkRead(t *testing.T, s string, want []impl.Piece) {
	t.Helper()
	if list, ok := impl.ReadDelta(s); !ok || !slices.Equal(list, want) {
		t.Errorf("ReadDelta of %d bytes (%.40q): %s, %v, not %s", len(s), s, shown(list), ok, shown(want))
	}
}

func checkNotRead(t *testing.T, what string, s string) {
	t.Helper()
	if list, ok := impl.ReadDelta(s); ok || len(list) != 0 {
		t.Errorf("%s: ReadDelta of %d bytes (%.40q) tells %s, %v", what, len(s), s, shown(list), ok)
	}
}

// wrongFor has pieces of which none is right for an old text of so many bytes.
func wrongFor(old int64) []impl.Piece {
	const most, least = 1<<63 - 1, -1 << 63
	list := pieces(
		impl.Piece{}, from(0, old+1), from(1, old), from(old, 1), from(old+1, 1), from(old+1, -1), from(old-1, 2),
		from(-1, 1), from(-1, 2), from(-2, 3), from(0, -1), from(old, 0), from(old, -1), from(1, 0), from(2, -1), from(-1, 0), from(0, -old),
		from(0, most), from(1, most), from(2, most), from(most, 1), from(most, 2), from(most, most), from(most, 0), from(most, least), from(most-1, least),
		from(least, 1), from(least, most), from(least, least), from(0, least), from(1, least), from(least, 0), from(-1, most), from(most, -1),
		from(1<<32, 1), from(0, 1<<32+1), from(1<<32, 1<<32+1), from(0, 4001), from(4000, 1),
	)
	for _, n := range []int64{1, -1, 2, 6, most, least, 1 << 32} {
		list = append(list, impl.Piece{From: n, Data: "x"}, impl.Piece{Long: n, Data: "x"}, impl.Piece{From: n, Long: n, Data: "xyzxyz"})
	}
	return append(list, impl.Piece{From: 0, Long: 1, Data: "x"}, impl.Piece{From: 1, Long: -1, Data: "x"})
}

func TestPromise9PiecesThatAreRight(t *testing.T) {
	for _, old := range []int64{0, 1, 2, 5, 6, 16, 3999, impl.MaxPack} {
		checkPieces(t, old, nil, true)
		checkPieces(t, old, pieces(data("x")), true)
		checkPieces(t, old, pieces(data("\x00"), data("abcdef"), data("x")), true)
		if old == 0 {
			continue
		}
		for _, p := range pieces(from(0, 1), from(0, old), from(old-1, 1), from(old/2, old-old/2), from(old-old/2, max(1, old/2))) {
			if p.From+p.Long <= old {
				checkPieces(t, old, pieces(p), true)
				checkPieces(t, old, pieces(data("x"), from(old-1, 1), data("y"), data("z")), true)
			}
		}
	}
}

func TestPromise9PiecesThatAreNotRight(t *testing.T) {
	for _, old := range []int64{0, 1, 2, 5, 16, 3999, impl.MaxPack} {
		for _, p := range wrongFor(old) {
			right := pieces(data("x"))
			checkPieces(t, old, pieces(p), false)
			checkPieces(t, old, pieces(p, right[0]), false)
			checkPieces(t, old, pieces(right[0], p), false)
			checkPieces(t, old, pieces(right[0], p, right[0]), false)
			checkPieces(t, old, append(slices.Repeat(right, impl.MaxPieces-1), p), false)
		}
	}
}

func TestPromise9PiecesAsTheDocumentSays(t *testing.T) {
	numbers := []int64{-1 << 63, -1<<63 + 1, -5, -1, 0, 1, 2, 3, 4, 5, 6, 3999, 4000, 4001, 1 << 32, 1<<63 - 5, 1<<63 - 2, 1<<63 - 1}
	for _, old := range []int64{0, 1, 4, 5, 3999, 4000} {
		for _, at := range numbers {
			for _, long := range numbers {
				for _, s := range []string{"", "x"} {
					list := pieces(impl.Piece{From: at, Long: long, Data: s})
					checkPieces(t, old, list, okByRule(old, list))
				}
			}
		}
	}
}

func TestPromise9OldTextsThatMayNotBe(t *testing.T) {
	for _, old := range []int64{-1, -2, -1 << 63, impl.MaxPack + 1, impl.MaxPack + 2, 1 << 32, 1<<32 + 16, 1<<63 - 1} {
		for _, list := range [][]impl.Piece{nil, pieces(data("x")), pieces(from(0, 1)), pieces(from(3999, 1))} {
			checkPieces(t, old, list, false)
		}
	}
	checkPieces(t, impl.MaxPack, pieces(from(3999, 1)), true)
	checkPieces(t, 0, pieces(data("x")), true)
}

func TestPromise9JustMaxPiecesAndJustMaxPack(t *testing.T) {
	some := slices.Repeat(pieces(data("x"), from(0, 1)), impl.MaxPieces/2)
	checkPieces(t, 1, some, true)
	checkPieces(t, 1, append(slices.Clone(some), data("x")), false)
	checkPieces(t, 1, append(slices.Clone(some), from(0, 1)), false)
	checkPieces(t, 8, slices.Repeat(pieces(from(0, 8)), 500), true)
	checkPieces(t, 8, slices.Repeat(pieces(from(0, 8)), 501), false)
	checkPieces(t, 9, append(slices.Repeat(pieces(from(0, 8)), 499), from(0, 9)), false)
	checkPieces(t, 8, append(slices.Repeat(pieces(from(0, 8)), 499), data("ninebytes")), false)
	for _, c := range []struct {
		list []impl.Piece
		want bool
	}{
		{pieces(from(0, 4000)), true},
		{pieces(from(0, 4000), data("x")), false},
		{pieces(data("x"), from(0, 4000)), false},
		{pieces(data("x"), from(1, 3999)), true},
		{pieces(from(0, 2000), from(0, 2000)), true},
		{pieces(from(0, 2000), from(0, 2001)), false},
		{pieces(from(0, 2000), from(0, 2000), from(9, 1)), false},
		{pieces(data(strings.Repeat("x", 4000))), true},
		{pieces(data(strings.Repeat("x", 4001))), false},
		{pieces(data(strings.Repeat("x", 100000))), false},
		{pieces(data(strings.Repeat("x", 2000)), from(7, 2000)), true},
		{pieces(data(strings.Repeat("x", 2001)), from(7, 2000)), false},
		{slices.Repeat(pieces(from(0, 4000)), 500), false},
	} {
		checkPieces(t, 4000, c.list, c.want)
	}
}

func TestPromise9DeltasOfFewBytes(t *testing.T) {
	for _, c := range []struct {
		old, text string
		want      []impl.Piece
	}{
		{"", "", nil},
		{"abcdef", "", nil},
		{"", "a", pieces(data("a"))},
		{"", "abcdefg", pieces(data("abcdefg"))},
		{"a", "a", pieces(data("a"))},
		{"abcde", "abcde", pieces(data("abcde"))},
		{"abcdef", "abcde", pieces(data("abcde"))},
		{"abcde", "abcdef", pieces(data("abcdef"))},
		{"abcdef", "abcdef", pieces(from(0, 6))},
		{"abcdefg", "abcdefg", pieces(from(0, 7))},
		{"abcdefg", "abcdef", pieces(from(0, 6))},
		{"abcdefg", "bcdefg", pieces(from(1, 6))},
		{"abcdef", "abcdefg", pieces(from(0, 6), data("g"))},
		{"bcdefg", "abcdefg", pieces(data("a"), from(0, 6))},
		{"abcdef", "abcdexf", pieces(data("abcdexf"))},
		{"abcdef", "ghijkl", pieces(data("ghijkl"))},
		{"\x00\x00\x00\x00\x00\x00", "\x00\x00\x00\x00\x00\x00", pieces(from(0, 6))},
		{"\x00\x00\x00\x00\x00", "\x00\x00\x00\x00\x00", pieces(data("\x00\x00\x00\x00\x00"))},
		{"\x00\x00\x00\x00\x00", "\x00\x00\x00\x00\x00\x00", pieces(data("\x00\x00\x00\x00\x00\x00"))},
		{"\xff\xff\xff\xff\xff\xff\x00", "\xff\xff\xff\xff\xff\xff\x00", pieces(from(0, 7))},
		{"aaaaaa", "aaaaaaa", pieces(from(0, 6), data("a"))},
		{"aaaaaa", "aaaaaaaaaaaa", pieces(from(0, 6), from(0, 6))},
		{"aaaaaaa", "aaaaaaaaaaaaa", pieces(from(0, 7), from(0, 6))},
		{"aaaaaaaaaa", "aaaaaaa", pieces(from(0, 7))},
		{"baaaaaaaaaa", "aaaaaaa", pieces(from(1, 7))},
		{"0123456789abcdef", "0123456789XYZabcdef", pieces(from(0, 10), data("XYZ"), from(10, 6))},
		{"0123456789abcdef", "XY0123456789Zabcdefxy", pieces(data("XY"), from(0, 10), data("Z"), from(10, 6), data("xy"))},
		{"0123456789abcdef", "abcdef0123456789", pieces(from(10, 6), from(0, 10))},
		{"0123456789abcdef", "01234abcdef", pieces(data("01234"), from(10, 6))},
		{"0123456789abcdef", "9abcdef56789a", pieces(from(9, 7), from(5, 6))},
	} {
		checkDelta(t, c.old, c.text, c.want)
	}
}

func TestPromise9TheLongestAndOfTheseTheFirst(t *testing.T) {
	for _, c := range []struct {
		old, text string
		want      []impl.Piece
	}{
		{"abcdef-abcdef-abcdef", "abcdef", pieces(from(0, 6))},
		{"xabcdef-abcdef-abcdef", "abcdef", pieces(from(1, 6))},
		{"abcdef-abcdef-abcdef", "-abcdef", pieces(from(6, 7))},
		{"abcdef-abcdefg-abcdefg", "abcdefg", pieces(from(7, 7))},
		{"abcdef-abcdefg-abcdefgh", "abcdefgh", pieces(from(15, 8))},
		{"abcdefgh-abcdefg-abcdef", "abcdefgh", pieces(from(0, 8))},
		{"abcdefg-abcdefgh-abcdef-abcdefgh", "abcdefgh", pieces(from(8, 8))},
		{"abcdefg-abcdefgh-abcdef-abcdefgh", "abcdefghi", pieces(from(8, 8), data("i"))},
		{"abcdefx-abcdefy", "abcdefz", pieces(from(0, 6), data("z"))},
		{"abcdefx-abcdefy", "abcdefyz", pieces(from(8, 7), data("z"))},
		{"abababab", "babababa", pieces(from(1, 7), data("a"))},
		{"abababababab", "bababa", pieces(from(1, 6))},
		{"xyzabcdef", "abcdef", pieces(from(3, 6))},
		// Any byte may be the first one, within a letter of two bytes, too.
		{"\xc3\xa9abcde", "\xa9abcde", pieces(from(1, 6))},
		{"aaaaaabaaaaaaa", "aaaaaaa", pieces(from(7, 7))},
		{"aaaaaabaaaaaaa", "aaaaaaaaaaaaab", pieces(from(7, 7), from(0, 7))},
		// A later start would have taken more, but what begins first is taken first.
		{"abcdefg_cdefghijk", "abcdefghijk", pieces(from(0, 7), data("hijk"))},
	} {
		checkDelta(t, c.old, c.text, c.want)
	}
}

func TestPromise9DeltasAsTheDocumentSays(t *testing.T) {
	check := func(old string, text string) {
		checkDelta(t, old, text, deltaByRule(old, text))
	}
	someStrings("ab", 7, func(old string) {
		someStrings("ab", 7, func(text string) { check(old, text) })
		check("b"+old+old, old+"ab"+old)
	})
	for seed := range uint64(60) {
		letters := []string{"ab", "abc", "aaaaab", "abcdef\xff", "\x00"}[seed%5]
		old := lettersOf(seed, int(20+seed*3), letters)
		check(old, lettersOf(seed+1, int(20+seed*2), letters))
		check(old, old+old)
		check(old+old, old)
		check(old, old[7:]+old[:7])
		check(old, old[:9]+"\xfe"+old[9:])
		check(old[3:], "xx"+old+"yy")
	}
}

func TestPromise9TheNewTextComesOfTheOldOneAndItsDelta(t *testing.T) {
	for _, old := range someMatched() {
		for _, text := range someMatched() {
			checkDelta(t, old, text, deltaByRule(old, text))
		}
	}
}

func TestPromise9TextsOfJustMaxPack(t *testing.T) {
	unlike, alike := someBytes(1, impl.MaxPack), strings.Repeat("a", impl.MaxPack)
	for _, old := range []string{"", "a", unlike, alike, unlike[:3999]} {
		for _, text := range []string{"", "a", unlike, alike, unlike[1:], unlike[2000:] + unlike[:2000], alike[:3993] + "b" + alike[:6]} {
			checkDelta(t, old, text, deltaByRule(old, text))
			checkNoDelta(t, old, text+strings.Repeat("x", impl.MaxPack+1-len(text)))
			checkNoDelta(t, old+strings.Repeat("x", impl.MaxPack+1-len(old)), text)
		}
	}
	checkDelta(t, unlike, unlike, pieces(from(0, 4000)))
	checkDelta(t, alike, alike, pieces(from(0, 4000)))
	checkNoDelta(t, unlike+"x", unlike+"x")
	checkNoDelta(t, strings.Repeat("x", 100000), "")
	checkNoDelta(t, "", strings.Repeat("x", 100000))
}

func TestPromise9DeltasOfJustMaxPieces(t *testing.T) {
	old := "abcdef"
	most := strings.Repeat("abcdef", 500)
	checkDelta(t, old, most, slices.Repeat(pieces(from(0, 6)), 500))
	checkDelta(t, old, most[6:]+"x", append(slices.Repeat(pieces(from(0, 6)), 499), data("x")))
	checkDelta(t, old, "x"+most[6:], append(pieces(data("x")), slices.Repeat(pieces(from(0, 6)), 499)...))
	checkNoDelta(t, old, most+"abcdef")
	checkNoDelta(t, old, most+"x")
	checkNoDelta(t, old, "x"+most)
	checkNoDelta(t, old, most[:1500]+"x"+most[1500:])
	mixed := strings.Repeat("x"+old, 250)
	checkDelta(t, old, mixed, slices.Repeat(pieces(data("x"), from(0, 6)), 250))
	checkNoDelta(t, old, mixed+"x")
	checkNoDelta(t, old, strings.Repeat("x"+old, 571))
	// Each place of the old text must be tried, for all begin alike.
	checkNoDelta(t, strings.Repeat("a", 4000), strings.Repeat("aaaaaab", 571))
}

func TestPromise9PiecesMakeTheirText(t *testing.T) {
	old := "0123456789abcdef"
	for _, c := range []struct {
		list []impl.Piece
		want string
	}{
		{nil, ""},
		{pieces(from(0, 16)), old},
		{pieces(from(15, 1)), "f"},
		{pieces(from(0, 1), from(0, 1), from(0, 2)), "0001"},
		{pieces(from(10, 6), from(0, 10)), "abcdef0123456789"},
		{pieces(data("\x00\xff"), from(3, 2), data("!"), data("?")), "\x00\xff34!?"},
		{pieces(from(4, 3), data("4"), from(2, 5)), "456423456"},
	} {
		checkPatched(t, old, c.list, c.want)
	}
	checkPatched(t, "", nil, "")
	checkPatched(t, "", pieces(data("abc")), "abc")
	long := someBytes(4, 4000)
	checkPatched(t, long, pieces(from(1, 3999), from(0, 1)), long[1:]+long[:1])
	checkPatched(t, long, slices.Repeat(pieces(from(3992, 8)), 500), strings.Repeat(long[3992:], 500))
}

func TestPromise9PiecesThatMakeNothing(t *testing.T) {
	for _, old := range []string{"", "a", "abcdefgh", someBytes(1, 3999), someBytes(1, 4000)} {
		for _, p := range wrongFor(int64(len(old))) {
			checkNothingPatched(t, "a wrong piece", old, pieces(p))
			checkNothingPatched(t, "a wrong piece behind", old, pieces(data("x"), p))
			checkNothingPatched(t, "a wrong piece ahead", old, pieces(p, data("x")))
		}
		checkNothingPatched(t, "a piece more", old, slices.Repeat(pieces(data("x")), 501))
		checkNothingPatched(t, "a byte more", old, pieces(data(strings.Repeat("x", 4001))))
	}
	for _, long := range []int{4001, 4002, 100000} {
		for _, list := range [][]impl.Piece{nil, pieces(data("x")), pieces(from(0, 1))} {
			checkNothingPatched(t, "too long an old text", strings.Repeat("a", long), list)
		}
	}
	checkNothingPatched(t, "a byte more", "abcdefghi", append(slices.Repeat(pieces(from(0, 8)), 499), from(0, 9)))
}

func someLists() [][]impl.Piece {
	return [][]impl.Piece{
		nil, pieces(data("a")), pieces(data("abcdef"), data("gh")), pieces(from(0, 1)), pieces(from(0, 16)), pieces(from(15, 1), from(0, 1)),
		pieces(from(0, 10), data("XYZ"), from(10, 6)), pieces(data("ahead"), from(2, 9), from(11, 4), data("behind")), pieces(from(3, 6), from(9, 6), from(3, 6)),
		pieces(data("\x00"), from(5, 1), data("\xff\xfe"), data("\x00\x00"), from(4, 4), from(8, 4)), slices.Repeat(pieces(from(1, 3), data("..")), 9),
	}
}

func TestPromise9PiecesInTwoParts(t *testing.T) {
	old := "0123456789abcdef"
	for _, list := range someLists() {
		whole := madeByRule(old, list)
		checkPatched(t, old, list, whole)
		for k := range len(list) + 1 {
			one, _ := impl.Patch(old, list[:k])
			two, _ := impl.Patch(old, list[k:])
			if one+two != whole {
				t.Errorf("%s and %s make %q and %q, together %q", shown(list[:k]), shown(list[k:]), one, two, whole)
			}
		}
		for _, other := range someLists() {
			checkPatched(t, old, slices.Concat(list, other), whole+madeByRule(old, other))
		}
	}
}

func TestPromise9TwoDeltasAreOne(t *testing.T) {
	a := pieces(from(0, 10), data("XYZ"), from(10, 6))
	for _, c := range []struct {
		b, want []impl.Piece
	}{
		{nil, nil},
		{pieces(data("new")), pieces(data("new"))},
		{pieces(from(0, 19)), a},
		{pieces(from(0, 10)), pieces(from(0, 10))},
		{pieces(from(10, 3)), pieces(data("XYZ"))},
		{pieces(from(13, 6)), pieces(from(10, 6))},
		{pieces(from(3, 4)), pieces(from(3, 4))},
		{pieces(from(14, 2)), pieces(from(11, 2))},
		{pieces(from(18, 1)), pieces(from(15, 1))},
		{pieces(from(11, 1)), pieces(data("Y"))},
		{pieces(from(10, 2)), pieces(data("XY"))},
		{pieces(from(11, 2)), pieces(data("YZ"))},
		{pieces(from(9, 2)), pieces(from(9, 1), data("X"))},
		{pieces(from(12, 2)), pieces(data("Z"), from(10, 1))},
		{pieces(from(8, 4)), pieces(from(8, 2), data("XY"))},
		{pieces(from(11, 7)), pieces(data("YZ"), from(10, 5))},
		{pieces(from(9, 5)), pieces(from(9, 1), data("XYZ"), from(10, 1))},
		{pieces(from(1, 17)), pieces(from(1, 9), data("XYZ"), from(10, 5))},
		{pieces(from(8, 4), data("!"), from(13, 1)), pieces(from(8, 2), data("XY"), data("!"), from(10, 1))},
		{pieces(from(11, 1), from(11, 1), from(11, 2)), pieces(data("Y"), data("Y"), data("YZ"))},
		{pieces(from(2, 2), from(4, 2)), pieces(from(2, 2), from(4, 2))},
		{pieces(data("p"), data("q"), from(10, 1), data("r")), pieces(data("p"), data("q"), data("X"), data("r"))},
	} {
		checkComposed(t, a, c.b, c.want)
	}
	// Pieces that would make one stay two.
	checkComposed(t, pieces(from(0, 3), from(3, 3), data("a"), data("b")), pieces(from(1, 7)), pieces(from(1, 2), from(3, 3), data("a"), data("b")))
	checkComposed(t, pieces(data("abcdef")), pieces(from(1, 2), from(3, 2), data("x"), from(0, 6)), pieces(data("bc"), data("de"), data("x"), data("abcdef")))
	checkComposed(t, nil, nil, nil)
	checkComposed(t, nil, pieces(data("a"), data("b")), pieces(data("a"), data("b")))
	checkComposed(t, pieces(from(3990, 10)), pieces(from(9, 1), from(0, 1)), pieces(from(3999, 1), from(3990, 1)))
}

func TestPromise9TwoDeltasMakeWhatOneMakes(t *testing.T) {
	old := "0123456789abcdef"
	for _, a := range someLists() {
		middle := madeByRule(old, a)
		size := int64(len(middle))
		check := func(b []impl.Piece) {
			t.Helper()
			checkComposed(t, a, b, composedByRule(a, b))
			list, _ := impl.Compose(a, b)
			checkPatched(t, old, list, madeByRule(middle, b))
		}
		for at := range size {
			for long := int64(1); at+long <= size; long++ {
				check(pieces(from(at, long)))
				check(pieces(data("<"), from(at, long), data(">"), from(size-long, long), from(0, at+1)))
			}
		}
		for _, b := range someLists() {
			if okByRule(size, b) {
				check(b)
			} else {
				checkNotComposed(t, "pieces beyond the middle", a, b)
			}
		}
	}
}

func TestPromise9DeltasOfTextsOneBehindTheOther(t *testing.T) {
	texts := []string{"", "abcdefghij", strings.Repeat("incremental ", 20), someBytes(2, 300), someBytes(2, 200) + "between" + someBytes(3, 100), lettersOf(4, 400, "ab"), lettersOf(4, 300, "ab") + someBytes(2, 90)}
	for _, one := range texts {
		for _, two := range texts {
			for _, three := range texts {
				a, _ := impl.DeltaOf(one, two)
				b, _ := impl.DeltaOf(two, three)
				list, ok := impl.Compose(a, b)
				if !ok || !slices.Equal(list, composedByRule(a, b)) {
					t.Errorf("Compose of %d pieces and %d: %d, %v", len(a), len(b), len(list), ok)
				}
				checkPatched(t, one, list, three)
			}
		}
	}
}

func TestPromise9DeltasThatAreNotComposed(t *testing.T) {
	right := pieces(from(0, 10), data("XYZ"), from(10, 6))
	for _, p := range wrongFor(impl.MaxPack) {
		checkNotComposed(t, "a wrong piece in a", pieces(p), nil)
		checkNotComposed(t, "a wrong piece in a", append(slices.Clone(right), p), pieces(from(0, 1)))
		checkNotComposed(t, "wrong pieces in both", pieces(p), pieces(p))
	}
	for _, p := range wrongFor(19) {
		checkNotComposed(t, "a wrong piece in b", right, pieces(p))
		checkNotComposed(t, "a wrong piece in b", right, pieces(data("x"), p, data("x")))
	}
	for _, p := range wrongFor(0) {
		checkNotComposed(t, "a piece of nothing", nil, pieces(p))
	}
	checkNotComposed(t, "more in a than MaxPack", pieces(from(0, 4000), data("x")), pieces(from(0, 1)))
	checkNotComposed(t, "more in b than MaxPack", pieces(from(0, 4000)), pieces(from(0, 4000), data("x")))
	checkNotComposed(t, "a piece more in a", slices.Repeat(pieces(data("x")), 501), nil)
	checkNotComposed(t, "a piece more in b", right, slices.Repeat(pieces(data("x")), 501))
	checkComposed(t, pieces(from(0, 4000)), pieces(from(0, 4000)), pieces(from(0, 4000)))
}

func TestPromise9ComposedOfJustMaxPieces(t *testing.T) {
	x, y := pieces(data("x")), pieces(data("y"))
	some := slices.Repeat(x, 500)
	checkComposed(t, some, pieces(from(0, 500)), some)
	checkComposed(t, some, pieces(from(0, 250), from(0, 250)), some)
	checkComposed(t, some, pieces(from(0, 499), y[0]), append(slices.Repeat(x, 499), y...))
	checkComposed(t, x, slices.Repeat(y, 500), slices.Repeat(y, 500))
	checkComposed(t, x, slices.Repeat(pieces(from(0, 1)), 500), some)
	checkNotComposed(t, "a piece more", some, pieces(from(0, 500), y[0]))
	checkNotComposed(t, "a piece more", some, pieces(y[0], from(0, 500)))
	checkNotComposed(t, "a piece more", some, pieces(from(0, 250), from(0, 251)))
	checkNotComposed(t, "many pieces more", some, slices.Repeat(pieces(from(0, 500)), 8))
	wide := slices.Repeat(pieces(from(0, 2)), 500)
	checkNotComposed(t, "halves of pieces", wide, pieces(from(1, 500), from(501, 499)))
	checkComposed(t, wide, pieces(from(1, 500)), slices.Concat(pieces(from(1, 1)), slices.Repeat(pieces(from(0, 2)), 249), pieces(from(0, 1))))
}

func TestPromise9TextsOfDeltas(t *testing.T) {
	for _, c := range []struct {
		list []impl.Piece
		want string
	}{
		{nil, "\x00"},
		{pieces(data("a")), "\x01\x01a"},
		{pieces(data("\x00")), "\x01\x01\x00"},
		{pieces(from(0, 1)), "\x01\x00\x00\x01"},
		{pieces(from(300, 200)), "\x01\x00\xac\x02\xc8\x01"},
		{pieces(from(0, 10), data("XYZ"), from(10, 6)), "\x03\x00\x00\x0a\x03XYZ\x00\x0a\x06"},
		{pieces(from(0, 4000)), "\x01\x00\x00\xa0\x1f"},
		{pieces(from(3999, 1)), "\x01\x00\x9f\x1f\x01"},
		{pieces(data(strings.Repeat("d", 128))), "\x01\x80\x01" + strings.Repeat("d", 128)},
		{slices.Repeat(pieces(data("z")), 500), "\xf4\x03" + strings.Repeat("\x01z", 500)},
	} {
		if s := impl.DeltaText(c.list); s != c.want {
			t.Errorf("DeltaText of %s: %.40q, not %.40q", shown(c.list), s, c.want)
		}
		checkRead(t, c.want, c.list)
	}
}

func TestPromise9RightPiecesComeBack(t *testing.T) {
	lists := append(someLists(), pieces(data(strings.Repeat("x", 4000))), slices.Repeat(pieces(from(3992, 8)), 500), slices.Repeat(pieces(data("12345678")), 500), slices.Repeat(pieces(data("x"), from(127, 1), from(128, 2)), 166))
	for _, old := range someMatched() {
		for _, text := range someMatched() {
			list, _ := impl.DeltaOf(old, text)
			lists = append(lists, list)
		}
	}
	for _, list := range lists {
		s := impl.DeltaText(list)
		if s != saidPieces(list...) {
			t.Errorf("DeltaText of %s: %.40q, not %.40q", shown(list), s, saidPieces(list...))
		}
		checkRead(t, s, list)
	}
}

func hasUnsaidNumbers(p impl.Piece) bool {
	return p.Data != "" && (p.From != 0 || p.Long != 0)
}

func TestPromise9WrongPiecesHaveNoText(t *testing.T) {
	wrong := [][]impl.Piece{slices.Repeat(pieces(data("x")), 501), pieces(data(strings.Repeat("x", 4001))), pieces(from(0, 4000), data("x")), pieces(from(0, 2001), from(0, 2000)), append(slices.Repeat(pieces(from(0, 8)), 499), from(0, 9))}
	for _, p := range wrongFor(impl.MaxPack) {
		wrong = append(wrong, pieces(p), pieces(data("x"), p), pieces(p, data("x")), pieces(from(0, 6), p, from(0, 6)))
	}
	for _, list := range wrong {
		if s := impl.DeltaText(list); s != "" {
			t.Errorf("DeltaText of %s: %.40q", shown(list), s)
		}
		// Beside Data a text has no numbers: so it says the piece without them, which is right.
		if !slices.ContainsFunc(list, hasUnsaidNumbers) {
			checkNotRead(t, "wrong pieces", saidPieces(list...))
		}
	}
	checkRead(t, saidPieces(pieces(from(0, 3999), data("x"))...), pieces(from(0, 3999), data("x")))
}

func TestPromise9BytesOfDeltasBehindAndThatAreNotThere(t *testing.T) {
	checkNotRead(t, "no bytes", "")
	for _, list := range someLists() {
		s := saidPieces(list...)
		for cut := range len(s) {
			checkNotRead(t, "cut short", s[:cut])
		}
		for _, more := range []string{"\x00", "\x01", "x", "\xff", "\x00\x00\x01", "\x01x", strings.Repeat("\x00", 100), s} {
			checkNotRead(t, "bytes behind the end", s+more)
		}
		checkNotRead(t, "a piece fewer than is said", saidPieces(append(slices.Clone(list), data("x"))...)[:len(s)])
	}
}

func TestPromise9BytesOfDeltasThatAreChanged(t *testing.T) {
	check := func(t *testing.T, s string) {
		want, is := readByRule(s)
		if is {
			checkRead(t, s, want)
		} else {
			checkNotRead(t, "no delta's text", s)
		}
	}
	lists := append(someLists(), pieces(from(300, 200), data(strings.Repeat("d", 130)), from(3999, 1)))
	for _, list := range lists {
		s := saidPieces(list...)
		for at := range s {
			check(t, s[:at]+s[at+1:])
			for b := range 256 {
				changed := s[:at] + string([]byte{byte(b)}) + s[at+1:]
				check(t, changed)
				if other, ok := impl.ReadDelta(changed); ok && changed != s && slices.Equal(other, list) {
					t.Errorf("%s is read from %q, and from %q", shown(list), s, changed)
				}
			}
			check(t, s[:at]+"\x00"+s[at:])
		}
	}
	someStrings("\x00\x01\x02\x80", 7, func(s string) { check(t, s) })
	for seed := range uint64(2000) {
		check(t, lettersOf(seed, int(seed%12), "\x00\x01\x02\x03\x05\x80\xa0\x1f\x81x"))
	}
}

func TestPromise9NumbersOfDeltasInAnotherForm(t *testing.T) {
	longer := map[string][]string{
		"\x00": {"\x80", "\x80\x00", "\x80\x80\x00", "\x80\x80\x80\x80\x80\x80\x80\x80\x80\x00", "\x80\x80\x80\x80\x80\x80\x80\x80\x80\x02"},
		"\x01": {"\x81", "\x81\x00", "\x81\x80\x00", "\x81\x80\x80\x80\x80\x80\x80\x80\x80\x00", "\x81\x80\x80\x80\x80\x80\x80\x80\x80\x02", strings.Repeat("\x81", 10) + "\x01"},
	}
	checkRead(t, "\x01\x00\x01\x01", pieces(from(1, 1)))
	checkRead(t, "\x01\x01x", pieces(data("x")))
	for _, nought := range longer["\x00"] {
		checkNotRead(t, "a count of no pieces", nought)
		checkNotRead(t, "a size of no Data", "\x01"+nought+"\x01\x01")
		checkNotRead(t, "a place", "\x01\x00"+nought+"\x01")
	}
	for _, one := range longer["\x01"] {
		checkNotRead(t, "a count", one+"\x00\x01\x01")
		checkNotRead(t, "a size", "\x01"+one+"x")
		checkNotRead(t, "a place", "\x01\x00"+one+"\x01")
		checkNotRead(t, "how many bytes", "\x01\x00\x01"+one)
	}
}

func TestPromise9NumbersOfDeltasThatAreTooGreat(t *testing.T) {
	for _, n := range edgeNumbers() {
		if n <= 4000 {
			continue
		}
		number := impl.PutNum(n)
		checkNotRead(t, "a count", number)
		checkNotRead(t, "a count", number+strings.Repeat("\x01x", 3000))
		checkNotRead(t, "a size", "\x01"+number)
		checkNotRead(t, "a size", "\x01"+number+strings.Repeat("x", 5000))
		checkNotRead(t, "a size behind a piece", "\x02\x01x"+number+"xxx")
		checkNotRead(t, "a place", "\x01\x00"+number+"\x01")
		checkNotRead(t, "how many bytes", "\x01\x00\x00"+number)
		checkNotRead(t, "how many bytes", "\x01\x00"+number+number)
	}
	checkNotRead(t, "a count above MaxPieces", "\xf5\x03"+strings.Repeat("\x01z", 501))
	checkNotRead(t, "Data of more than MaxText bytes", "\x01"+impl.PutText(strings.Repeat("x", 100001)))
}

func TestPromise18DeltasAreNewMemory(t *testing.T) {
	old, text := someBytes(1, 200), "ahead"+someBytes(1, 100)+"between"+someBytes(1, 200)[120:]+"behind"
	a, _ := impl.DeltaOf(old, text)
	b := pieces(from(0, 3), from(1, 3), from(1, int64(len(text))-2), from(0, 5), data(strings.Clone("whole")))
	list, composed := impl.Compose(a, b)
	s := impl.DeltaText(list)
	back, read := impl.ReadDelta(s)
	if !composed || !read || len(a) != 5 || len(list) != 9 || !slices.Equal(list, back) {
		t.Fatalf("%s and %s: %s, %v, read back as %s, %v", shown(a), shown(b), shown(list), composed, shown(back), read)
	}
	whole := slices.Concat(a, b, list, back)
	for i, p := range whole {
		if sharesMemory(p.Data, text) || sharesMemory(p.Data, s) {
			t.Errorf("the Data of piece %d lies in an argument", i)
		}
		for k, q := range whole {
			if i != k && sharesMemory(p.Data, q.Data) {
				t.Errorf("pieces %d and %d share their Data", i, k)
			}
		}
	}
	one, _ := impl.Patch(old, pieces(from(0, 200)))
	two, _ := impl.Patch("", b[4:])
	if one != old || two != "whole" || sharesMemory(one, old) || sharesMemory(two, b[4].Data) {
		t.Error("what was made is not new memory")
	}
}

func TestPromise18DeltasWriteIntoNoArgument(t *testing.T) {
	old, text := "0123456789abcdef", "0123456789XYZabcdef"
	spare := from(77, 77)
	a := append(make([]impl.Piece, 0, 9), from(0, 10), data("XYZ"), from(10, 6), spare, spare)
	b := append(make([]impl.Piece, 0, 9), from(8, 4), data("!"), from(13, 1), spare, spare)
	sameA, sameB := slices.Clone(a), slices.Clone(b)
	list, _ := impl.Compose(a[:3], b[:3])
	first := slices.Clone(list)
	delta, _ := impl.DeltaOf(old, text)
	impl.PiecesOk(16, a[:3])
	s, t1 := impl.DeltaText(a[:3]), impl.DeltaText(b[:3])
	made, _ := impl.Patch(old, a[:3])
	back, _ := impl.ReadDelta(s)
	clear(list[:cap(list)])
	clear(back[:cap(back)])
	clear(delta[:cap(delta)])
	if !slices.Equal(a, sameA) || !slices.Equal(b, sameB) {
		t.Error("something was written into an argument, or behind it")
	}
	again, _ := impl.Compose(a[:3], b[:3])
	delta, _ = impl.DeltaOf(old, text)
	other, _ := impl.Patch(old, a[:3])
	if !slices.Equal(again, first) || !slices.Equal(delta, a[:3]) || other != made || impl.DeltaText(a[:3]) != s || impl.DeltaText(b[:3]) != t1 {
		t.Error("the same arguments give other answers")
	}
}
