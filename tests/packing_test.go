package tests

import (
	"encoding/binary"
	"slices"
	"strings"
	"testing"

	"loop.example/g00228/impl"
)

// treeByRule tells each node by the bits that stand ahead of it: a 1, and these.
func treeByRule(from int64, bits int, value int64) []impl.Choice {
	var list []impl.Choice
	for k := range bits {
		node := int64(1)<<k | value>>(bits-k)
		list = append(list, impl.Choice{Context: from + node, Bit: value >> (bits - 1 - k) & 1})
	}
	return list
}

func choicesByRule(tokens []impl.Token) []impl.Choice {
	var list []impl.Choice
	ahead := int64(0)
	for _, t := range tokens {
		list = append(list, impl.Choice{Context: ahead, Bit: t.Kind})
		if t.Kind == 0 {
			list = append(list, treeByRule(1, 8, t.Byte)...)
		} else {
			list = append(list, treeByRule(260, 6, t.Long-3)...)
			list = append(list, treeByRule(330, 6, (t.Dist-1)/64)...)
			list = append(list, treeByRule(400, 6, (t.Dist-1)%64)...)
		}
		ahead = t.Kind
	}
	return list
}

// saidWith has these tokens under a size, whether they are those of any data or not.
func saidWith(size uint64, tokens ...impl.Token) string {
	return string(binary.AppendUvarint(nil, size)) + codedByRule(choicesByRule(tokens))
}

func packByRule(data string) string {
	return saidWith(uint64(len(data)), tokensByRule(data)...)
}

// copiedFrom ends in a copy of so many bytes from so far back.
func copiedFrom(dist int, long int) string {
	data := someBytes(uint64(dist), dist)
	for range long {
		data += data[len(data)-dist : len(data)-dist+1]
	}
	return data
}

// unlikeBytes has just so many bytes, of which no three stood before.
func unlikeBytes(t *testing.T, long int) string {
	t.Helper()
	for seed := range uint64(100) {
		if data := someBytes(seed, long); len(tokensByRule(data)) == long {
			return data
		}
	}
	t.Fatal("three bytes always stood before")
	return ""
}

func edgesToPack(t *testing.T) []string {
	list := []string{
		"", "\x00", "\xff", "a", "aa", "ab", "\x00\xff", "aaa", "aba", "abc",
		unlikeBytes(t, impl.MaxPack), lettersOf(3, impl.MaxPack, "ab"), lettersOf(4, impl.MaxPack, "aaaaaaaab"),
		"abc" + someBytes(1, 3994) + "abc", copiedFrom(3934, 66),
	}
	for _, long := range []int{4, 5, 66, 67, 68, 69, 70, 133, 134, 300, impl.MaxPack - 1, impl.MaxPack} {
		list = append(list, strings.Repeat("a", long), strings.Repeat("\x00", long), strings.Repeat("\xff", long))
	}
	for _, dist := range []int{1, 2, 63, 64, 65, 66, 127, 128, 129, 192, 193} {
		for _, long := range []int{3, 4, 65, 66} {
			list = append(list, copiedFrom(dist, long))
		}
	}
	return list
}

func eachToPack(t *testing.T, check func(string)) {
	someStrings("ab", 8, check)
	someStrings("abc", 5, check)
	for _, data := range someMatched() {
		check(data)
	}
	for _, data := range edgesToPack(t) {
		check(data)
	}
}

func checkUnpacked(t *testing.T, s string, want string) {
	t.Helper()
	if data, ok := impl.Unpack(s); !ok || data != want {
		t.Errorf("Unpack of %d bytes (%.40x): %d bytes (%.40q) %v, not %d bytes (%.40q)", len(s), s, len(data), data, ok, len(want), want)
	}
}

func checkNoPack(t *testing.T, what string, s string) {
	t.Helper()
	if data, ok := impl.Unpack(s); ok || data != "" {
		t.Errorf("%s: Unpack(%.40x) tells %d bytes (%.40q), %v", what, s, len(data), data, ok)
	}
}

// checkOnlyPacks lets s be the pack of some data, but no other text.
func checkOnlyPacks(t *testing.T, what string, s string) {
	t.Helper()
	data, ok := impl.Unpack(s)
	if !ok && data != "" || ok && packByRule(data) != s {
		t.Errorf("%s: Unpack(%.40x) tells %d bytes (%.40q), %v, that have another pack", what, s, len(data), data, ok)
	}
}

func TestPromise7ChoicesOfFewBytes(t *testing.T) {
	kind := func(context int64, bit int64) impl.Choice { return impl.Choice{Context: context, Bit: bit} }
	in := func(bits string, contexts ...int64) []impl.Choice {
		list := make([]impl.Choice, len(contexts))
		for i, c := range contexts {
			list[i] = impl.Choice{Context: c, Bit: int64(bits[i] - '0')}
		}
		return list
	}
	first := []impl.Choice{kind(0, 0)}
	a := in("01100001", 2, 3, 6, 12, 23, 45, 89, 177)
	b := in("01100010", 2, 3, 6, 12, 23, 45, 89, 178)
	fewest := in("000000", 261, 262, 264, 268, 276, 292)
	most := in("111111", 261, 263, 267, 275, 291, 323)
	near := in("000000000000", 331, 332, 334, 338, 346, 362, 401, 402, 404, 408, 416, 432)
	copied := []impl.Choice{kind(0, 1)}
	for data, want := range map[string][]impl.Choice{
		"":                            nil,
		"a":                           slices.Concat(first, a),
		"\x00":                        slices.Concat(first, in("00000000", 2, 3, 5, 9, 17, 33, 65, 129)),
		"\xff":                        slices.Concat(first, in("11111111", 2, 4, 8, 16, 32, 64, 128, 256)),
		"ab":                          slices.Concat(first, a, first, b),
		"aaaa":                        slices.Concat(first, a, copied, fewest, near),
		"aaaab":                       slices.Concat(first, a, copied, fewest, near, []impl.Choice{kind(1, 0)}, b),
		"aaaaba":                      slices.Concat(first, a, copied, fewest, near, []impl.Choice{kind(1, 0)}, b, first, a),
		strings.Repeat("a", 67):       slices.Concat(first, a, copied, most, near),
		strings.Repeat("a", 70):       slices.Concat(first, a, copied, most, near, []impl.Choice{kind(1, 1)}, fewest, near),
		strings.Repeat("a", 67) + "b": slices.Concat(first, a, copied, most, near, []impl.Choice{kind(1, 0)}, b),
	} {
		if list, ok := impl.Choices(data); !ok || !slices.Equal(list, want) {
			t.Errorf("Choices(%.20q): %v %v, not %v", data, list, ok, want)
		}
	}
}

func TestPromise7CopiesAtEdgesHaveTheirContexts(t *testing.T) {
	for _, c := range []struct{ dist, long, far, near int64 }{
		{1, 3, 0, 0}, {1, 66, 0, 0}, {2, 66, 0, 1}, {63, 66, 0, 62}, {64, 3, 0, 63}, {64, 66, 0, 63}, {65, 3, 1, 0}, {65, 66, 1, 0},
		{128, 3, 1, 63}, {129, 66, 2, 0}, {3934, 66, 61, 29}, {3997, 3, 62, 28},
	} {
		list, ok := impl.Choices(copiedFrom(int(c.dist), int(c.long)))
		if !ok || len(list) < 19 {
			t.Fatalf("Choices of a copy of %d bytes from %d back: %d, %v", c.long, c.dist, len(list), ok)
		}
		want := slices.Concat([]impl.Choice{{Context: 0, Bit: 1}}, treeByRule(260, 6, c.long-3), treeByRule(330, 6, c.far), treeByRule(400, 6, c.near))
		if last := list[len(list)-19:]; !slices.Equal(last, want) {
			t.Errorf("Choices of a copy of %d bytes from %d back: %v, not %v", c.long, c.dist, last, want)
		}
	}
}

func TestPromise7ChoicesAndPacksAsTheDocumentSays(t *testing.T) {
	eachToPack(t, func(data string) {
		want := choicesByRule(tokensByRule(data))
		if list, ok := impl.Choices(data); !ok || !slices.Equal(list, want) {
			t.Errorf("Choices of %d bytes (%.40q): %.5v.., %v, not %.5v..", len(data), data, list, ok, want)
		}
		if s, ok := impl.Pack(data); !ok || s != packByRule(data) {
			t.Errorf("Pack of %d bytes (%.40q): %.40x %v, not %.40x", len(data), data, s, ok, packByRule(data))
		}
	})
}

func TestPromise7WhatWasPackedComesBack(t *testing.T) {
	for b := range 256 {
		for _, data := range []string{string([]byte{byte(b)}), string([]byte{byte(b), byte(b)}), string([]byte{byte(b), byte(b + 1), byte(b + 2)})} {
			checkUnpacked(t, packByRule(data), data)
		}
	}
	eachToPack(t, func(data string) {
		s, _ := impl.Pack(data)
		checkUnpacked(t, s, data)
	})
}

func TestPromise7AsManyBytesAsMayBe(t *testing.T) {
	data := unlikeBytes(t, impl.MaxPack)
	// Nine choices a byte are the most that there can be.
	if list, ok := impl.Choices(data); !ok || len(list) != 9*impl.MaxPack {
		t.Errorf("Choices of MaxPack bytes: %d, %v", len(list), ok)
	}
	for _, long := range []int{impl.MaxPack + 1, impl.MaxPack + 2, 2 * impl.MaxPack, 100000} {
		for _, data := range []string{strings.Repeat("a", long), someBytes(1, long)} {
			if list, ok := impl.Choices(data); ok || len(list) != 0 {
				t.Errorf("Choices of %d bytes: %d, %v", long, len(list), ok)
			}
			if s, ok := impl.Pack(data); ok || s != "" {
				t.Errorf("Pack of %d bytes: %d bytes, %v", long, len(s), ok)
			}
		}
	}
}

func TestPromise7AllPacksOfTwoBytesAndNoOther(t *testing.T) {
	packs := map[string]string{}
	for a := range 256 {
		for b := range 256 {
			data := string([]byte{byte(a), byte(b)})
			s, _ := impl.Pack(data)
			packs[s] = data
		}
	}
	if len(packs) != 1<<16 {
		t.Fatalf("there are %d packs of two bytes", len(packs))
	}
	for _, s := range []string{packByRule("ab"), packByRule("\x00\x00"), packByRule("\xff\xff")} {
		for at := 1; at < len(s); at++ {
			for b := range 256 {
				changed := s[:at] + string([]byte{byte(b)}) + s[at+1:]
				if want, is := packs[changed]; is {
					checkUnpacked(t, changed, want)
				} else {
					checkNoPack(t, "no pack of two bytes", changed)
				}
			}
		}
	}
}

func TestPromise7BytesBehindAndBytesThatAreNotThere(t *testing.T) {
	checkNoPack(t, "no bytes", "")
	for _, data := range []string{"", "a", "ab", "abcabcabcx", strings.Repeat("a", 200), someBytes(5, 50), strings.Repeat("\x00", impl.MaxPack)} {
		s := packByRule(data)
		for cut := range len(s) {
			checkNoPack(t, "cut short", s[:cut])
		}
		for _, more := range []string{"\x00", "\x01", "\xff", "x", "\x00\x00", strings.Repeat("\x00", 1000), s} {
			checkNoPack(t, "bytes behind the end", s+more)
		}
		checkNoPack(t, "a byte ahead", "\x00"+s)
	}
}

func TestPromise7BytesThatAreChanged(t *testing.T) {
	for _, data := range []string{"", "a", "abcabcabcx", "hello hello hello", strings.Repeat("ab", 100), someBytes(6, 20)} {
		s := packByRule(data)
		for at := range s {
			for b := range 256 {
				changed := s[:at] + string([]byte{byte(b)}) + s[at+1:]
				if changed == s {
					continue
				}
				checkOnlyPacks(t, "a byte that is changed", changed)
				if u, ok := impl.Unpack(changed); ok && u == data {
					t.Errorf("%q comes back from %x, and from %x", data, s, changed)
				}
			}
			checkOnlyPacks(t, "a byte that is left out", s[:at]+s[at+1:])
		}
	}
}

func TestPromise7TokensThatAreNotThoseOfTheData(t *testing.T) {
	a, b, c, x, y := byteToken('a'), byteToken('b'), byteToken('c'), byteToken('x'), byteToken('y')
	checkUnpacked(t, saidWith(4, a, copyToken(1, 3)), "aaaa")
	checkUnpacked(t, saidWith(11, a, b, c, x, copyToken(4, 3), y, copyToken(4, 3)), "abcxabcyabc")
	for what, s := range map[string]string{
		"bytes where there is a copy":  saidWith(4, a, a, a, a),
		"a copy that comes later":      saidWith(5, a, a, copyToken(1, 3)),
		"a copy that is too short":     saidWith(5, a, copyToken(1, 3), a),
		"two copies for one":           saidWith(7, a, copyToken(1, 3), copyToken(1, 3)),
		"a copy that is not nearest":   saidWith(11, a, b, c, x, copyToken(4, 3), y, copyToken(8, 3)),
		"a copy of what is repeated":   saidWith(9, a, b, c, copyToken(3, 3), copyToken(6, 3)),
		"a byte ahead of the copy":     saidWith(8, a, b, c, x, a, b, c, x),
		"most but one, and then bytes": saidWith(68, a, copyToken(1, 65), a, a),
	} {
		checkNoPack(t, what, s)
	}
}

func TestPromise7CopiesThatMayNotStand(t *testing.T) {
	a := byteToken('a')
	for _, dist := range []int64{1, 2, 64, 65, impl.MaxDist} {
		for _, long := range []int64{3, 66} {
			checkNoPack(t, "a copy of nothing", saidWith(uint64(long), copyToken(dist, long)))
			checkNoPack(t, "a copy from further back than there is", saidWith(uint64(long)+1, a, copyToken(max(2, dist), long)))
		}
	}
	data := unlikeBytes(t, 3997)
	tokens := tokensByRule(data)
	checkUnpacked(t, saidWith(4000, append(slices.Clone(tokens), copyToken(3997, 3))...), data+data[:3])
	for _, dist := range []int64{3998, impl.MaxDist} {
		checkNoPack(t, "a copy from further back than there is", saidWith(4000, append(slices.Clone(tokens), copyToken(dist, 3))...))
	}
}

func TestPromise7SizesThatTheChoicesDoNotMake(t *testing.T) {
	a, b := byteToken('a'), byteToken('b')
	for size := uint64(0); size < 4; size++ {
		checkNoPack(t, "a size that a copy passes", saidWith(size, a, copyToken(1, 3)))
	}
	for size := uint64(0); size < 67; size++ {
		checkNoPack(t, "a size that a copy passes", saidWith(size, a, copyToken(1, 66)))
	}
	checkNoPack(t, "a token more", saidWith(1, a, b))
	checkNoPack(t, "a token more", saidWith(0, a))
	checkNoPack(t, "a token less", saidWith(3, a, b))
	checkNoPack(t, "a token less", saidWith(1))
	for _, data := range []string{"abcabcabcx", strings.Repeat("q", 90), someBytes(2, 30)} {
		for size := range uint64(100) {
			s := saidWith(size, tokensByRule(data)...)
			if size == uint64(len(data)) {
				checkUnpacked(t, s, data)
				continue
			}
			checkOnlyPacks(t, "another size", s)
			checkOnlyPacks(t, "another size, and bytes behind", s+strings.Repeat("\x00", 9))
		}
	}
}

func TestPromise7SizesAboveMaxPack(t *testing.T) {
	list := append([]impl.Token{byteToken('a')}, slices.Repeat([]impl.Token{copyToken(1, 66)}, 60)...)
	with := func(size uint64, long int64) string {
		return saidWith(size, append(slices.Clone(list), copyToken(1, long))...)
	}
	checkUnpacked(t, with(4000, 39), strings.Repeat("a", 4000))
	checkNoPack(t, "a size above MaxPack", with(4001, 40))
	checkNoPack(t, "a size above MaxPack", with(4002, 41))
	checkNoPack(t, "a size that a copy passes", with(4000, 40))
	checkNoPack(t, "a size that a copy passes", with(4000, 66))
	for _, size := range []uint64{4001, 4096, 1 << 16, 1<<32 + 4, 1000000000000, 1<<63 - 1, 1<<63 + 4, 1<<64 - 1} {
		checkNoPack(t, "a size above MaxPack", saidWith(size, byteToken('a'), copyToken(1, 3)))
		checkNoPack(t, "a size above MaxPack", saidWith(size)+strings.Repeat("\x00", 10000))
	}
}

func TestPromise7SizesThatAreNoNumbers(t *testing.T) {
	code := packByRule("aaaa")[1:]
	checkUnpacked(t, "\x04"+code, "aaaa")
	for _, size := range []string{"", "\x84", "\x84\x00", "\x84\x80\x00", "\x84\x80\x80\x80\x80\x80\x80\x80\x80\x00", "\x84\x80\x80\x80\x80\x80\x80\x80\x80\x02", strings.Repeat("\x80", 10) + "\x04"} {
		checkNoPack(t, "a size that is no number", size+code)
	}
}

func TestPromise7CodesThatNoChoicesMake(t *testing.T) {
	for _, code := range []string{"", "\x00", "\x00\x00\x00\x00", "\x01\x00\x00\x00\x00", "\x00\x00\x00\x00\x01", "\x00\x80\x00\x00\x00", "\x00\xff\xff\xff\xff"} {
		checkNoPack(t, "a code of nothing that is not 0", "\x00"+code)
	}
	checkUnpacked(t, "\x00\x00\x00\x00\x00\x00", "")
	for _, data := range []string{"a", "abcabcabcx", strings.Repeat("ab", 100)} {
		s := []byte(packByRule(data))
		// A little more than low lies within the same width: it says the same bits, but is not what Pack tells.
		s[len(s)-1]++
		checkNoPack(t, "a code that is not low", string(s))
		s[len(s)-1]--
		s[len(binary.AppendUvarint(nil, uint64(len(data))))] = 1
		checkNoPack(t, "a first byte that is not 0", string(s))
	}
	for seed := range uint64(300) {
		for size := range uint64(12) {
			checkOnlyPacks(t, "bytes without a rule", impl.PutNum(size)+"\x00"+someBytes(seed, 20))
			checkOnlyPacks(t, "bytes without a rule", someBytes(seed*12+size, int(size)+3))
		}
	}
	checkNoPack(t, "bytes of 255 alone", "\xa0\x1f\x00"+strings.Repeat("\xff", 9000))
}

func TestPromise18PackingWritesIntoNoArgument(t *testing.T) {
	data := strings.Repeat("packed once more ", 30) + someBytes(1, 40)
	list, _ := impl.Choices(data)
	same := slices.Clone(list)
	s, _ := impl.Pack(data)
	clear(list[:cap(list)])
	again, _ := impl.Choices(data)
	other, _ := impl.Pack(data)
	if !slices.Equal(again, same) || other != s {
		t.Error("the same argument gives other answers")
	}
	one, _ := impl.Unpack(s)
	two, _ := impl.Unpack(s)
	if one != data || two != data || sharesMemory(one, data) || sharesMemory(one, two) || sharesMemory(one, s) {
		t.Error("what was unpacked is not new memory")
	}
}
