package tests

import (
	"slices"
	"strings"
	"testing"

	"loop.example/g00228/impl"
)

// longestByRule tries each place ahead, the nearest first.
func longestByRule(data string, at int) (int64, int64) {
	dist, long := 0, 0
	for back := 1; back <= min(at, 4096); back++ {
		same := 0
		for same < 66 && at+same < len(data) && data[at+same] == data[at+same-back] {
			same++
		}
		if same > long {
			dist, long = back, same
		}
	}
	return int64(dist), int64(long)
}

func tokensByRule(data string) []impl.Token {
	var list []impl.Token
	for at := 0; at < len(data); {
		dist, long := longestByRule(data, at)
		if long < 3 {
			list = append(list, impl.Token{Byte: int64(data[at])})
			at++
			continue
		}
		list = append(list, impl.Token{Kind: 1, Dist: dist, Long: long})
		at += int(long)
	}
	return list
}

// lettersOf has few unlike bytes, so that much of it stood before.
func lettersOf(seed uint64, long int, letters string) string {
	b := []byte(someBytes(seed, long))
	for i := range b {
		b[i] = letters[int(b[i])%len(letters)]
	}
	return string(b)
}

func someMatched() []string {
	list := []string{
		"", "a", "ab", "aa", "abc", "aaa", "aaaa", "abcabc", "abcabcabcx", "abxabyab", "abcdabceabcd",
		strings.Repeat("\x00", 200), strings.Repeat("\xff\x00", 150), strings.Repeat("incremental ", 40),
		someBytes(1, 700), someBytes(2, 300) + someBytes(2, 300),
	}
	for seed := range uint64(6) {
		list = append(list, lettersOf(seed, 400, "ab"), lettersOf(seed, 500, "abc\xff"), lettersOf(seed, 600, "aaaaaaaab"))
	}
	return list
}

func checkLongest(t *testing.T, data string, at int64, dist int64, long int64) {
	t.Helper()
	if d, n := impl.Longest(data, at); d != dist || n != long {
		t.Errorf("Longest(%.60q, %d): %d back, %d bytes, not %d and %d", data, at, d, n, dist, long)
	}
}

func checkTokens(t *testing.T, data string, want []impl.Token) {
	t.Helper()
	if list, ok := impl.Tokens(data); !ok || !slices.Equal(list, want) {
		t.Errorf("Tokens of %d bytes (%.60q): %.5v.., %v, not %.5v..", len(data), data, list, ok, want)
	}
}

func checkMade(t *testing.T, list []impl.Token, want string) {
	t.Helper()
	if s, ok := impl.Untoken(list); !ok || s != want {
		t.Errorf("Untoken of %d tokens: %d bytes (%.60q) %v, not %d bytes (%.60q)", len(list), len(s), s, ok, len(want), want)
	}
}

func checkNothingMade(t *testing.T, what string, list []impl.Token) {
	t.Helper()
	if s, ok := impl.Untoken(list); ok || s != "" {
		t.Errorf("%s: Untoken tells %d bytes, %v", what, len(s), ok)
	}
}

func byteToken(b byte) impl.Token {
	return impl.Token{Kind: impl.TkByte, Byte: int64(b)}
}

func copyToken(dist int64, long int64) impl.Token {
	return impl.Token{Kind: impl.TkCopy, Dist: dist, Long: long}
}

func TestPromise6TokensThatMayStand(t *testing.T) {
	for b := range int64(256) {
		for _, have := range []int64{0, 1, 4000, 1<<63 - 1} {
			if !impl.TokenOk(impl.Token{Byte: b}, have) {
				t.Errorf("the byte %d may not stand behind %d", b, have)
			}
		}
	}
	for _, dist := range []int64{1, 2, 3, 4095, impl.MaxDist} {
		for long := int64(impl.MinCopy); long <= impl.MaxCopy; long++ {
			for _, have := range []int64{dist, dist + 1, impl.MaxDist + 1, 1<<63 - 1} {
				if ok := impl.TokenOk(copyToken(dist, long), have); !ok {
					t.Errorf("a copy of %d bytes from %d back may not stand behind %d", long, dist, have)
				}
			}
		}
	}
}

func TestPromise6TokensThatMayNotStand(t *testing.T) {
	for _, c := range []struct {
		token impl.Token
		have  int64
	}{
		{byteToken('a'), -1}, {byteToken(0), -1 << 63}, {copyToken(1, 3), -1},
		{impl.Token{Byte: -1}, 5}, {impl.Token{Byte: 256}, 5}, {impl.Token{Byte: 1<<32 + 1}, 5}, {impl.Token{Byte: -1 << 63}, 5},
		{impl.Token{Byte: 1, Dist: 1}, 5}, {impl.Token{Byte: 1, Long: 3}, 5}, {impl.Token{Dist: -1}, 5}, {impl.Token{Long: -1}, 5}, {impl.Token{Dist: 1, Long: 3}, 5},
		{copyToken(0, 3), 5}, {copyToken(-1, 3), 5}, {copyToken(6, 3), 5}, {copyToken(1, 3), 0}, {copyToken(-1<<63, 3), 5}, {copyToken(1<<63-1, 3), 5},
		{copyToken(impl.MaxDist+1, 3), impl.MaxDist + 1}, {copyToken(impl.MaxDist+1, 3), 1<<63 - 1}, {copyToken(impl.MaxDist, 3), impl.MaxDist - 1},
		{copyToken(1, 2), 5}, {copyToken(1, 0), 5}, {copyToken(1, -3), 5}, {copyToken(1, 67), 5}, {copyToken(1, 1<<32+3), 5}, {copyToken(1, 1<<63-1), 5},
		{impl.Token{Kind: 1, Byte: 1, Dist: 1, Long: 3}, 5}, {impl.Token{Kind: 1, Byte: -1, Dist: 1, Long: 3}, 5}, {impl.Token{Kind: 1}, 5}, {impl.Token{Kind: 1, Byte: 97}, 5},
		{impl.Token{Kind: 2}, 5}, {impl.Token{Kind: -1}, 5}, {impl.Token{Kind: 2, Dist: 1, Long: 3}, 5}, {impl.Token{Kind: 1 << 32}, 5}, {impl.Token{Kind: 1<<32 + 1, Dist: 1, Long: 3}, 5},
	} {
		if impl.TokenOk(c.token, c.have) {
			t.Errorf("%+v may stand behind %d", c.token, c.have)
		}
	}
}

func TestPromise6TheLongestAndOfTheseTheNearest(t *testing.T) {
	for _, c := range []struct {
		data           string
		at, dist, long int64
	}{
		{"a", 0, 0, 0}, {"ab", 1, 0, 0}, {"aa", 1, 1, 1}, {"aba", 2, 2, 1}, {"aaa", 1, 1, 2}, {"aaaa", 1, 1, 3}, {"aaaa", 2, 1, 2}, {"aaaa", 3, 1, 1},
		{"abxabyab", 6, 3, 2}, {"abxayab", 5, 5, 2}, {"abxayac", 5, 2, 1}, {"abcxabcyabc", 8, 4, 3}, {"abcdxabcyabcd", 9, 9, 4}, {"abcdxabcdyabcz", 10, 5, 3},
		{"ababab", 2, 2, 4}, {"abcabcabcx", 3, 3, 6}, {"xabab", 3, 2, 2}, {"aabaab", 3, 3, 3},
		{strings.Repeat("a", 67), 1, 1, 66}, {strings.Repeat("a", 66), 1, 1, 65}, {strings.Repeat("a", 200), 100, 1, 66}, {strings.Repeat("a", 200), 134, 1, 66}, {strings.Repeat("a", 200), 135, 1, 65},
		{someBytes(1, 66) + "x" + someBytes(1, 67), 67, 67, 66}, {someBytes(1, 65) + "x" + someBytes(1, 67), 66, 66, 65},
		{"abc" + someBytes(1, 3994) + "abc", 3997, 3997, 3}, {"z" + someBytes(1, 80) + "y", 81, 0, 0},
	} {
		checkLongest(t, c.data, c.at, c.dist, c.long)
	}
}

func TestPromise6LongestAsTheDocumentSays(t *testing.T) {
	check := func(data string) {
		for at := range data {
			dist, long := longestByRule(data, at)
			checkLongest(t, data, int64(at), dist, long)
		}
	}
	someStrings("ab", 9, check)
	someStrings("abc", 6, check)
	for _, data := range someMatched() {
		check(data)
	}
}

func TestPromise6PlacesThatAreNone(t *testing.T) {
	for _, data := range []string{"", "a", "aaaa", strings.Repeat("ab", 100)} {
		long := int64(len(data))
		for _, at := range []int64{-1, -2, -1 << 63, long, long + 1, 1 << 32, 1<<32 + 1, 1<<63 - 1} {
			checkLongest(t, data, at, 0, 0)
		}
	}
	most := strings.Repeat("a", impl.MaxPack)
	checkLongest(t, most, 1, 1, 66)
	checkLongest(t, most, impl.MaxPack-1, 1, 1)
	checkLongest(t, most, impl.MaxPack, 0, 0)
	for _, at := range []int64{0, 1, 5, impl.MaxPack - 1, impl.MaxPack, impl.MaxPack + 1} {
		checkLongest(t, most+"a", at, 0, 0)
	}
}

func TestPromise6TokensOfFewBytes(t *testing.T) {
	a, b, c := byteToken('a'), byteToken('b'), byteToken('c')
	for _, x := range []struct {
		data string
		want []impl.Token
	}{
		{"", nil},
		{"\x00", []impl.Token{byteToken(0)}},
		{"\xff", []impl.Token{byteToken(255)}},
		{"aa", []impl.Token{a, a}},
		{"aaa", []impl.Token{a, a, a}},
		{"aaaa", []impl.Token{a, copyToken(1, 3)}},
		{"abab", []impl.Token{a, b, a, b}},
		{"ababa", []impl.Token{a, b, copyToken(2, 3)}},
		{"abcab", []impl.Token{a, b, c, a, b}},
		{"abcabc", []impl.Token{a, b, c, copyToken(3, 3)}},
		{"abcabcabcx", []impl.Token{a, b, c, copyToken(3, 6), byteToken('x')}},
		{strings.Repeat("a", 67), []impl.Token{a, copyToken(1, 66)}},
		{strings.Repeat("a", 69), []impl.Token{a, copyToken(1, 66), a, a}},
		{strings.Repeat("a", 70), []impl.Token{a, copyToken(1, 66), copyToken(1, 3)}},
	} {
		checkTokens(t, x.data, x.want)
		checkMade(t, x.want, x.data)
	}
}

func TestPromise6TokensMakeTheirData(t *testing.T) {
	check := func(data string) {
		list, ok := impl.Tokens(data)
		if want := tokensByRule(data); !ok || !slices.Equal(list, want) {
			t.Errorf("Tokens(%.60q): %.5v.., %v, not %.5v..", data, list, ok, want)
		}
		checkMade(t, list, data)
	}
	someStrings("ab", 11, check)
	someStrings("abc", 7, check)
	for _, data := range someMatched() {
		check(data)
	}
	check(strings.Repeat("a", impl.MaxPack))
	check(lettersOf(1, impl.MaxPack, "ab"))
	check(someBytes(1, impl.MaxPack))
}

func TestPromise6MoreBytesThanMayBe(t *testing.T) {
	for _, long := range []int{impl.MaxPack + 1, impl.MaxPack + 2, 2 * impl.MaxPack} {
		for _, data := range []string{strings.Repeat("a", long), someBytes(1, long)} {
			if list, ok := impl.Tokens(data); ok || len(list) != 0 {
				t.Errorf("Tokens of %d bytes: %d tokens, %v", long, len(list), ok)
			}
		}
	}
}

func TestPromise6CopiesGoOverIntoThemselves(t *testing.T) {
	abc := []impl.Token{byteToken('a'), byteToken('b'), byteToken('c')}
	for dist := int64(1); dist <= 3; dist++ {
		for long := int64(impl.MinCopy); long <= impl.MaxCopy; long++ {
			want := "abc" + strings.Repeat("abc"[3-dist:], 66)[:long]
			checkMade(t, append(slices.Clone(abc), copyToken(dist, long)), want)
		}
	}
}

func TestPromise6TokensThatMakeNothing(t *testing.T) {
	a := byteToken('a')
	for _, x := range []impl.Token{
		copyToken(2, 3), copyToken(0, 3), copyToken(-1, 3), copyToken(1, 2), copyToken(1, 67), {Byte: 256}, {Byte: -1}, {Byte: 1, Dist: 1}, {Byte: 1, Long: 3},
		{Kind: 1, Byte: 1, Dist: 1, Long: 3}, {Kind: 2}, {Kind: -1}, copyToken(1<<63-1, 3), copyToken(1, 1<<63-1),
	} {
		for _, behind := range [][]impl.Token{nil, {a}, {a, copyToken(1, 5), a}} {
			checkNothingMade(t, "a token that may not stand", append([]impl.Token{a, x}, behind...))
		}
	}
	checkNothingMade(t, "a copy of nothing", []impl.Token{copyToken(1, 3)})
	// What such a copy would read is made only behind it.
	checkNothingMade(t, "a copy that looks further back than there is", []impl.Token{a, copyToken(1, 3), copyToken(5, 3), a, a, a})
}

func TestPromise6TokensThatMakeTheMost(t *testing.T) {
	bytes := make([]impl.Token, impl.MaxPack)
	for i := range bytes {
		bytes[i] = byteToken(byte(i))
	}
	s, ok := impl.Untoken(bytes)
	if !ok || len(s) != impl.MaxPack || s[3999] != byte(3999%256) {
		t.Errorf("Untoken of MaxPack bytes: %d bytes, %v", len(s), ok)
	}
	checkNothingMade(t, "a token more", append(bytes, byteToken(0)))
	// 1 byte, 60 copies of 66 and one of 39 are just MaxPack.
	list := append([]impl.Token{byteToken('a')}, slices.Repeat([]impl.Token{copyToken(1, 66)}, 60)...)
	checkMade(t, append(slices.Clone(list), copyToken(1, 39)), strings.Repeat("a", impl.MaxPack))
	checkNothingMade(t, "a byte more", append(slices.Clone(list), copyToken(1, 40)))
	checkNothingMade(t, "a byte behind", append(slices.Clone(list), copyToken(1, 39), byteToken('a')))
	checkNothingMade(t, "many bytes more", append(slices.Clone(list), slices.Repeat([]impl.Token{copyToken(1, 66)}, 3000)...))
	far := append(slices.Clone(bytes[:3997]), copyToken(3997, 3))
	checkMade(t, far, s[:3997]+s[:3])
	checkNothingMade(t, "one further back than there is", append(slices.Clone(bytes[:3997]), copyToken(3998, 3)))
}

func TestPromise6TokensInTwoPieces(t *testing.T) {
	for _, data := range someMatched() {
		list, _ := impl.Tokens(data)
		made := 0
		for k := range list {
			checkMade(t, list[:k], data[:made])
			made += max(1, int(list[k].Long))
		}
	}
	texts := []string{"", "a", "abcabcabc", strings.Repeat("z", 100), lettersOf(1, 300, "ab")}
	for _, one := range texts {
		for _, two := range texts {
			a, _ := impl.Tokens(one)
			b, _ := impl.Tokens(two)
			checkMade(t, slices.Concat(a, b), one+two)
		}
	}
}

func TestPromise18TokensWriteIntoNoArgument(t *testing.T) {
	data := strings.Repeat("once more ", 30)
	list, _ := impl.Tokens(data)
	first := slices.Clone(list)
	text, _ := impl.Untoken(list[:8])
	clear(list[:cap(list)])
	again, _ := impl.Tokens(data)
	other, _ := impl.Untoken(again[:8])
	if !slices.Equal(again, first) || other != text || !strings.HasPrefix(data, text) {
		t.Error("what was written into an answer, or made of it, is in the next one")
	}
}
