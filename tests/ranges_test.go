package tests

import (
	"math/big"
	"slices"
	"strings"
	"testing"

	"loop.example/g00228/impl"
)

var wrongContexts = []int64{-1, -2, -1 << 63, impl.MaxContexts, impl.MaxContexts + 1, 1 << 32, 1<<63 - 1}

var wrongBits = []int64{-1, 2, 3, 256, 1 << 32, 1<<63 - 1, -1 << 63}

// odds are how likely 0 is held in each context, by the document's words.
func startOdds() []int64 {
	return slices.Repeat([]int64{1024}, impl.MaxContexts)
}

func movedOdds(prob int64, bit int64) int64 {
	if bit == 0 {
		return prob + (2048-prob)/32
	}
	return prob - prob/32
}

// ruleCoder keeps the whole low as one great number, whatever is carried in it.
type ruleCoder struct {
	low   *big.Int
	width int64
	steps int
	odds  []int64
}

func newRuleCoder() *ruleCoder {
	return &ruleCoder{new(big.Int), 1<<32 - 1, 0, startOdds()}
}

func (r *ruleCoder) put(c impl.Choice) {
	bound := r.width / 2048 * r.odds[c.Context]
	if c.Bit == 0 {
		r.width = bound
	} else {
		r.low.Add(r.low, big.NewInt(bound))
		r.width -= bound
	}
	r.odds[c.Context] = movedOdds(r.odds[c.Context], c.Bit)
	for r.width < 1<<24 {
		r.width *= 256
		r.low.Lsh(r.low, 8)
		r.steps++
	}
}

func codedByRule(list []impl.Choice) string {
	r := newRuleCoder()
	for _, c := range list {
		r.put(c)
	}
	return string(r.low.FillBytes(make([]byte, 5+r.steps)))
}

// bitsByRule keeps the whole code, however great it grows.
func bitsByRule(s string, contexts []int64) ([]int64, bool) {
	code, width := new(big.Int).SetBytes([]byte(s[1:5])), int64(1<<32-1)
	rest := s[5:]
	odds := startOdds()
	var list []int64
	for _, context := range contexts {
		bound := width / 2048 * odds[context]
		bit := int64(0)
		if code.Cmp(big.NewInt(bound)) < 0 {
			width = bound
		} else {
			bit = 1
			code.Sub(code, big.NewInt(bound))
			width -= bound
		}
		odds[context] = movedOdds(odds[context], bit)
		for width < 1<<24 {
			if rest == "" {
				return nil, false
			}
			width *= 256
			code.Add(code.Lsh(code, 8), big.NewInt(int64(rest[0])))
			rest = rest[1:]
		}
		list = append(list, bit)
	}
	return list, true
}

func contextsOf(list []impl.Choice) []int64 {
	contexts := make([]int64, len(list))
	for i, c := range list {
		contexts[i] = c.Context
	}
	return contexts
}

func bitsOf(list []impl.Choice) []int64 {
	bits := make([]int64, len(list))
	for i, c := range list {
		bits[i] = c.Bit
	}
	return bits
}

// someChoices has bits without a rule; of 256, so many are 1.
func someChoices(seed uint64, long int, contexts int64, ones byte) []impl.Choice {
	b := someBytes(seed, 2*long)
	list := make([]impl.Choice, long)
	for i := range list {
		list[i].Context = (int64(i)*7 + int64(b[2*i])) % contexts
		if b[2*i+1] < ones {
			list[i].Bit = 1
		}
	}
	return list
}

// manyChoices has lists of all kinds: bits that are likely and bits that are not, in a few contexts and in all.
func manyChoices() [][]impl.Choice {
	last := int64(impl.MaxContexts - 1)
	lists := [][]impl.Choice{
		nil,
		{{Context: 0, Bit: 0}}, {{Context: 0, Bit: 1}}, {{Context: last, Bit: 0}}, {{Context: last, Bit: 1}},
		{{Context: 0, Bit: 1}, {Context: last, Bit: 1}, {Context: 0, Bit: 0}, {Context: last, Bit: 0}},
		slices.Repeat([]impl.Choice{{Context: 3}}, 3000),
		slices.Repeat([]impl.Choice{{Context: 3, Bit: 1}}, 3000),
		slices.Repeat([]impl.Choice{{Context: 3}, {Context: 3, Bit: 1}}, 1000),
	}
	for seed := range uint64(4) {
		for _, contexts := range []int64{1, 2, 16, impl.MaxContexts} {
			for _, ones := range []byte{2, 30, 128, 226, 254} {
				lists = append(lists, someChoices(seed, 50+500*int(seed), contexts, ones))
			}
		}
	}
	// A bit that had become unlikely makes the width fall the most.
	unlikely := slices.Repeat([]impl.Choice{{Context: 9}}, 400)
	return append(lists, append(unlikely, slices.Repeat([]impl.Choice{{Context: 9, Bit: 1}}, 20)...))
}

func checkCoded(t *testing.T, list []impl.Choice) string {
	t.Helper()
	s, ok := impl.RangeEncode(list)
	if want := codedByRule(list); !ok || s != want {
		t.Errorf("RangeEncode of %d choices: %d bytes %.40x %v, not %d bytes %.40x", len(list), len(s), s, ok, len(want), want)
	}
	return s
}

func checkBits(t *testing.T, s string, contexts []int64, want []int64) {
	t.Helper()
	if bits, ok := impl.RangeDecode(s, contexts); !ok || !slices.Equal(bits, want) {
		t.Errorf("RangeDecode(%.40x) by %d contexts: %d bits, %v, and not as they were", s, len(contexts), len(bits), ok)
	}
}

func checkNoBits(t *testing.T, what string, s string, contexts []int64) {
	t.Helper()
	if bits, ok := impl.RangeDecode(s, contexts); ok || len(bits) != 0 {
		t.Errorf("%s: RangeDecode tells %d bits, %v", what, len(bits), ok)
	}
}

func TestPromise5NumbersMove(t *testing.T) {
	for _, c := range []struct{ prob, bit, want int64 }{
		{1024, 0, 1056}, {1024, 1, 992},
		{1, 0, 64}, {1, 1, 1}, {2047, 0, 2047}, {2047, 1, 1984},
		{31, 1, 31}, {32, 1, 31}, {33, 1, 32}, {63, 1, 62}, {64, 1, 62},
		{2016, 0, 2017}, {2017, 0, 2017}, {1984, 0, 1986}, {1985, 0, 1986},
	} {
		if n := impl.Moved(c.prob, c.bit); n != c.want {
			t.Errorf("Moved(%d, %d): %d, not %d", c.prob, c.bit, n, c.want)
		}
	}
}

func TestPromise5NumbersStayBetweenTheirBounds(t *testing.T) {
	for prob := int64(1); prob < impl.ProbOne; prob++ {
		for bit := range int64(2) {
			n := impl.Moved(prob, bit)
			if n != movedOdds(prob, bit) || n < 1 || n > 2047 || bit == 0 && n < prob || bit == 1 && n > prob {
				t.Errorf("Moved(%d, %d): %d", prob, bit, n)
			}
		}
	}
	for bit, want := range map[int64]int64{0: 2017, 1: 31} {
		prob := int64(impl.ProbStart)
		for range 1000 {
			prob = impl.Moved(prob, bit)
		}
		if prob != want {
			t.Errorf("behind 1000 bits of %d the number is %d, not %d", bit, prob, want)
		}
	}
}

func TestPromise5NumbersAndBitsThatAreNone(t *testing.T) {
	for _, prob := range []int64{0, -1, -1024, 2048, 2049, 1 << 32, 1<<32 + 1024, 1<<63 - 1, -1 << 63} {
		for bit := int64(-1); bit < 3; bit++ {
			if n := impl.Moved(prob, bit); n != -1 {
				t.Errorf("Moved(%d, %d): %d", prob, bit, n)
			}
		}
	}
	for _, bit := range wrongBits {
		for _, prob := range []int64{1, 5, 1024, 2047} {
			if n := impl.Moved(prob, bit); n != -1 {
				t.Errorf("Moved(%d, %d): %d", prob, bit, n)
			}
		}
	}
}

func TestPromise5FewChoices(t *testing.T) {
	for _, c := range []struct {
		list []impl.Choice
		want string
	}{
		{nil, "0000000000"},
		{[]impl.Choice{{Context: 0}}, "0000000000"},
		{[]impl.Choice{{Context: 0, Bit: 1}}, "007ffffc00"},
		{[]impl.Choice{{Context: 511, Bit: 1}}, "007ffffc00"},
		// The second bound is 2^20 times 992, for the context's number has moved; in another context it is 2^20 times 1024.
		{[]impl.Choice{{Context: 511, Bit: 1}, {Context: 511, Bit: 1}}, "00bdfffc00"},
		{[]impl.Choice{{Context: 511, Bit: 1}, {Context: 510, Bit: 1}}, "00bffffc00"},
		// Eight bits of 1 / 2 bring the width below 2^24.
		{[]impl.Choice{{Context: 0}, {Context: 1}, {Context: 2}, {Context: 3}, {Context: 4}, {Context: 5}, {Context: 6}, {Context: 7}}, "000000000000"},
	} {
		s := checkCoded(t, c.list)
		if impl.Hex(s) != c.want {
			t.Errorf("RangeEncode(%v): %x, not %s", c.list, s, c.want)
		}
		checkBits(t, s, contextsOf(c.list), bitsOf(c.list))
	}
}

func TestPromise5BitsComeBack(t *testing.T) {
	for _, list := range manyChoices() {
		s := checkCoded(t, list)
		contexts, bits := contextsOf(list), bitsOf(list)
		checkBits(t, s, contexts, bits)
		for _, behind := range []string{"\x00", "\xff", "\xff\xff\xff\xff\xff\xff", "behind"} {
			checkBits(t, s+behind, contexts, bits)
		}
		// Each byte of an answer is wanted by its last choice, at the latest.
		for _, cut := range []int{1, 2, 5, len(s) / 2, len(s)} {
			checkNoBits(t, "cut short", s[:max(0, len(s)-cut)], contexts)
		}
	}
}

func TestPromise5TheFirstFewBits(t *testing.T) {
	for _, list := range [][]impl.Choice{someChoices(1, 300, 3, 128), someChoices(2, 300, impl.MaxContexts, 20)} {
		s := checkCoded(t, list)
		for k := range list {
			checkBits(t, s, contextsOf(list[:k]), bitsOf(list[:k]))
			first, ok := impl.RangeEncode(list[:k])
			if !ok || len(first) > len(s) {
				t.Errorf("the first %d choices have %d bytes, all have %d", k, len(first), len(s))
			}
		}
	}
}

// straddling has choices between whose low and low and width edge stays: low's bytes are then those of edge, less a little.
func straddling(edge byte, long int) []impl.Choice {
	contexts := make([]int64, long)
	// A few contexts again and again: their numbers are soon such that no bound falls just on edge.
	for i := range contexts {
		contexts[i] = int64(i % 7)
	}
	bits, _ := bitsByRule("\x00"+string([]byte{edge})+strings.Repeat("\x00", long), contexts)
	list := make([]impl.Choice, long)
	for i := range list {
		list[i] = impl.Choice{Context: contexts[i], Bit: bits[i]}
	}
	return list
}

func TestPromise5WhatIsCarriedRunsOverManyBytes(t *testing.T) {
	for _, edge := range []byte{0x80, 0x40, 0xc3} {
		list := straddling(edge, 400)
		s := checkCoded(t, list)
		run := strings.Repeat("\xff", 30)
		if !strings.HasPrefix(s, "\x00"+string([]byte{edge - 1})+run) {
			t.Fatalf("nothing is there that could be carried on: %x", s)
		}
		for range 100 {
			list = append(list, impl.Choice{Context: 500, Bit: 1})
		}
		s = checkCoded(t, list)
		if !strings.HasPrefix(s, "\x00"+string([]byte{edge})+strings.Repeat("\x00", 30)) {
			t.Errorf("nothing was carried over many bytes: %x", s)
		}
		checkBits(t, s, contextsOf(list), bitsOf(list))
	}
}

// justAboveHalved has choices behind which width is just above 2^25, or none.
func justAboveHalved(list []impl.Choice) []impl.Choice {
	r := newRuleCoder()
	for i, c := range list {
		r.put(c)
		if r.width/2048 == 1<<14 {
			return list[:i+1]
		}
	}
	return nil
}

func TestPromise5AWidthThatIsJustGreatEnough(t *testing.T) {
	found := 0
	for seed := range uint64(20) {
		list := justAboveHalved(someChoices(seed, 20000, 16, 100))
		if list == nil {
			continue
		}
		found++
		// A new context halves it: width is 2^24 then, and nothing is times 256.
		list = slices.Concat(list, []impl.Choice{{Context: impl.MaxContexts - 1}, {Context: 3, Bit: 1}})
		for k := len(list) - 2; k <= len(list); k++ {
			checkBits(t, checkCoded(t, list[:k]), contextsOf(list[:k]), bitsOf(list[:k]))
		}
	}
	if found == 0 {
		t.Error("no width is just above 2^25")
	}
}

func TestPromise5ManyChoices(t *testing.T) {
	for _, ones := range []byte{0, 10, 128} {
		list := someChoices(3, impl.MaxChoices, impl.MaxContexts, ones)
		s := checkCoded(t, list)
		contexts := contextsOf(list)
		checkBits(t, s, contexts, bitsOf(list))
		for _, more := range [][]impl.Choice{slices.Concat(list, []impl.Choice{{}}), slices.Concat(list, list[:100])} {
			if s, ok := impl.RangeEncode(more); ok || s != "" {
				t.Errorf("RangeEncode of %d choices: %d bytes, %v", len(more), len(s), ok)
			}
			checkNoBits(t, "too many contexts", s+strings.Repeat("\x00", 1000), contextsOf(more))
		}
	}
}

func TestPromise5ChoicesThatAreNone(t *testing.T) {
	var wrong []impl.Choice
	for _, context := range wrongContexts {
		wrong = append(wrong, impl.Choice{Context: context}, impl.Choice{Context: context, Bit: 1})
	}
	for _, bit := range wrongBits {
		wrong = append(wrong, impl.Choice{Bit: bit}, impl.Choice{Context: impl.MaxContexts - 1, Bit: bit})
	}
	some := someChoices(1, 40, 5, 128)
	for _, c := range wrong {
		for _, at := range []int{0, 1, 39, 40} {
			list := slices.Insert(slices.Clone(some), at, c)
			if s, ok := impl.RangeEncode(list); ok || s != "" {
				t.Errorf("RangeEncode with %v at %d: %x %v", c, at, s, ok)
			}
		}
	}
}

func TestPromise5ContextsThatAreNone(t *testing.T) {
	some := someChoices(1, 40, 5, 128)
	s, _ := impl.RangeEncode(some)
	s += strings.Repeat("\x00", 10)
	for _, context := range wrongContexts {
		for _, at := range []int{0, 1, 39, 40} {
			checkNoBits(t, "a context that is none", s, slices.Insert(contextsOf(some), at, context))
		}
	}
}

func TestPromise5BytesThatSayNothing(t *testing.T) {
	list := []impl.Choice{{Context: 3, Bit: 1}}
	s, _ := impl.RangeEncode(list)
	for _, contexts := range [][]int64{nil, {}, {3}} {
		for short := range 5 {
			checkNoBits(t, "fewer than 5 bytes", s[:short], contexts)
			checkNoBits(t, "fewer than 5 bytes", strings.Repeat("\x00", short), contexts)
		}
		for first := 1; first < 256; first++ {
			checkNoBits(t, "a first byte that is not 0", string([]byte{byte(first)})+s[1:], contexts)
		}
	}
	checkBits(t, s, nil, nil)
	checkBits(t, "\x00\x00\x00\x00\x00", []int64{3}, []int64{0})
	checkBits(t, "\x00\xff\xff\xff\xff", nil, nil)
}

func TestPromise5ABitIsOneFromTheBoundOn(t *testing.T) {
	for s, bit := range map[string]int64{"007ffffbff": 0, "007ffffc00": 1, "007ffffc01": 1, "00fffffffe": 1, "00ffffffff": 1} {
		checkBits(t, unhexed(t, s), []int64{3}, []int64{bit})
	}
	eight := []int64{0, 1, 2, 3, 4, 5, 6, 7}
	// The byte that is times 256 behind the last bit is wanted, too.
	checkNoBits(t, "a byte that is wanted", "\x00\x00\x00\x00\x00", eight)
	checkBits(t, "\x00\x00\x00\x00\x00\x00", eight, make([]int64, 8))
	checkBits(t, "\x00\x00\x00\x00\x00", eight[:7], make([]int64, 7))
}

func TestPromise5BytesThatNoChoicesMake(t *testing.T) {
	contexts := contextsOf(someChoices(5, 3000, impl.MaxContexts, 0))
	texts := []string{
		"\x00" + strings.Repeat("\xff", 3000),
		"\x00\xff\xff\xff\xff" + strings.Repeat("\x00", 3000),
		"\x00\xff\xff\xff\xfe" + strings.Repeat("\xff", 3000),
		"\x00\xff\xff\xff\xff" + someBytes(3, 3000),
	}
	for seed := range uint64(40) {
		texts = append(texts, "\x00"+someBytes(seed, 3000), "\x00"+someBytes(seed, 50))
	}
	for _, s := range texts {
		for _, few := range []int{1, 10, 100, 1000, 3000} {
			want, fine := bitsByRule(s, contexts[:few])
			if fine {
				checkBits(t, s, contexts[:few], want)
			} else {
				checkNoBits(t, "too short", s, contexts[:few])
			}
		}
	}
	// A code that is not below the width grows without end, and all its bits are 1.
	checkBits(t, texts[0], contexts, slices.Repeat([]int64{1}, len(contexts)))
}

func TestPromise18CodingWritesIntoNoArgument(t *testing.T) {
	list := someChoices(4, 200, 20, 100)
	contexts := contextsOf(list)
	sameList, sameContexts := slices.Clone(list), slices.Clone(contexts)
	first, _ := impl.RangeEncode(list[:150])
	bits, _ := impl.RangeDecode(first, contexts[:150])
	again, _ := impl.RangeEncode(list[:150])
	other, _ := impl.RangeDecode(first, contexts[:150])
	if again != first || !slices.Equal(bits, other) {
		t.Error("the same arguments give other answers")
	}
	clear(bits[:cap(bits)])
	if !slices.Equal(list, sameList) || !slices.Equal(contexts, sameContexts) || !slices.Equal(other, bitsOf(list[:150])) {
		t.Error("an argument or another answer was written into")
	}
}
