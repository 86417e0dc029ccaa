package tests

import (
	"math/big"
	"math/bits"
	"slices"
	"strings"
	"testing"

	"loop.example/g00228/impl"
)

// gearByRule keeps whole numbers, and takes of them what is below 2 to the 64.
func gearByRule(x int64) uint64 {
	below := new(big.Int).Lsh(big.NewInt(1), 64)
	times := func(n *big.Int, digits string) *big.Int {
		by, _ := new(big.Int).SetString(digits, 10)
		n.Mul(n, by)
		return n.Mod(n, below)
	}
	xored := func(n *big.Int, moved uint) *big.Int {
		return n.Xor(n, new(big.Int).Rsh(n, moved))
	}
	z := times(big.NewInt(x), "11400714819323198485")
	more, _ := new(big.Int).SetString("7046029254386353131", 10)
	z.Mod(z.Add(z, more), below)
	z = times(xored(z, 30), "13787848793156543929")
	z = times(xored(z, 27), "10723151780598845931")
	return xored(z, 31).Uint64()
}

func gearsByRule() [256]uint64 {
	var list [256]uint64
	for b := range list {
		list[b] = gearByRule(int64(b))
	}
	return list
}

// hashByRule adds up what each byte has become, behind it all others that were twice themselves.
func hashByRule(gears [256]uint64, chunk string) uint64 {
	hash := uint64(0)
	for i := range len(chunk) {
		hash += gears[chunk[i]] << (len(chunk) - 1 - i)
	}
	return hash
}

func cutsByRule(gears [256]uint64, data string, p impl.Shape) []int64 {
	var list []int64
	from := 0
	for end := 1; end <= len(data); end++ {
		long := int64(end - from)
		marked := long >= p.Least && int64(bits.LeadingZeros64(hashByRule(gears, data[from:end]))) >= p.Bits
		if marked || long == p.Most || end == len(data) {
			list = append(list, int64(end))
			from = end
		}
	}
	return list
}

func someShapes() []impl.Shape {
	return []impl.Shape{
		{Least: 1, Bits: 1, Most: 1}, {Least: 1, Bits: 1, Most: 2}, {Least: 1, Bits: 1, Most: 4000}, {Least: 1, Bits: 12, Most: 4000},
		{Least: 3, Bits: 2, Most: 6}, {Least: 4, Bits: 3, Most: 32}, {Least: 16, Bits: 5, Most: 100}, {Least: 7, Bits: 1, Most: 7}, {Least: 7, Bits: 12, Most: 8},
		{Least: 70, Bits: 6, Most: 500}, {Least: 1000, Bits: 1, Most: 1000}, {Least: 1000, Bits: 12, Most: 4000}, {Least: 999, Bits: 4, Most: 3999},
	}
}

func wrongShapes() []impl.Shape {
	return []impl.Shape{
		{}, {Least: 0, Bits: 1, Most: 1}, {Least: -1, Bits: 1, Most: 1}, {Least: 0, Bits: 1, Most: 0}, {Least: 1001, Bits: 1, Most: 4000}, {Least: 1001, Bits: 1, Most: 1001},
		{Least: 1, Bits: 0, Most: 1}, {Least: 1, Bits: -1, Most: 1}, {Least: 1, Bits: 13, Most: 1}, {Least: 1, Bits: 64, Most: 9}, {Least: 1, Bits: 65, Most: 9},
		{Least: 1, Bits: 1, Most: 0}, {Least: 1, Bits: 1, Most: -1}, {Least: 2, Bits: 1, Most: 1}, {Least: 1000, Bits: 12, Most: 999}, {Least: 1, Bits: 1, Most: 4001}, {Least: 1000, Bits: 12, Most: 4001},
		{Least: 1<<32 + 1, Bits: 1, Most: 1<<32 + 1}, {Least: 1, Bits: 1<<32 + 1, Most: 1}, {Least: 1, Bits: 1, Most: 1<<32 + 1},
		{Least: -1 << 63, Bits: 1, Most: 1}, {Least: 1, Bits: -1 << 63, Most: 1}, {Least: 1, Bits: 1, Most: -1 << 63},
		{Least: 1<<63 - 1, Bits: 1, Most: 1<<63 - 1}, {Least: 1, Bits: 1<<63 - 1, Most: 1}, {Least: 1, Bits: 1, Most: 1<<63 - 1},
	}
}

func someToCut() []string {
	list := []string{"", "a", "ab", "\x00", "\x01", "\x01\x01", "\xff\xff\xff", strings.Repeat("\x01", 50), strings.Repeat("a", 1500), "the quick brown fox jumps over the lazy dog", strings.Repeat("incremental ", 40)}
	for seed := range uint64(3) {
		list = append(list, someBytes(seed, 100), someBytes(seed, 999), someBytes(seed, 1001), someBytes(seed, 2500), lettersOf(seed, 700, "ab\x01"))
	}
	return append(list, someBytes(9, impl.MaxPack-1), someBytes(9, impl.MaxPack))
}

func checkCuts(t *testing.T, data string, p impl.Shape, want ...int64) {
	t.Helper()
	if list, ok := impl.Cuts(data, p); !ok || !slices.Equal(list, want) {
		t.Errorf("Cuts of %d bytes (%.30q) by %v: %v %v, not %v", len(data), data, p, list, ok, want)
	}
	from := 0
	var between []string
	for _, cut := range want {
		between = append(between, data[from:cut])
		from = int(cut)
	}
	if list, ok := impl.Chunks(data, p); !ok || !slices.Equal(list, between) {
		t.Errorf("Chunks of %d bytes (%.30q) by %v: %.40q %v, not %.40q", len(data), data, p, list, ok, between)
	}
}

func checkNoCuts(t *testing.T, data string, p impl.Shape) {
	t.Helper()
	if list, ok := impl.Cuts(data, p); ok || len(list) != 0 {
		t.Errorf("Cuts of %d bytes by %v: %v %v", len(data), p, list, ok)
	}
	if list, ok := impl.Chunks(data, p); ok || len(list) != 0 {
		t.Errorf("Chunks of %d bytes by %v: %d, %v", len(data), p, len(list), ok)
	}
}

func TestPromise8ShapesThatAreRight(t *testing.T) {
	for _, p := range someShapes() {
		if !impl.ShapeOk(p) {
			t.Errorf("%v is not right", p)
		}
	}
	for least := int64(1); least <= 1000; least++ {
		for bits := int64(1); bits <= 12; bits++ {
			for _, most := range []int64{least, least + 1, 3999, 4000} {
				if !impl.ShapeOk(impl.Shape{Least: least, Bits: bits, Most: most}) {
					t.Errorf("the shape %d, %d, %d is not right", least, bits, most)
				}
			}
		}
	}
}

func TestPromise8ShapesThatAreNotRight(t *testing.T) {
	for _, p := range wrongShapes() {
		if impl.ShapeOk(p) {
			t.Errorf("%v is right", p)
		}
		for _, data := range []string{"", "a", "abcdef", strings.Repeat("a", impl.MaxPack)} {
			checkNoCuts(t, data, p)
		}
	}
}

func TestPromise8GearsThatAreKnown(t *testing.T) {
	// From 2 on they are what SplitMix64 tells from the seed 0 on.
	for x, want := range map[int64]uint64{1: 0, 2: 0xe220a8397b1dcdaf, 3: 0x6e789e6aa1b965f4, 4: 0x06c45d188009454f} {
		if n := impl.Gear(x); n != want {
			t.Errorf("Gear(%d): %x, not %x", x, n, want)
		}
	}
}

func TestPromise8GearsAsTheDocumentSays(t *testing.T) {
	list := []int64{-1, -2, -255, -256, -1 << 31, -1 << 32, -1 << 63, -1<<63 + 1, 1<<63 - 1, 1<<63 - 2, 1 << 32, 1<<32 - 1, 1 << 62}
	for x := range int64(300) {
		list = append(list, x)
	}
	seen := map[uint64]int64{}
	for _, x := range list {
		n := impl.Gear(x)
		if want := gearByRule(x); n != want {
			t.Errorf("Gear(%d): %x, not %x", x, n, want)
		}
		if y, is := seen[n]; is {
			t.Errorf("Gear(%d) and Gear(%d) are alike", x, y)
		}
		seen[n] = x
	}
}

func TestPromise8CutsOfAByteWithoutAHash(t *testing.T) {
	// Gear(1) is 0: so each chunk of such bytes has just Least of them, whatever Bits are.
	ones := func(long int) string { return strings.Repeat("\x01", long) }
	for _, bits := range []int64{1, 12} {
		p := impl.Shape{Least: 4, Bits: bits, Most: 9}
		checkCuts(t, "", p)
		checkCuts(t, ones(1), p, 1)
		checkCuts(t, ones(3), p, 3)
		checkCuts(t, ones(4), p, 4)
		checkCuts(t, ones(5), p, 4, 5)
		checkCuts(t, ones(8), p, 4, 8)
		checkCuts(t, ones(9), p, 4, 8, 9)
		checkCuts(t, ones(5), impl.Shape{Least: 1, Bits: bits, Most: 4000}, 1, 2, 3, 4, 5)
		checkCuts(t, ones(2001), impl.Shape{Least: 1000, Bits: bits, Most: 1000}, 1000, 2000, 2001)
		checkCuts(t, ones(4000), impl.Shape{Least: 1000, Bits: bits, Most: 4000}, 1000, 2000, 3000, 4000)
	}
}

// neverMarked has a hash that is not all 0 in its highest bits from the 64th byte of each chunk on.
func neverMarked(t *testing.T, bits int64) string {
	t.Helper()
	gears := gearsByRule()
	for b := range 256 {
		data := strings.Repeat(string([]byte{byte(b)}), impl.MaxPack)
		// Behind 64 like bytes the hash stays as it is.
		if cuts := cutsByRule(gears, data[:65], impl.Shape{Least: 64, Bits: bits, Most: impl.MaxPack}); len(cuts) == 1 {
			return data
		}
	}
	t.Fatal("each byte marks a place")
	return ""
}

func TestPromise8CutsOfBytesThatMarkNothing(t *testing.T) {
	for _, bits := range []int64{1, 6, 12} {
		s := neverMarked(t, bits)
		p := impl.Shape{Least: 64, Bits: bits, Most: 70}
		checkCuts(t, s[:63], p, 63)
		checkCuts(t, s[:64], p, 64)
		checkCuts(t, s[:65], p, 65)
		checkCuts(t, s[:69], p, 69)
		checkCuts(t, s[:70], p, 70)
		checkCuts(t, s[:71], p, 70, 71)
		checkCuts(t, s[:140], p, 70, 140)
		checkCuts(t, s[:143], p, 70, 140, 143)
		alike := impl.Shape{Least: 64, Bits: bits, Most: 64}
		checkCuts(t, s[:63], alike, 63)
		checkCuts(t, s[:64], alike, 64)
		checkCuts(t, s[:65], alike, 64, 65)
		checkCuts(t, s[:192], alike, 64, 128, 192)
		checkCuts(t, s, impl.Shape{Least: 64, Bits: bits, Most: 4000}, 4000)
		checkCuts(t, s, impl.Shape{Least: 1000, Bits: bits, Most: 3999}, 3999, 4000)
		checkCuts(t, s[:3], impl.Shape{Least: 1, Bits: bits, Most: 1}, 1, 2, 3)
	}
}

func TestPromise8CutsAsTheDocumentSays(t *testing.T) {
	gears := gearsByRule()
	for _, p := range someShapes() {
		for _, data := range someToCut() {
			checkCuts(t, data, p, cutsByRule(gears, data, p)...)
		}
		for _, bound := range []int64{p.Least, p.Most} {
			for long := max(0, bound-1); long <= min(bound+1, impl.MaxPack); long++ {
				for seed := range uint64(4) {
					data := someBytes(seed, int(long))
					checkCuts(t, data, p, cutsByRule(gears, data, p)...)
				}
			}
		}
	}
}

func TestPromise8MarksOfAnyNumberOfBits(t *testing.T) {
	gears := gearsByRule()
	for bits := int64(1); bits <= 12; bits++ {
		p := impl.Shape{Least: 2, Bits: bits, Most: 4000}
		marks := 0
		for seed := range uint64(12) {
			data := someBytes(seed, impl.MaxPack)
			want := cutsByRule(gears, data, p)
			checkCuts(t, data, p, want...)
			marks += len(want) - 1
		}
		// Else nothing has been seen of the marks.
		if marks < 1 {
			t.Errorf("no place is marked by %d bits", bits)
		}
	}
}

func TestPromise8ACutJustAtTheEnd(t *testing.T) {
	p := impl.Shape{Least: 3, Bits: 2, Most: 4000}
	data := someBytes(8, 300)
	cuts, _ := impl.Cuts(data, p)
	if len(cuts) < 5 {
		t.Fatalf("there are too few cuts: %v", cuts)
	}
	for i, end := range cuts {
		checkCuts(t, data[:end], p, cuts[:i+1]...)
		checkCuts(t, data[:end-1], p, append(slices.Clone(cuts[:i]), end-1)...)
	}
}

func TestPromise8ChunksAreTheDataWithinTheirBounds(t *testing.T) {
	for _, p := range someShapes() {
		for _, data := range someToCut() {
			list, ok := impl.Chunks(data, p)
			if !ok || strings.Join(list, "") != data {
				t.Errorf("Chunks of %d bytes by %v are not the data: %v", len(data), p, ok)
			}
			for i, chunk := range list {
				long := int64(len(chunk))
				if long < 1 || long > p.Most || long < p.Least && i < len(list)-1 {
					t.Errorf("chunk %d of %d by %v has %d bytes", i, len(list), p, long)
				}
			}
		}
	}
}

func TestPromise8BehindACutAreTheChunksOfWhatStandsBehindIt(t *testing.T) {
	for _, p := range someShapes() {
		for _, data := range someToCut() {
			list, _ := impl.Chunks(data, p)
			at := 0
			for i := 0; i < len(list); i += 1 + len(list)/50 {
				at = len(strings.Join(list[:i], ""))
				if rest, ok := impl.Chunks(data[at:], p); !ok || !slices.Equal(rest, list[i:]) {
					t.Errorf("behind the cut at %d of %d bytes by %v are other chunks", at, len(data), p)
				}
			}
			if len(data) < 2500 {
				checkBehindOtherData(t, data, p)
			}
		}
	}
}

// checkBehindOtherData puts chunks ahead that end in a cut of their own.
func checkBehindOtherData(t *testing.T, data string, p impl.Shape) {
	t.Helper()
	ahead := strings.Repeat("\x01", int(p.Least))
	both, ok := impl.Chunks(ahead+data, p)
	list, _ := impl.Chunks(data, p)
	if !ok || !slices.Equal(both, slices.Concat([]string{ahead}, list)) {
		t.Errorf("%d bytes behind a chunk of Least by %v are cut otherwise", len(data), p)
	}
}

func TestPromise8MoreBytesThanMayBe(t *testing.T) {
	for _, p := range someShapes() {
		for _, long := range []int{impl.MaxPack + 1, impl.MaxPack + 2, 2 * impl.MaxPack, 100000} {
			checkNoCuts(t, strings.Repeat("\x01", long), p)
			checkNoCuts(t, someBytes(1, long), p)
		}
	}
}

func TestPromise18ChunksAreNewMemory(t *testing.T) {
	data := someBytes(3, 500)
	for _, p := range someShapes() {
		list, _ := impl.Chunks(data, p)
		again, _ := impl.Chunks(data, p)
		cuts, _ := impl.Cuts(data, p)
		same := slices.Clone(cuts)
		clear(cuts[:cap(cuts)])
		other, _ := impl.Cuts(data, p)
		if !slices.Equal(list, again) || !slices.Equal(other, same) {
			t.Error("the same arguments give other answers")
		}
		for i, chunk := range list {
			if sharesMemory(chunk, data) || sharesMemory(data, chunk) || sharesMemory(chunk, again[i]) {
				t.Errorf("chunk %d by %v is not new memory", i, p)
			}
		}
	}
}
