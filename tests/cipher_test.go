package tests

import (
	"crypto/aes"
	"crypto/cipher"
	"encoding/hex"
	"math/bits"
	"slices"
	"strings"
	"testing"

	"loop.example/g00228/impl"
)

// someBytes has no rule that a cipher could miss; each seed has its own.
func someBytes(seed uint64, long int) string {
	b := make([]byte, long)
	x := seed*2654435761 + 12345
	for i := range b {
		x = x*6364136223846793005 + 1442695040888963407
		b[i] = byte(x >> 56)
	}
	return string(b)
}

func someKeys() []string {
	list := []string{strings.Repeat("\x00", 32), strings.Repeat("\x01", 32), strings.Repeat("\xff", 32)}
	for seed := range uint64(5) {
		list = append(list, someBytes(seed, 32))
	}
	return list
}

// wrongKeys have a size that is none, most of them close to one.
func wrongKeys() []string {
	var list []string
	for _, long := range []int{0, 1, 16, 24, 31, 33, 48, 64, 256 + 32} {
		list = append(list, someBytes(7, long))
	}
	return list
}

// productOf is the product by the document's words: all of it first, then what is left of it.
func productOf(a uint32, b uint32) uint32 {
	product := uint32(0)
	for i := range 8 {
		if b>>i&1 == 1 {
			product ^= a << i
		}
	}
	for i := 14; i >= 8; i-- {
		if product>>i&1 == 1 {
			product ^= 0x11b << (i - 8)
		}
	}
	return product
}

func TestPromise3ProductsAreThoseOfTheDocument(t *testing.T) {
	for _, c := range []struct{ a, b, want uint32 }{
		{0x57, 0x83, 0xc1}, {0x57, 0x13, 0xfe}, {0x57, 0x02, 0xae}, {0x80, 0x02, 0x1b}, {0x53, 0xca, 1}, {0, 0xff, 0}, {1, 0xff, 0xff},
	} {
		if x := impl.Times(c.a, c.b); x != c.want {
			t.Errorf("Times(%x, %x): %x, not %x", c.a, c.b, x, c.want)
		}
	}
	for a := range uint32(256) {
		for b := range uint32(256) {
			if x, want := impl.Times(a, b), productOf(a, b); x != want {
				t.Fatalf("Times(%x, %x): %x, not %x", a, b, x, want)
			}
		}
	}
}

func TestPromise3ProductsAreThoseOfAField(t *testing.T) {
	for a := range uint32(256) {
		ones := 0
		for b := range uint32(256) {
			x := impl.Times(a, b)
			if x == 1 {
				ones++
			}
			if x != impl.Times(b, a) || (x == 0) != (a == 0 || b == 0) {
				t.Fatalf("Times(%x, %x): %x", a, b, x)
			}
			for _, c := range []uint32{0, 1, 2, 3, 0x1b, 0x80, 0xca, 0xff} {
				if impl.Times(x, c) != impl.Times(a, impl.Times(b, c)) || impl.Times(a, b^c) != x^impl.Times(a, c) {
					t.Fatalf("%x, %x, %x are not as in a field", a, b, c)
				}
			}
		}
		if impl.Times(a, 1) != a || (ones == 1) != (a != 0) {
			t.Errorf("%x times 1 is %x; it has %d inverses", a, impl.Times(a, 1), ones)
		}
	}
}

// What lies above a byte; it is to change nothing.
var above = []uint32{0x100, 0x200, 0x8000, 0x10000, 0x1000000, 0x80000000, 0xffffff00}

func TestPromise3NumbersOfMoreThanAByte(t *testing.T) {
	for x := range uint32(256) {
		for _, more := range above {
			want := impl.Times(x, 0x83)
			if impl.Times(x|more, 0x83) != want || impl.Times(0x83, x|more) != want || impl.Times(x|more, 0x83|more) != want {
				t.Errorf("Times of %x and 83, with %x above", x, more)
			}
			if impl.Sub(x|more) != impl.Sub(x) {
				t.Errorf("Sub(%x) is not Sub(%x)", x|more, x)
			}
		}
	}
}

// substituteByRule is the standard's: the inverse, sought among all, then each bit summed with four others.
func substituteByRule(x uint32) uint32 {
	inverse := uint32(0)
	for y := range uint32(256) {
		if productOf(x, y) == 1 {
			inverse = y
		}
	}
	out := uint32(0)
	for i := range 8 {
		bit := uint32(0x63) >> i
		for _, turn := range []int{0, 4, 5, 6, 7} {
			bit ^= inverse >> ((i + turn) % 8)
		}
		out |= bit & 1 << i
	}
	return out
}

func TestPromise3NoTwoBytesAreTurnedIntoOne(t *testing.T) {
	for _, c := range [][2]uint32{{0, 0x63}, {1, 0x7c}, {2, 0x77}, {0x53, 0xed}, {0x80, 0xcd}, {0xff, 0x16}} {
		if x := impl.Sub(c[0]); x != c[1] {
			t.Errorf("Sub(%x): %x, not %x", c[0], x, c[1])
		}
	}
	seen := map[uint32]uint32{}
	for x := range uint32(256) {
		y := impl.Sub(x)
		if other, ok := seen[y]; ok || y > 255 {
			t.Errorf("Sub(%x): %x, as of %x", x, y, other)
		}
		seen[y] = x
		if want := substituteByRule(x); y != want {
			t.Errorf("Sub(%x): %x, not %x", x, y, want)
		}
	}
}

func unhexed(t *testing.T, s string) string {
	t.Helper()
	b, err := hex.DecodeString(s)
	if err != nil {
		t.Fatal(err)
	}
	return string(b)
}

func TestPromise3WordsOfTheStandard(t *testing.T) {
	w, ok := impl.Expand(unhexed(t, "603deb1015ca71be2b73aef0857d77811f352c073b6108d72d9810a30914dff4"))
	if !ok || len(w) != 60 {
		t.Fatalf("%d words, %v", len(w), ok)
	}
	for i, want := range map[int]uint32{0: 0x603deb10, 7: 0x0914dff4, 8: 0x9ba35411, 9: 0x8e6925af, 12: 0xa8b09c1a, 13: 0x93d194cd, 16: 0xd59aecb8, 56: 0xfe4890d1, 57: 0xe6188d0b, 58: 0x046df344, 59: 0x706c631e} {
		if w[i] != want {
			t.Errorf("word %d is %x, not %x", i, w[i], want)
		}
	}
}

func substitutedWord(word uint32) uint32 {
	return impl.Sub(word>>24)<<24 | impl.Sub(word>>16)<<16 | impl.Sub(word>>8)<<8 | impl.Sub(word)
}

func TestPromise3EachWordComesOfThoseAhead(t *testing.T) {
	for _, key := range someKeys() {
		w, ok := impl.Expand(key)
		if !ok || len(w) != 60 {
			t.Fatalf("%d words, %v", len(w), ok)
		}
		constant := uint32(1)
		for i, word := range w {
			want := uint32(0)
			switch {
			case i < 8:
				want = uint32(key[4*i])<<24 | uint32(key[4*i+1])<<16 | uint32(key[4*i+2])<<8 | uint32(key[4*i+3])
			case i%8 == 0:
				want = w[i-8] ^ substitutedWord(bits.RotateLeft32(w[i-1], 8)) ^ constant<<24
				constant = productOf(constant, 2)
			case i%8 == 4:
				want = w[i-8] ^ substitutedWord(w[i-1])
			default:
				want = w[i-8] ^ w[i-1]
			}
			if word != want {
				t.Errorf("word %d of %x is %x, not %x", i, key, word, want)
			}
		}
	}
}

func TestPromise3KeysThatAreNone(t *testing.T) {
	block, nonce := someBytes(1, 16), someBytes(2, 12)
	for _, key := range wrongKeys() {
		if w, ok := impl.Expand(key); ok || len(w) != 0 {
			t.Errorf("Expand of a key of %d bytes: %d words, %v", len(key), len(w), ok)
		}
		if s, ok := impl.Encrypt(key, block); ok || s != "" {
			t.Errorf("Encrypt with a key of %d bytes: %x %v", len(key), s, ok)
		}
		for _, data := range []string{"", "data"} {
			if s, ok := impl.Count(key, nonce, data); ok || s != "" {
				t.Errorf("Count with a key of %d bytes: %x %v", len(key), s, ok)
			}
		}
	}
}

func TestExpandedIsNewMemory(t *testing.T) {
	key := someBytes(1, 32)
	a, _ := impl.Expand(key)
	want := slices.Clone(a)
	clear(a[:cap(a)])
	b, _ := impl.Expand(key)
	if !slices.Equal(b, want) {
		t.Error("what was written into an answer is in the next one")
	}
}

func standardCipher(t *testing.T, key string) cipher.Block {
	t.Helper()
	c, err := aes.NewCipher([]byte(key))
	if err != nil {
		t.Fatal(err)
	}
	return c
}

func TestPromise3BlocksOfTheStandard(t *testing.T) {
	key := unhexed(t, "000102030405060708090a0b0c0d0e0f101112131415161718191a1b1c1d1e1f")
	s, ok := impl.Encrypt(key, unhexed(t, "00112233445566778899aabbccddeeff"))
	if !ok || hex.EncodeToString([]byte(s)) != "8ea2b7ca516745bfeafc49904b496089" {
		t.Errorf("the block of FIPS 197: %x %v", s, ok)
	}
	for _, key := range someKeys() {
		c := standardCipher(t, key)
		for seed := range uint64(20) {
			block := someBytes(100+seed, 16)
			want := make([]byte, 16)
			c.Encrypt(want, []byte(block))
			if s, ok := impl.Encrypt(key, block); !ok || s != string(want) {
				t.Errorf("Encrypt of %x by %x: %x %v, not %x", block, key, s, ok, want)
			}
		}
	}
}

func TestPromise3NoTwoBlocksAreMadeOne(t *testing.T) {
	for _, key := range someKeys() {
		c := standardCipher(t, key)
		blocks := []string{strings.Repeat("\x00", 16), strings.Repeat("\xff", 16)}
		for _, block := range []string{blocks[0], someBytes(3, 16)} {
			turnings(block, func(other string) { blocks = append(blocks, other) })
		}
		seen := map[string]string{}
		for _, block := range blocks {
			s, ok := impl.Encrypt(key, block)
			if other, twice := seen[s]; twice || !ok || len(s) != 16 {
				t.Fatalf("%x is made of %x and of %x", s, block, other)
			}
			seen[s] = block
			back := make([]byte, 16)
			c.Decrypt(back, []byte(s))
			if string(back) != block {
				t.Errorf("%x is not made of %x", s, block)
			}
		}
	}
}

func TestPromise3BlocksThatAreNone(t *testing.T) {
	key := someBytes(1, 32)
	for _, long := range []int{0, 1, 15, 17, 31, 32, 256 + 16} {
		if s, ok := impl.Encrypt(key, someBytes(2, long)); ok || s != "" {
			t.Errorf("Encrypt of a block of %d bytes: %x %v", long, s, ok)
		}
	}
}

// standardCount counts in all 16 bytes; below 2 to the 32 blocks that is the same.
func standardCount(t *testing.T, key string, nonce string, data string) string {
	t.Helper()
	out := []byte(data)
	cipher.NewCTR(standardCipher(t, key), []byte(nonce+"\x00\x00\x00\x00")).XORKeyStream(out, out)
	return string(out)
}

// Around a block, around the blocks 255 and 256, where the count passes a byte, and around the limit.
var countedLengths = []int{0, 1, 15, 16, 17, 31, 32, 33, 4080, 4095, 4096, 4097, 4112, 4113, impl.MaxSealed - 1, impl.MaxSealed}

func someNonces() []string {
	return []string{strings.Repeat("\x00", 12), strings.Repeat("\xff", 12), someBytes(9, 12)}
}

func TestPromise3CountOfTheStandard(t *testing.T) {
	data := someBytes(4, impl.MaxSealed)
	for _, key := range someKeys()[2:5] {
		for _, nonce := range someNonces() {
			for _, long := range countedLengths {
				s, ok := impl.Count(key, nonce, data[:long])
				if !ok || s != standardCount(t, key, nonce, data[:long]) {
					t.Errorf("Count of %d bytes by %x with %x is another one (%v)", long, key, nonce, ok)
				}
			}
		}
	}
}

func TestPromise3TheCountIsInFourBytes(t *testing.T) {
	key, nonce := someBytes(1, 32), someBytes(2, 12)
	mask, ok := impl.Count(key, nonce, strings.Repeat("\x00", impl.MaxSealed))
	if !ok || len(mask) != impl.MaxSealed {
		t.Fatalf("Count: %d bytes, %v", len(mask), ok)
	}
	for _, n := range []int{0, 1, 2, 254, 255, 256, 257, 511, 512, 3748, 3749} {
		block := nonce + string([]byte{0, 0, byte(n >> 8), byte(n)})
		if s, ok := impl.Encrypt(key, block); !ok || mask[16*n:16*n+16] != s {
			t.Errorf("block %d is masked with %x, not %x", n, mask[16*n:16*n+16], s)
		}
	}
}

func TestPromise3MaskedTwiceIsAsItWas(t *testing.T) {
	data := someBytes(5, impl.MaxSealed)
	for i, long := range countedLengths {
		key, nonce := someBytes(uint64(i), 32), someBytes(uint64(50+i), 12)
		s, ok := impl.Count(key, nonce, data[:long])
		back, again := impl.Count(key, nonce, s)
		if !ok || !again || back != data[:long] {
			t.Errorf("%d bytes are not as they were (%v, %v)", long, ok, again)
		}
		if long > 15 && s == data[:long] {
			t.Errorf("%d bytes are not masked", long)
		}
	}
}

func TestPromise3ABeginningIsAsWithinTheWhole(t *testing.T) {
	key, nonce := someBytes(1, 32), someBytes(2, 12)
	data := someBytes(6, 4200)
	whole, _ := impl.Count(key, nonce, data)
	for long := range data {
		if long > 70 && long%37 != 0 && long < 4090 {
			continue
		}
		if s, ok := impl.Count(key, nonce, data[:long]); !ok || s != whole[:long] {
			t.Errorf("the first %d bytes are other ones", long)
		}
	}
}

func TestPromise3CountsThatAreNone(t *testing.T) {
	key, nonce := someBytes(1, 32), someBytes(2, 12)
	for _, long := range []int{0, 1, 8, 11, 13, 16, 256 + 12} {
		for _, data := range []string{"", "data"} {
			if s, ok := impl.Count(key, someBytes(3, long), data); ok || s != "" {
				t.Errorf("Count with a nonce of %d bytes: %x %v", long, s, ok)
			}
		}
	}
	for _, long := range []int{impl.MaxSealed + 1, impl.MaxSealed + 2, 1 << 16, 1<<16 + 1, 2 * impl.MaxSealed} {
		if s, ok := impl.Count(key, nonce, someBytes(3, long)); ok || s != "" {
			t.Errorf("Count of %d bytes: %d bytes, %v", long, len(s), ok)
		}
	}
}
