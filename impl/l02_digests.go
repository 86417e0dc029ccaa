package impl

import (
	"math/bits"
	"strings"
)

const MaxRounds = 50

// How many bytes SHA-256 takes at a time; HMAC brings its keys to as many.
const sumBlock = 64

var roundWords = [64]uint32{
	0x428a2f98, 0x71374491, 0xb5c0fbcf, 0xe9b5dba5, 0x3956c25b, 0x59f111f1, 0x923f82a4, 0xab1c5ed5,
	0xd807aa98, 0x12835b01, 0x243185be, 0x550c7dc3, 0x72be5d74, 0x80deb1fe, 0x9bdc06a7, 0xc19bf174,
	0xe49b69c1, 0xefbe4786, 0x0fc19dc6, 0x240ca1cc, 0x2de92c6f, 0x4a7484aa, 0x5cb0a9dc, 0x76f988da,
	0x983e5152, 0xa831c66d, 0xb00327c8, 0xbf597fc7, 0xc6e00bf3, 0xd5a79147, 0x06ca6351, 0x14292967,
	0x27b70a85, 0x2e1b2138, 0x4d2c6dfc, 0x53380d13, 0x650a7354, 0x766a0abb, 0x81c2c92e, 0x92722c85,
	0xa2bfe8a1, 0xa81a664b, 0xc24b8b70, 0xc76c51a3, 0xd192e819, 0xd6990624, 0xf40e3585, 0x106aa070,
	0x19a4c116, 0x1e376c08, 0x2748774c, 0x34b0bcb5, 0x391c0cb3, 0x4ed8aa4a, 0x5b9cca4f, 0x682e6ff3,
	0x748f82ee, 0x78a5636f, 0x84c87814, 0x8cc70208, 0x90befffa, 0xa4506ceb, 0xbef9a3f7, 0xc67178f2,
}

func Sum(data string) string {
	state := [8]uint32{
		0x6a09e667, 0xbb67ae85, 0x3c6ef372, 0xa54ff53a, 0x510e527f, 0x9b05688c, 0x1f83d9ab, 0x5be0cd19,
	}
	// Only what does not fill a block is put together with the padding, so that long data is not copied.
	whole := len(data) - len(data)%sumBlock
	state = digestBlocks(state, data[:whole])
	state = digestBlocks(state, data[whole:]+padding(len(data)))
	var out strings.Builder
	for _, word := range state {
		out.WriteString(highFirst(uint64(word), 4))
	}
	return out.String()
}

func digestBlocks(state [8]uint32, data string) [8]uint32 {
	for at := 0; at < len(data); at += sumBlock {
		state = digestBlock(state, schedule(data[at:at+sumBlock]))
	}
	return state
}

func padding(long int) string {
	noughts := (2*sumBlock - 9 - long%sumBlock) % sumBlock
	return "\x80" + strings.Repeat("\x00", noughts) + highFirst(8*uint64(long), 8)
}

func schedule(block string) [64]uint32 {
	var words [64]uint32
	for i := range 16 {
		words[i] = wordAt(block, i)
	}
	for i := 16; i < len(words); i++ {
		x, y := words[i-15], words[i-2]
		s0 := turned(x, 7) ^ turned(x, 18) ^ x>>3
		s1 := turned(y, 17) ^ turned(y, 19) ^ y>>10
		words[i] = words[i-16] + s0 + words[i-7] + s1
	}
	return words
}

func wordAt(s string, place int) uint32 {
	word := uint32(0)
	for i := range 4 {
		word = word<<8 | uint32(s[4*place+i])
	}
	return word
}

func digestBlock(state [8]uint32, words [64]uint32) [8]uint32 {
	now := state
	for i, word := range words {
		a, b, c, e, f, g := now[0], now[1], now[2], now[4], now[5], now[6]
		s1 := turned(e, 6) ^ turned(e, 11) ^ turned(e, 25)
		t1 := now[7] + s1 + (e&f ^ ^e&g) + roundWords[i] + word
		s0 := turned(a, 2) ^ turned(a, 13) ^ turned(a, 22)
		t2 := s0 + (a&b ^ a&c ^ b&c)
		now = [8]uint32{t1 + t2, a, b, c, now[3] + t1, e, f, g}
	}
	for i := range now {
		now[i] += state[i]
	}
	return now
}

func turned(word uint32, right int) uint32 {
	return bits.RotateLeft32(word, -right)
}

func highFirst(n uint64, long int) string {
	out := make([]byte, long)
	for i := range out {
		out[long-1-i] = byte(n)
		n >>= 8
	}
	return string(out)
}

const hexDigits = "0123456789abcdef"

func Hex(s string) string {
	out := make([]byte, 0, 2*len(s))
	for i := range len(s) {
		out = append(out, hexDigits[s[i]>>4], hexDigits[s[i]&15])
	}
	return string(out)
}

func Unhex(s string) (string, bool) {
	if len(s)%2 != 0 {
		return "", false
	}
	out := make([]byte, len(s)/2)
	for i := range out {
		high := strings.IndexByte(hexDigits, s[2*i])
		low := strings.IndexByte(hexDigits, s[2*i+1])
		if high < 0 || low < 0 {
			return "", false
		}
		out[i] = byte(16*high + low)
	}
	return string(out), true
}

func Hmac(key string, data string) string {
	if len(key) > sumBlock {
		key = Sum(key)
	}
	inner := Sum(maskedKey(key, 0x36) + data)
	return Sum(maskedKey(key, 0x5c) + inner)
}

func maskedKey(key string, mask byte) string {
	var block [sumBlock]byte
	copy(block[:], key)
	for i := range block {
		block[i] ^= mask
	}
	return string(block[:])
}

func Stretch(password string, salt string, rounds int64) (string, bool) {
	if rounds < 1 || rounds > MaxRounds {
		return "", false
	}
	turn := Hmac(password, salt+"\x00\x00\x00\x01")
	all := []byte(turn)
	for range rounds - 1 {
		turn = Hmac(password, turn)
		for i := range all {
			all[i] ^= turn[i]
		}
	}
	return string(all), true
}
