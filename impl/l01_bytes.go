package impl

import "strings"

const MaxText = 100000

// Ten groups of seven bits are the fewest that hold 64 bits.
const maxGroups = 10

func PutNum(n uint64) string {
	var groups [maxGroups]byte
	last := 0
	for n > 0x7f {
		groups[last] = byte(n&0x7f) | 0x80
		n >>= 7
		last++
	}
	groups[last] = byte(n)
	return string(groups[:last+1])
}

func TakeNum(s string) (uint64, string, bool) {
	n, used := readNum(s)
	if used == 0 {
		return 0, "", false
	}
	// A copy, for an answer shares no memory with an argument.
	return n, strings.Clone(s[used:]), true
}

// readNum tells how many bytes the number takes up rather than what stands behind it, so that who reads on copies nothing; 0 bytes are no number.
func readNum(s string) (uint64, int) {
	n := uint64(0)
	for i := range min(len(s), maxGroups) {
		group := s[i]
		// Nine groups hold 63 bits: of the tenth only one bit is left.
		if i == maxGroups-1 && group > 1 {
			return 0, 0
		}
		n |= uint64(group&0x7f) << (7 * i)
		if group > 0x7f {
			continue
		}
		// A last group of noughts says nothing, unless it is the only one.
		if group == 0 && i > 0 {
			return 0, 0
		}
		return n, i + 1
	}
	return 0, 0
}

func PutText(s string) string {
	return PutNum(uint64(len(s))) + s
}

func TakeText(s string) (string, string, bool) {
	long, used := readNum(s)
	if used == 0 || long > MaxText {
		return "", "", false
	}
	end := used + int(long)
	if end > len(s) {
		return "", "", false
	}
	return strings.Clone(s[used:end]), strings.Clone(s[end:]), true
}

func Crc32(data string) uint32 {
	return registerBehind(uint32(0xedb88320), data)
}

func Crc64(data string) uint64 {
	return registerBehind(uint64(0xc96c5795d7870f42), data)
}

type register interface {
	uint32 | uint64
}

func registerBehind[R register](poly R, data string) R {
	table := eightMoves(poly)
	reg := ^R(0)
	for i := range len(data) {
		reg = reg>>8 ^ table[byte(reg)^data[i]]
	}
	return ^reg
}

// eightMoves is made anew by each call: 256 words are too many for a table at package level.
func eightMoves[R register](poly R) [256]R {
	var table [256]R
	for i := range table {
		reg := R(i)
		for range 8 {
			fell := reg & 1
			reg >>= 1
			if fell == 1 {
				reg ^= poly
			}
		}
		table[i] = reg
	}
	return table
}
