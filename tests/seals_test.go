package tests

import (
	"strings"
	"testing"

	"loop.example/g00228/impl"
)

// sealedNumbers are those that a seal may have: the edges, and those around a byte more.
var sealedNumbers = []int64{0, 1, 127, 128, 255, 256, 65535, 65536, 1<<32 - 1, 1 << 32, 1<<32 + 1, impl.MaxNumber - 1, impl.MaxNumber}

var wrongNumbers = []int64{-1, -2, -256, impl.MaxNumber + 1, impl.MaxNumber + 2, 1 << 48, 1<<63 - 1, -1 << 63}

func bytesOf(n int64, long int) string {
	out := make([]byte, long)
	for i := range out {
		out[long-1-i] = byte(n)
		n >>= 8
	}
	return string(out)
}

// standardSeal is made by Go's own library; it seals what Seal refuses, too.
func standardSeal(t *testing.T, master string, number int64, data string) string {
	t.Helper()
	nonce := strings.Repeat("\x00", 4) + bytesOf(number, 8)
	body := standardCount(t, standardHmac(master, "cipher"), nonce, data)
	return body + standardHmac(standardHmac(master, "tag"), bytesOf(number, 8)+body)
}

func checkNothingOpened(t *testing.T, what string, master string, number int64, s string) {
	t.Helper()
	if data, ok := impl.Open(master, number, s); ok || data != "" {
		t.Errorf("%s: Open tells %d bytes, %v", what, len(data), ok)
	}
}

func TestPromise4KeysOfAMaster(t *testing.T) {
	for _, master := range someKeys() {
		a, b, ok := impl.Keys(master)
		if !ok || a != standardHmac(master, "cipher") || b != standardHmac(master, "tag") {
			t.Errorf("Keys(%x): %x %x %v", master, a, b, ok)
		}
	}
}

func TestPromise4MastersThatAreNone(t *testing.T) {
	for _, master := range wrongKeys() {
		if a, b, ok := impl.Keys(master); ok || a != "" || b != "" {
			t.Errorf("Keys of %d bytes: %x %x %v", len(master), a, b, ok)
		}
		if s, ok := impl.Seal(master, 1, "data"); ok || s != "" {
			t.Errorf("Seal with a master of %d bytes: %x %v", len(master), s, ok)
		}
		checkNothingOpened(t, "a master of another size", master, 1, standardSeal(t, master, 1, "data"))
	}
}

func TestPromise4SealsComeBack(t *testing.T) {
	for _, master := range someKeys() {
		for _, number := range sealedNumbers {
			for _, data := range []string{"", "\x00", "\xff", "hello", someBytes(1, 15), someBytes(2, 16), someBytes(3, 17), someBytes(4, 100)} {
				s, ok := impl.Seal(master, number, data)
				if !ok || len(s) != len(data)+impl.TagSize || s != standardSeal(t, master, number, data) {
					t.Errorf("Seal(%x, %d, %x): %x %v", master, number, data, s, ok)
				}
				if back, ok := impl.Open(master, number, s); !ok || back != data {
					t.Errorf("Open(%x, %d, %x): %x %v, not %x", master, number, s, back, ok, data)
				}
			}
		}
	}
}

func TestPromise4LongDataComesBack(t *testing.T) {
	master := someBytes(1, 32)
	all := someBytes(2, impl.MaxSealed)
	for _, long := range countedLengths {
		s, ok := impl.Seal(master, 258, all[:long])
		if !ok || s != standardSeal(t, master, 258, all[:long]) {
			t.Errorf("Seal of %d bytes is another one (%v)", long, ok)
		}
		if back, ok := impl.Open(master, 258, s); !ok || back != all[:long] {
			t.Errorf("Open of %d bytes: %d bytes, %v", long, len(back), ok)
		}
	}
}

func TestPromise4DataThatIsTooLong(t *testing.T) {
	master := someBytes(1, 32)
	for _, long := range []int{impl.MaxSealed + 1, impl.MaxSealed + 2, impl.MaxSealed + impl.TagSize, 1<<16 + 1} {
		data := someBytes(2, long)
		if s, ok := impl.Seal(master, 1, data); ok || s != "" {
			t.Errorf("Seal of %d bytes: %d bytes, %v", long, len(s), ok)
		}
		checkNothingOpened(t, "data that is too long, with a right tag", master, 1, standardSeal(t, master, 1, data))
	}
}

func TestPromise4NumbersThatAreNone(t *testing.T) {
	master := someBytes(1, 32)
	for _, number := range wrongNumbers {
		for _, data := range []string{"", "data"} {
			if s, ok := impl.Seal(master, number, data); ok || s != "" {
				t.Errorf("Seal with the number %d: %x %v", number, s, ok)
			}
			checkNothingOpened(t, "a number that is none, with a right tag", master, number, standardSeal(t, master, number, data))
		}
	}
}

func TestPromise4OneBitTurnedOver(t *testing.T) {
	master := someBytes(1, 32)
	for _, data := range []string{"", "x", someBytes(2, 16), someBytes(3, 40)} {
		s, _ := impl.Seal(master, 7, data)
		turnings(s, func(other string) { checkNothingOpened(t, "a bit turned over", master, 7, other) })
		turnings(master, func(other string) { checkNothingOpened(t, "a bit of the master turned over", other, 7, s) })
	}
}

func TestPromise4CutShortOrMore(t *testing.T) {
	master := someBytes(1, 32)
	for _, data := range []string{"", "x", someBytes(2, 16), someBytes(3, 40)} {
		s, _ := impl.Seal(master, 7, data)
		for i := range s {
			checkNothingOpened(t, "cut short", master, 7, s[:i])
			checkNothingOpened(t, "without its beginning", master, 7, s[i+1:])
			checkNothingOpened(t, "a byte more", master, 7, s[:i]+"\x00"+s[i:])
		}
		checkNothingOpened(t, "a byte behind it", master, 7, s+"\x00")
		checkNothingOpened(t, "twice", master, 7, s+s)
	}
	checkNothingOpened(t, "nothing", master, 7, "")
	checkNothingOpened(t, "noughts", master, 7, strings.Repeat("\x00", impl.TagSize))
}

func TestPromise4AnotherNumberOrMaster(t *testing.T) {
	for _, data := range []string{"", "some data"} {
		for _, number := range sealedNumbers {
			s, _ := impl.Seal(someBytes(1, 32), number, data)
			for _, other := range append(wrongNumbers, sealedNumbers...) {
				if other != number {
					checkNothingOpened(t, "another number", someBytes(1, 32), other, s)
				}
			}
			checkNothingOpened(t, "another master", someBytes(2, 32), number, s)
		}
	}
}

func TestPromise4EachNumberMasksOtherwise(t *testing.T) {
	master, data := someBytes(1, 32), strings.Repeat("\x00", 32)
	seen := map[string]int64{}
	for _, number := range sealedNumbers {
		s, _ := impl.Seal(master, number, data)
		if other, ok := seen[s[:32]]; ok {
			t.Errorf("%d and %d have one mask", number, other)
		}
		seen[s[:32]] = number
	}
}

func TestPromise18SealsAreTheSameEachTime(t *testing.T) {
	master, data := someBytes(1, 32), someBytes(2, 100)
	first, _ := impl.Seal(master, 5, data)
	for range 3 {
		impl.Seal(someBytes(3, 32), 6, "another one")
		if s, ok := impl.Seal(master, 5, data); !ok || s != first {
			t.Errorf("Seal: %x %v, not %x", s, ok, first)
		}
		if back, ok := impl.Open(master, 5, first); !ok || back != data || sharesMemory(first, back) {
			t.Errorf("Open: %x %v, not %x in memory of its own", back, ok, data)
		}
	}
}
