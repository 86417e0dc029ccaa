package tests

import (
	"encoding/binary"
	"hash/crc32"
	"hash/crc64"
	"math/bits"
	"strings"
	"testing"
	"unsafe"

	"loop.example/g00228/impl"
)

// What may stand behind a number or a text, some of it looking like more groups.
var behind = []string{"", "\x00", "\x01", "\x7f", "\x80", "\x80\x00", "\xff\xff", "z", strings.Repeat("\x80", 12)}

// edgeNumbers has each number of just 1 .. 64 bits that is the least or greatest of them, and its neighbours.
func edgeNumbers() []uint64 {
	list := []uint64{0, 300, 1000000000000}
	for k := range 64 {
		n := uint64(1) << k
		list = append(list, n-1, n, n+1)
	}
	return append(list, 1<<64-1)
}

func checkNumber(t *testing.T, s string, n uint64, rest string) {
	t.Helper()
	if m, r, ok := impl.TakeNum(s); !ok || m != n || r != rest {
		t.Errorf("TakeNum(%q): %d %q %v, not %d %q", s, m, r, ok, n, rest)
	}
}

func checkNoNumber(t *testing.T, s string) {
	t.Helper()
	if n, rest, ok := impl.TakeNum(s); ok || n != 0 || rest != "" {
		t.Errorf("TakeNum(%q): %d %q %v, where there is none", s, n, rest, ok)
	}
}

func checkText(t *testing.T, s string, text string, rest string) {
	t.Helper()
	if x, r, ok := impl.TakeText(s); !ok || x != text || r != rest {
		t.Errorf("TakeText of %d bytes: %d bytes, %d behind, %v, not %d and %d", len(s), len(x), len(r), ok, len(text), len(rest))
	}
}

func checkNoText(t *testing.T, s string) {
	t.Helper()
	if x, rest, ok := impl.TakeText(s); ok || x != "" || rest != "" {
		t.Errorf("TakeText of %d bytes (%.20q): %d bytes, %d behind, %v, where there is none", len(s), s, len(x), len(rest), ok)
	}
}

func TestPromise1NumbersHaveTheirBytes(t *testing.T) {
	for _, c := range []struct {
		n    uint64
		want string
	}{
		{0, "\x00"},
		{1, "\x01"},
		{1<<7 - 1, "\x7f"},
		{1 << 7, "\x80\x01"},
		{300, "\xac\x02"},
		{1<<14 - 1, "\xff\x7f"},
		{1 << 14, "\x80\x80\x01"},
		{1<<63 - 1, "\xff\xff\xff\xff\xff\xff\xff\xff\x7f"},
		{1 << 63, "\x80\x80\x80\x80\x80\x80\x80\x80\x80\x01"},
		{1<<64 - 1, "\xff\xff\xff\xff\xff\xff\xff\xff\xff\x01"},
	} {
		if s := impl.PutNum(c.n); s != c.want {
			t.Errorf("PutNum(%d): %q, not %q", c.n, s, c.want)
		}
		checkNumber(t, c.want, c.n, "")
	}
}

func TestPromise1NumbersComeBack(t *testing.T) {
	for _, n := range edgeNumbers() {
		s := impl.PutNum(n)
		if fewest := max(1, (bits.Len64(n)+6)/7); len(s) != fewest {
			t.Errorf("PutNum(%d) has %d bytes, not %d", n, len(s), fewest)
		}
		for _, rest := range behind {
			checkNumber(t, s+rest, n, rest)
		}
	}
}

func TestPromise1NumbersThatAreNone(t *testing.T) {
	for _, s := range []string{
		"",
		"\x80",
		"\xff\xff\xff",
		"\x80\x00",
		"\x81\x00",
		"\xff\x80\x00",
		strings.Repeat("\x80", 8) + "\x00",
		strings.Repeat("\x80", 9),
		strings.Repeat("\x80", 9) + "\x00",
		strings.Repeat("\xff", 9) + "\x02",
		strings.Repeat("\xff", 9) + "\x03",
		strings.Repeat("\xff", 9) + "\x7f",
		strings.Repeat("\x80", 10),
		strings.Repeat("\x80", 9) + "\x81",
		strings.Repeat("\x80", 10) + "\x00",
		strings.Repeat("\x80", 10) + "\x01",
		strings.Repeat("\xff", 9) + "\x81\x00",
		strings.Repeat("\xff", 1000),
	} {
		checkNoNumber(t, s)
	}
	for _, n := range edgeNumbers() {
		s := impl.PutNum(n)
		for cut := range len(s) {
			checkNoNumber(t, s[:cut])
		}
		notNeeded := []byte(s + "\x00")
		notNeeded[len(s)-1] |= 0x80
		checkNoNumber(t, string(notNeeded))
	}
}

// someStrings goes through all texts of at most that many bytes, made of these.
func someStrings(letters string, most int, yield func(string)) {
	yield("")
	if most == 0 {
		return
	}
	for i := range len(letters) {
		someStrings(letters, most-1, func(s string) { yield(letters[i:i+1] + s) })
	}
}

func TestPromise1WhatIsTakenHasJustItsBytes(t *testing.T) {
	check := func(s string) {
		n, used := binary.Uvarint([]byte(s))
		if used <= 0 || len(binary.AppendUvarint(nil, n)) != used {
			checkNoNumber(t, s)
			return
		}
		checkNumber(t, s, n, s[used:])
		if impl.PutNum(n)+s[used:] != s {
			t.Errorf("PutNum(%d) are not the bytes that %q begins with", n, s)
		}
	}
	for a := range 256 {
		for b := range 256 {
			check(string([]byte{byte(a), byte(b)}))
		}
	}
	someStrings("\x00\x01\x02\x7f\x80\x81\xff", 4, func(s string) {
		check(s)
		check(strings.Repeat("\x80", 8) + s)
		check(strings.Repeat("\xff", 8) + s)
	})
}

func TestPromise1TextsComeBack(t *testing.T) {
	for _, long := range []int{0, 1, 2, 127, 128, 129, 16383, 16384, impl.MaxText - 1, impl.MaxText} {
		text := strings.Repeat("\x80a\x00", long/3+1)[:long]
		s := impl.PutText(text)
		if s != impl.PutNum(uint64(long))+text {
			t.Errorf("PutText of %d bytes has other bytes", long)
		}
		for _, rest := range behind {
			checkText(t, s+rest, text, rest)
		}
		checkNoText(t, s[:len(s)-1])
	}
	checkText(t, impl.PutText("one")+impl.PutText("two"), "one", "\x03two")
}

func TestPromise1TextsThatAreNone(t *testing.T) {
	for _, s := range []string{
		"",
		"\x01",
		"\x04abc",
		"\x80",
		"\x80\x00",
		"\x83\x00abc",
		"\xff\xff\xff\xff\xff\xff\xff\xff\xff\x02abc",
	} {
		checkNoText(t, s)
	}
	long := strings.Repeat("x", impl.MaxText+1)
	if s := impl.PutText(long); s != impl.PutNum(impl.MaxText+1)+long {
		t.Error("PutText of more than MaxText bytes has other bytes")
	}
	checkNoText(t, impl.PutText(long))
	for _, n := range []uint64{impl.MaxText + 2, 1<<31 - 1, 1 << 31, 1<<32 + 1, 1<<63 - 1, 1 << 63, 1<<64 - 1} {
		checkNoText(t, impl.PutNum(n)+long)
	}
}

// someData has texts of many lengths, without a rule that a sum could miss.
func someData() []string {
	list := []string{"", "\x00", "\xff", strings.Repeat("\x00", 40), strings.Repeat("\xff", 40), "123456789"}
	x := uint64(1)
	for long := 1; long < 100; long += 7 {
		b := make([]byte, long)
		for i := range b {
			x = x*6364136223846793005 + 1442695040888963407
			b[i] = byte(x >> 56)
		}
		list = append(list, string(b))
	}
	return list
}

// turnings goes through the texts that are data with one bit turned over.
func turnings(data string, yield func(string)) {
	for i := range 8 * len(data) {
		b := []byte(data)
		b[i/8] ^= 1 << (i % 8)
		yield(string(b))
	}
}

func TestPromise1Sums(t *testing.T) {
	if x := impl.Crc32("123456789"); x != 0xcbf43926 {
		t.Errorf("Crc32: %x", x)
	}
	if x := impl.Crc64("123456789"); x != 0x995dc9bbdf1939fa {
		t.Errorf("Crc64: %x", x)
	}
	if impl.Crc32("") != 0 || impl.Crc64("") != 0 {
		t.Error("sums of nothing")
	}
	for _, data := range append(someData(), strings.Repeat("long", 5000)) {
		if x, want := impl.Crc32(data), crc32.ChecksumIEEE([]byte(data)); x != want {
			t.Errorf("Crc32(%.40q): %x, not %x", data, x, want)
		}
		if x, want := impl.Crc64(data), crc64.Checksum([]byte(data), crc64.MakeTable(crc64.ECMA)); x != want {
			t.Errorf("Crc64(%.40q): %x, not %x", data, x, want)
		}
	}
}

func TestPromise1OneBitTurnedOver(t *testing.T) {
	for _, data := range someData() {
		a, b := impl.Crc32(data), impl.Crc64(data)
		turnings(data, func(other string) {
			if impl.Crc32(other) == a || impl.Crc64(other) == b {
				t.Errorf("%q and %q have one sum", data, other)
			}
		})
	}
}

func sharesMemory(a string, b string) bool {
	if a == "" || b == "" {
		return false
	}
	from := uintptr(unsafe.Pointer(unsafe.StringData(a)))
	at := uintptr(unsafe.Pointer(unsafe.StringData(b)))
	return at < from+uintptr(len(a)) && from < at+uintptr(len(b))
}

func TestTakenIsNewMemory(t *testing.T) {
	s := strings.Clone("\x03abcdef")
	_, behindNumber, _ := impl.TakeNum(s)
	text, behindText, _ := impl.TakeText(s)
	for _, answer := range []string{behindNumber, text, behindText} {
		if sharesMemory(s, answer) {
			t.Errorf("%q lies in the argument", answer)
		}
	}
}
