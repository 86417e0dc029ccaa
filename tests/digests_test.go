package tests

import (
	"crypto/hmac"
	"crypto/pbkdf2"
	"crypto/sha256"
	"encoding/hex"
	"strings"
	"testing"

	"loop.example/g00228/impl"
)

func TestPromise2SumsOfTheStandard(t *testing.T) {
	for _, c := range []struct{ data, want string }{
		{"", "e3b0c44298fc1c149afbf4c8996fb92427ae41e4649b934ca495991b7852b855"},
		{"abc", "ba7816bf8f01cfea414140de5dae2223b00361a396177a9cb410ff61f20015ad"},
		{"abcdbcdecdefdefgefghfghighijhijkijkljklmklmnlmnomnopnopq", "248d6a61d20638b8e5c026930c3e6039a33ce45964ff2167f6ecedd419db06c1"},
		{strings.Repeat("a", 1000000), "cdc76e5c9914fb9281a1c7e284d73e67f1809a48a497200e046d39ccc7112cd0"},
	} {
		if s := hex.EncodeToString([]byte(impl.Sum(c.data))); s != c.want {
			t.Errorf("Sum(%.60q): %s, not %s", c.data, s, c.want)
		}
	}
}

func TestPromise2SumsOfEachLength(t *testing.T) {
	all := strings.Repeat("\x00\xff\x80incremental", 20)
	for long := range 200 {
		want := sha256.Sum256([]byte(all[:long]))
		if s := impl.Sum(all[:long]); s != string(want[:]) {
			t.Errorf("Sum of %d bytes: %x, not %x", long, s, want)
		}
	}
}

func TestPromise2OneBitTurnedOver(t *testing.T) {
	for _, data := range someData() {
		sum := impl.Sum(data)
		turnings(data, func(other string) {
			if impl.Sum(other) == sum {
				t.Errorf("%q and %q have one digest", data, other)
			}
		})
	}
}

func TestPromise2BytesComeBackFromTheirDigits(t *testing.T) {
	var all []byte
	for b := range 256 {
		all = append(all, byte(b))
		one := string([]byte{byte(b)})
		if s := impl.Hex(one); s != hex.EncodeToString([]byte(one)) {
			t.Errorf("Hex(%q): %q", one, s)
		}
	}
	for _, data := range append(someData(), string(all)) {
		s := impl.Hex(data)
		if s != hex.EncodeToString([]byte(data)) {
			t.Errorf("Hex(%q): %q", data, s)
		}
		if back, ok := impl.Unhex(s); !ok || back != data {
			t.Errorf("Unhex(%q): %q %v, not %q", s, back, ok, data)
		}
	}
	if s := impl.Hex("\x01\xf0z"); s != "01f07a" {
		t.Errorf("Hex: %q", s)
	}
}

func TestPromise2DigitsThatAreNone(t *testing.T) {
	for _, s := range []string{"0", "000", "0g", "g0", "FF", "fF", "Ff", "0x", " 0", "0 ", "00 ", "/0", "0:", "`0", "0\x00", "\xff0", "é", "00g0", "0000000g"} {
		if b, ok := impl.Unhex(s); ok || b != "" {
			t.Errorf("Unhex(%q): %q %v", s, b, ok)
		}
	}
	for a := range 256 {
		for _, s := range []string{string([]byte{byte(a), '0'}), string([]byte{'0', byte(a)})} {
			digit := strings.IndexByte("0123456789abcdef", byte(a)) >= 0
			if b, ok := impl.Unhex(s); ok != digit || !ok && b != "" || ok && impl.Hex(b) != s {
				t.Errorf("Unhex(%q): %q %v", s, b, ok)
			}
		}
	}
}

func standardHmac(key string, data string) string {
	h := hmac.New(sha256.New, []byte(key))
	h.Write([]byte(data))
	return string(h.Sum(nil))
}

func TestPromise2HmacOfTheStandard(t *testing.T) {
	if s := impl.Hex(impl.Hmac("Jefe", "what do ya want for nothing?")); s != "5bdcc146bf60754e6a042426089575c75a003f089d2739839dec58b964ec3843" {
		t.Errorf("Hmac of RFC 4231: %s", s)
	}
	keys := strings.Repeat("k\xff\x36\x5c", 50)
	for _, long := range []int{0, 1, 31, 32, 33, 55, 56, 62, 63, 64, 65, 66, 127, 128, 129, 200} {
		for _, data := range someData() {
			if impl.Hmac(keys[:long], data) != standardHmac(keys[:long], data) {
				t.Errorf("Hmac with a key of %d bytes, data of %d", long, len(data))
			}
		}
	}
}

func TestPromise2LongKeysAreTheirDigests(t *testing.T) {
	keys := strings.Repeat("long key", 20)
	for _, long := range []int{65, 66, 100, 128, 160} {
		if impl.Hmac(keys[:long], "data") != impl.Hmac(impl.Sum(keys[:long]), "data") {
			t.Errorf("a key of %d bytes is not its digest", long)
		}
	}
	for _, long := range []int{0, 1, 32, 63, 64} {
		if impl.Hmac(keys[:long], "data") == impl.Hmac(impl.Sum(keys[:long]), "data") {
			t.Errorf("a key of %d bytes is its digest", long)
		}
	}
}

func TestPromise2NoughtsBehindAKey(t *testing.T) {
	for _, key := range []string{"", "k", strings.Repeat("k", 32), strings.Repeat("k", 62), strings.Repeat("k", 63), strings.Repeat("k", 64)} {
		want := impl.Hmac(key, "data")
		for more := range 66 - len(key) {
			padded := key + strings.Repeat("\x00", more)
			if same := impl.Hmac(padded, "data") == want; same != (len(padded) <= 64) {
				t.Errorf("%d noughts behind a key of %d bytes: the same is %v", more, len(key), same)
			}
		}
		if key != "" && impl.Hmac("\x00"+key, "data") == want {
			t.Errorf("a nought ahead of a key of %d bytes changes nothing", len(key))
		}
	}
}

func xored(a string, b string) string {
	out := []byte(a)
	for i := range out {
		out[i] ^= b[i]
	}
	return string(out)
}

func TestPromise2EachRoundXorsOneDigestMore(t *testing.T) {
	for _, password := range []string{"", "p", "password", strings.Repeat("p", 63), strings.Repeat("p", 64), strings.Repeat("p", 65)} {
		for _, salt := range []string{"", "salt", "\x00\x00\x00\x01"} {
			turn := impl.Hmac(password, salt+"\x00\x00\x00\x01")
			want := turn
			for rounds := int64(1); rounds <= impl.MaxRounds; rounds++ {
				if s, ok := impl.Stretch(password, salt, rounds); !ok || s != want {
					t.Errorf("Stretch(%q, %q, %d): %x %v, not %x", password, salt, rounds, s, ok, want)
				}
				turn = impl.Hmac(password, turn)
				want = xored(want, turn)
			}
		}
	}
}

func TestPromise2StretchOfTheStandard(t *testing.T) {
	for _, rounds := range []int{1, 2, 3, 49, 50} {
		want, err := pbkdf2.Key(sha256.New, "password", []byte("salt"), rounds, 32)
		if err != nil {
			t.Fatal(err)
		}
		if s, ok := impl.Stretch("password", "salt", int64(rounds)); !ok || s != string(want) {
			t.Errorf("Stretch of %d rounds: %x %v, not %x", rounds, s, ok, want)
		}
	}
}

func TestPromise2RoundsThatAreNone(t *testing.T) {
	for _, rounds := range []int64{0, -1, -50, 51, 52, 1 << 32, 1<<32 + 1, 1<<63 - 1, -1 << 63} {
		if s, ok := impl.Stretch("password", "salt", rounds); ok || s != "" {
			t.Errorf("Stretch of %d rounds: %x %v", rounds, s, ok)
		}
	}
}
