package mac

import (
	"bytes"
	"crypto/hmac"
	"crypto/sha256"
	stdhex "encoding/hex"
	"strings"
	"testing"

	"cattlecreep/api"
)

// maxTagged is how many bytes Tag takes, as P3.1 says it: 1000 - 64.
const maxTagged = 936

var (
	zeroKey = strings.Repeat("0", 64)
	fullKey = strings.Repeat("f", 64)
	someKey = "000102030405060708090a0b0c0d0e0f101112131415161718191a1b1c1d1eff"
)

// pattern of n bytes that differ from place to place, so that a byte in a wrong place shows.
func pattern(n int) []byte {
	b := make([]byte, n)
	for i := range b {
		b[i] = byte(i*i*7 + i*31 + 5)
	}
	return b
}

// hmacOf is what Tag is to return, by the standard library.
func hmacOf(t *testing.T, key string, b []byte) []byte {
	t.Helper()
	k, err := stdhex.DecodeString(key)
	if err != nil {
		t.Fatal(err)
	}
	h := hmac.New(sha256.New, k)
	h.Write(b)
	return h.Sum(nil)
}

// TestTagExamples covers P3.1 with tags that are written out. The third is test case 1 of RFC 4231: zero bytes after its key, up to 32 bytes, leave the key block as it is.
func TestTagExamples(t *testing.T) {
	for _, c := range []struct{ key, in, want string }{
		{zeroKey, "", "b613679a0814d9ec772f95d778c35fc5ff1697c493715653c6c712144292c5ad"},
		{zeroKey, "abc", "fd7adb152c05ef80dccf50a1fa4c05d5a3ec6da95575fc312ae7c5d091836351"},
		{strings.Repeat("0b", 20) + strings.Repeat("00", 12), "Hi There", "b0344c61d8db38535ca8afceaf0bf12b881dc200c9833da726e9376c2e32cff7"},
	} {
		got, err := Tag(c.key, []byte(c.in))
		if text := stdhex.EncodeToString(got); err != api.OK || text != c.want {
			t.Errorf("Tag(%s, %q) = %s, %d, want %s, 0", c.key, c.in, text, err, c.want)
		}
	}
}

// TestTagByItsWords covers P3.1 step by step, as the chapter says it.
func TestTagByItsWords(t *testing.T) {
	var inner, outer [64]byte
	key, _ := stdhex.DecodeString(someKey)
	for i := range inner {
		var x byte
		if i < len(key) {
			x = key[i]
		}
		inner[i], outer[i] = x^54, x^92
	}
	first := sha256.Sum256(append(inner[:], "abc"...))
	want := sha256.Sum256(append(outer[:], first[:]...))
	if got, err := Tag(someKey, []byte("abc")); err != api.OK || !bytes.Equal(got, want[:]) {
		t.Errorf("Tag = %x, %d, want %x, 0", got, err, want)
	}
}

// TestTagEverySize covers P3.1 for each length within the limit, by several keys.
func TestTagEverySize(t *testing.T) {
	for _, key := range []string{zeroKey, fullKey, someKey} {
		for n := range maxTagged + 1 {
			in := pattern(n)
			want := hmacOf(t, key, in)
			if got, err := Tag(key, in); err != api.OK || !bytes.Equal(got, want) {
				t.Errorf("Tag of %d bytes by %s = %x, %d, want %x, 0", n, key, got, err, want)
			}
		}
	}
}

// TestTagEveryDigitCounts covers P3.1: a key that differs in one digit gives another tag.
func TestTagEveryDigitCounts(t *testing.T) {
	seen := map[string]int{}
	for i := range 64 {
		key := zeroKey[:i] + "1" + zeroKey[i+1:]
		got, err := Tag(key, nil)
		if want := hmacOf(t, key, nil); err != api.OK || !bytes.Equal(got, want) {
			t.Errorf("Tag by %s = %x, %d, want %x, 0", key, got, err, want)
		}
		if other, ok := seen[string(got)]; ok {
			t.Errorf("digits %d and %d give the same tag", other, i)
		}
		seen[string(got)] = i
	}
}

// badKeys are no keys; each comes with the error of hex.Check.
var badKeys = []struct {
	name, key string
	want      api.Errno
}{
	{"empty", "", api.ErrSize},
	{"one digit", "0", api.ErrSize},
	{"short", strings.Repeat("a", 63), api.ErrSize},
	{"short by a byte", strings.Repeat("a", 62), api.ErrSize},
	{"long", strings.Repeat("a", 65), api.ErrSize},
	{"long by a byte", strings.Repeat("a", 66), api.ErrSize},
	{"long, and no digits", strings.Repeat("x", 65), api.ErrSize},
	{"capitals", strings.Repeat("A", 64), api.ErrForm},
	{"last no digit", strings.Repeat("0", 63) + "g", api.ErrForm},
	{"first no digit", " " + strings.Repeat("0", 63), api.ErrForm},
	{"64 bytes of 32 runes", strings.Repeat("é", 32), api.ErrForm},
}

// checkErrors of all three functions for a key and n bytes, and that nothing comes with them. Derive's label has 4 bytes less, for its prefix has them.
func checkErrors(t *testing.T, name, key string, n int, want api.Errno) {
	t.Helper()
	if got, err := Tag(key, make([]byte, n)); err != want || len(got) != 0 {
		t.Errorf("%s: Tag of %d bytes = %x, %d, want none, %d", name, n, got, err, want)
	}
	if got, err := Right(key, make([]byte, n), make([]byte, 16)); err != want || got {
		t.Errorf("%s: Right of %d bytes = %v, %d, want false, %d", name, n, got, err, want)
	}
	if got, err := Right(key, make([]byte, n), nil); err != want || got {
		t.Errorf("%s: Right of %d bytes and no tag = %v, %d, want false, %d", name, n, got, err, want)
	}
	label := strings.Repeat("a", max(n-4, 0))
	if got, err := Derive(key, label); err != want || got != "" {
		t.Errorf("%s: Derive with a label of %d bytes = %q, %d, want none, %d", name, len(label), got, err, want)
	}
}

// TestBadKeys covers the errors of P3.1 to P3.3 for a key, which come before that for a length.
func TestBadKeys(t *testing.T) {
	for _, c := range badKeys {
		for _, n := range []int{0, 3, maxTagged, maxTagged + 1, 5000} {
			checkErrors(t, c.name, c.key, n, c.want)
		}
	}
}

// TestTooLong covers the errors of P3.1 to P3.3 for a length.
func TestTooLong(t *testing.T) {
	for _, n := range []int{maxTagged + 1, api.MaxBytes, api.MaxBytes + 1, 100000} {
		checkErrors(t, "too long", someKey, n, api.ErrSize)
	}
}

// TestDerive covers P3.2.
func TestDerive(t *testing.T) {
	for _, key := range []string{zeroKey, fullKey, someKey} {
		for _, label := range []string{"", " ", "a", "key ", "send", "é", "\x00\xff\xfe", "two\nlines"} {
			want := stdhex.EncodeToString(hmacOf(t, key, []byte("key "+label)))
			if got, err := Derive(key, label); err != api.OK || got != want {
				t.Errorf("Derive(%s, %q) = %s, %d, want %s, 0", key, label, got, err, want)
			}
		}
	}
}

// TestDeriveLimit covers P3.2: the prefix counts, so that the longest label has 932 bytes.
func TestDeriveLimit(t *testing.T) {
	for n := range 933 {
		label := string(pattern(n))
		want := stdhex.EncodeToString(hmacOf(t, someKey, []byte("key "+label)))
		if got, err := Derive(someKey, label); err != api.OK || got != want {
			t.Errorf("Derive with a label of %d bytes = %s, %d, want %s, 0", n, got, err, want)
		}
	}
	for _, n := range []int{933, 934, 936, 937} {
		if got, err := Derive(someKey, string(pattern(n))); err != api.ErrSize || got != "" {
			t.Errorf("Derive with a label of %d bytes = %q, %d, want none, 1", n, got, err)
		}
	}
}

// TestDerivedKeysDerive covers P3.2: what it returns is a key.
func TestDerivedKeysDerive(t *testing.T) {
	key := zeroKey
	for range 20 {
		derived, err := Derive(key, "next")
		if err != api.OK || len(derived) != 64 || derived == key {
			t.Fatalf("Derive(%s) = %q, %d", key, derived, err)
		}
		key = derived
	}
}

// checkRight of a tag that is right or not.
func checkRight(t *testing.T, name string, b, tag []byte, want bool) {
	t.Helper()
	if got, err := Right(someKey, b, tag); err != api.OK || got != want {
		t.Errorf("%s: Right of %d bytes = %v, %d, want %v, 0", name, len(b), got, err, want)
	}
}

// TestRight covers P3.3 for bytes of several lengths, the limit included.
func TestRight(t *testing.T) {
	for _, n := range []int{0, 1, 3, 16, 64, 200, maxTagged} {
		in := pattern(n)
		whole := hmacOf(t, someKey, in)
		checkRight(t, "first 16", in, whole[:16], true)
		checkRight(t, "last 16", in, whole[16:], false)
		checkRight(t, "zeros", in, make([]byte, 16), false)
		checkRight(t, "by another key", in, hmacOf(t, zeroKey, in)[:16], false)
	}
	checkRight(t, "of other bytes", []byte("abd"), hmacOf(t, someKey, []byte("abc"))[:16], false)
	checkRight(t, "of fewer bytes", []byte("abc"), hmacOf(t, someKey, []byte("ab"))[:16], false)
}

// TestRightSize covers P3.3: only 16 bytes are right, though more or fewer of them may be the tag's.
func TestRightSize(t *testing.T) {
	whole := hmacOf(t, someKey, []byte("abc"))
	for n := range len(whole) + 1 {
		checkRight(t, "a beginning", []byte("abc"), whole[:n], n == 16)
	}
	checkRight(t, "nil", []byte("abc"), nil, false)
	checkRight(t, "followed by a zero", []byte("abc"), append(bytes.Clone(whole[:16]), 0), false)
	checkRight(t, "twice", []byte("abc"), append(bytes.Clone(whole[:16]), whole[:16]...), false)
}

// TestRightEveryBit covers P3.3: one bit that is changed is one too many.
func TestRightEveryBit(t *testing.T) {
	in := []byte("abc")
	whole := hmacOf(t, someKey, in)
	for bit := range 128 {
		tag := bytes.Clone(whole[:16])
		tag[bit/8] ^= 1 << (bit % 8)
		checkRight(t, "a bit changed", in, tag, false)
	}
	// Two changes that are equal must not cancel each other.
	for at := range 15 {
		tag := bytes.Clone(whole[:16])
		tag[at] ^= 85
		tag[at+1] ^= 85
		checkRight(t, "two bytes changed", in, tag, false)
	}
}

// TestArgumentsStay covers P3.1 and P3.3 and the document's rule on memory, unused capacity included.
func TestArgumentsStay(t *testing.T) {
	for _, n := range []int{0, 3, 64, 200} {
		all, tags := pattern(400), hmacOf(t, someKey, pattern(n))
		before := bytes.Clone(tags)
		Tag(someKey, all[:n])
		Right(someKey, all[:n], tags[:16])
		if !bytes.Equal(all, pattern(400)) || !bytes.Equal(tags, before) {
			t.Errorf("an argument was changed for %d bytes", n)
		}
	}
}

// TestTagsAreNew covers P3.1 and the document's rules on memory and determinism.
func TestTagsAreNew(t *testing.T) {
	in := pattern(32)
	want := hmacOf(t, someKey, in)
	first, _ := Tag(someKey, in)
	second, _ := Tag(someKey, in)
	first = first[:cap(first)]
	for i := range first {
		first[i] ^= 255
	}
	third, _ := Tag(someKey, in)
	if !bytes.Equal(in, pattern(32)) || !bytes.Equal(second, want) || !bytes.Equal(third, want) {
		t.Error("a tag shares memory with an argument or another tag")
	}
}
