package seal

import (
	"bytes"
	"crypto/hmac"
	"crypto/sha256"
	"encoding/binary"
	stdhex "encoding/hex"
	"math"
	"strings"
	"testing"

	"cattlecreep/api"
)

// The limits as numbers: MaxData is 200 and MaxCounter is 2^40.
const (
	longestStream = 232
	longestPlain  = 220
	longestSealed = 236
	lastCounter   = 1 << 40
)

var (
	zeroKey = strings.Repeat("0", 64)
	fullKey = strings.Repeat("f", 64)
	someKey = "000102030405060708090a0b0c0d0e0f101112131415161718191a1b1c1d1eff"

	// counters have each of their bytes set in turn, so that a byte in a wrong place shows.
	counters = []int{0, 1, 5, 255, 256, 1 << 16, 1 << 24, 1<<31 - 1, 1 << 31, 1 << 32, 0x0102030405, lastCounter - 1, lastCounter}
)

// pattern of n bytes that differ from place to place.
func pattern(n int) []byte {
	b := make([]byte, n)
	for i := range b {
		b[i] = byte(i*i*7 + i*31 + 5)
	}
	return b
}

// hmacOf by the standard library.
func hmacOf(t *testing.T, key string, b []byte) []byte {
	t.Helper()
	k, err := stdhex.DecodeString(key)
	if err != nil {
		t.Fatal(err)
	}
	h := hmac.New(sha256.New, k)
	h.Write(b)
	return h.Sum(nil)
}

// streamOf is what Stream is to return, by the standard library.
func streamOf(t *testing.T, key string, counter, n int) []byte {
	t.Helper()
	var stream []byte
	for block := uint64(0); len(stream) < n; block++ {
		b := binary.BigEndian.AppendUint64([]byte("flow"), uint64(counter))
		stream = append(stream, hmacOf(t, key, binary.BigEndian.AppendUint64(b, block))...)
	}
	return stream[:n]
}

// tagOf a ciphertext, by the standard library.
func tagOf(t *testing.T, key string, counter int, ciphertext []byte) []byte {
	t.Helper()
	b := binary.BigEndian.AppendUint64([]byte("seal"), uint64(counter))
	return hmacOf(t, key, append(b, ciphertext...))[:16]
}

// sealOf is what Seal is to return, by the standard library.
func sealOf(t *testing.T, key string, counter int, b []byte) []byte {
	t.Helper()
	ciphertext := streamOf(t, key, counter, len(b))
	for i := range ciphertext {
		ciphertext[i] ^= b[i]
	}
	return append(ciphertext, tagOf(t, key, counter, ciphertext)...)
}

// TestStreamExamples covers P4.1 with streams that are written out.
func TestStreamExamples(t *testing.T) {
	for _, c := range []struct {
		key     string
		counter int
		want    string
	}{
		{zeroKey, 0, "203d471901b842ab44d3d4df42abdcf7cedcac4756b7d3e7dfd5887055a9f153f312147219da2c8b"},
		{someKey, lastCounter, "f4fd0406ff37dd26ca05693d24dd734bff112506a5d6cf7d99cd46c30d9e4986fd731b5ea134e096"},
		{someKey, 0x0102030405, "35dedc"},
	} {
		got, err := Stream(c.key, c.counter, len(c.want)/2)
		if text := stdhex.EncodeToString(got); err != api.OK || text != c.want {
			t.Errorf("Stream(%s, %d) = %s, %d, want %s, 0", c.key, c.counter, text, err, c.want)
		}
	}
}

// TestStreamEverySize covers P4.1 for each length within the limit, none included, by several keys and counters.
func TestStreamEverySize(t *testing.T) {
	for _, key := range []string{zeroKey, fullKey, someKey} {
		for _, counter := range counters {
			whole := streamOf(t, key, counter, longestStream)
			for n := range longestStream + 1 {
				if got, err := Stream(key, counter, n); err != api.OK || !bytes.Equal(got, whole[:n]) {
					t.Errorf("Stream(%s, %d, %d) = %x, %d, want %x, 0", key, counter, n, got, err, whole[:n])
				}
			}
		}
	}
}

// TestStreamErrors covers the errors of P4.1 for numbers.
func TestStreamErrors(t *testing.T) {
	for _, c := range []struct{ counter, n int }{
		{-1, 0}, {-1, 1}, {math.MinInt, 1}, {lastCounter + 1, 0}, {lastCounter + 1, 1}, {math.MaxInt, 1},
		{0, -1}, {1, math.MinInt}, {0, longestStream + 1}, {lastCounter, longestStream + 1}, {1, math.MaxInt},
		{-1, -1}, {lastCounter + 1, longestStream + 1}, {math.MaxInt, math.MaxInt}, {math.MinInt, math.MinInt},
	} {
		if got, err := Stream(someKey, c.counter, c.n); err != api.ErrRange || len(got) != 0 {
			t.Errorf("Stream(_, %d, %d) = %x, %d, want none, 4", c.counter, c.n, got, err)
		}
	}
}

// badKeys are no keys; each comes with the error of hex.Check.
var badKeys = []struct {
	name, key string
	want      api.Errno
}{
	{"empty", "", api.ErrSize},
	{"short", strings.Repeat("a", 63), api.ErrSize},
	{"short by a byte", strings.Repeat("a", 62), api.ErrSize},
	{"long", strings.Repeat("a", 65), api.ErrSize},
	{"long, and no digits", strings.Repeat("x", 66), api.ErrSize},
	{"capitals", strings.Repeat("A", 64), api.ErrForm},
	{"last no digit", strings.Repeat("0", 63) + "g", api.ErrForm},
	{"first no digit", " " + strings.Repeat("0", 63), api.ErrForm},
	{"64 bytes of 32 runes", strings.Repeat("é", 32), api.ErrForm},
}

// checkSeal and checkOpen: an error, and that nothing comes with it.
func checkSeal(t *testing.T, name, key string, counter, n int, want api.Errno) {
	t.Helper()
	if got, err := Seal(key, counter, pattern(n)); err != want || len(got) != 0 {
		t.Errorf("%s: Seal of %d bytes for %d = %x, %d, want none, %d", name, n, counter, got, err, want)
	}
}

func checkOpen(t *testing.T, name, key string, counter int, b []byte, want api.Errno) {
	t.Helper()
	if got, err := Open(key, counter, b); err != want || len(got) != 0 {
		t.Errorf("%s: Open of %d bytes for %d = %x, %d, want none, %d", name, len(b), counter, got, err, want)
	}
}

// TestBadKeys covers the errors of P4.1 to P4.3 for a key: they come before those for numbers, for too few bytes and for a tag, and after those for too many bytes.
func TestBadKeys(t *testing.T) {
	for _, c := range badKeys {
		for _, counter := range []int{0, lastCounter, -1, lastCounter + 1} {
			for _, n := range []int{0, 1, longestStream, -1, longestStream + 1} {
				if got, err := Stream(c.key, counter, n); err != c.want || len(got) != 0 {
					t.Errorf("%s: Stream(%d, %d) = %x, %d, want none, %d", c.name, counter, n, got, err, c.want)
				}
			}
			for _, n := range []int{0, 1, longestPlain} {
				checkSeal(t, c.name, c.key, counter, n, c.want)
			}
			for _, n := range []int{0, 15, 16, 17, longestSealed} {
				checkOpen(t, c.name, c.key, counter, pattern(n), c.want)
			}
			checkSeal(t, c.name, c.key, counter, longestPlain+1, api.ErrSize)
			checkOpen(t, c.name, c.key, counter, pattern(longestSealed+1), api.ErrSize)
		}
	}
}

// TestBadCounters covers the errors of P4.2 and P4.3 for a counter, in their order.
func TestBadCounters(t *testing.T) {
	for _, counter := range []int{-1, math.MinInt, lastCounter + 1, math.MaxInt} {
		for _, n := range []int{0, 1, longestPlain} {
			checkSeal(t, "bad counter", someKey, counter, n, api.ErrRange)
		}
		for _, n := range []int{0, 15, 16, 17, longestSealed} {
			checkOpen(t, "bad counter", someKey, counter, pattern(n), api.ErrRange)
		}
		checkOpen(t, "sealed for a bad counter", someKey, counter, sealOf(t, someKey, counter, []byte("abc")), api.ErrRange)
		checkSeal(t, "bad counter, too long", someKey, counter, longestPlain+1, api.ErrSize)
		checkOpen(t, "bad counter, too long", someKey, counter, pattern(longestSealed+1), api.ErrSize)
	}
}

// TestTooLong covers the errors of P4.2 and P4.3 for too many bytes. The stream for up to 232 bytes exists, so only these checks refuse them, though they were sealed rightly.
func TestTooLong(t *testing.T) {
	for _, n := range []int{longestPlain + 1, longestPlain + 2, longestStream, longestStream + 1, 1000, 100000} {
		checkSeal(t, "too long", someKey, 1, n, api.ErrSize)
		checkOpen(t, "too long", someKey, 1, pattern(n+16), api.ErrSize)
	}
	for n := longestPlain + 1; n <= longestStream; n++ {
		checkOpen(t, "sealed, but too long", someKey, 1, sealOf(t, someKey, 1, pattern(n)), api.ErrSize)
	}
}

// TestSealExamples covers P4.2 and P4.3 with sealed bytes that are written out.
func TestSealExamples(t *testing.T) {
	for _, c := range []struct {
		key     string
		counter int
		in      string
		want    string
	}{
		{zeroKey, 0, "", "f68eb788222a1236459ad882cde8a370"},
		{zeroKey, 5, "abc", "d5f66aef38972f348912ff502555a26a99d01b"},
		{someKey, lastCounter, "The quick brown fox jumps over the lazy dog", "a09561268e42b445a1250b4f4baa1d6b997e5d26cfa3a20deaed29b568ec69f295163b32c04e99b619189428394c9c9cae68f2c03740becfe9b535"},
	} {
		sealed, err := Seal(c.key, c.counter, []byte(c.in))
		if text := stdhex.EncodeToString(sealed); err != api.OK || text != c.want {
			t.Errorf("Seal(%s, %d, %q) = %s, %d, want %s, 0", c.key, c.counter, c.in, text, err, c.want)
		}
		want, _ := stdhex.DecodeString(c.want)
		if got, err := Open(c.key, c.counter, want); err != api.OK || string(got) != c.in {
			t.Errorf("Open(%s, %d, %s) = %q, %d, want %q, 0", c.key, c.counter, c.want, got, err, c.in)
		}
	}
}

// TestSealEverySize covers P4.2 and P4.3 for each length within the limits, by several keys and counters.
func TestSealEverySize(t *testing.T) {
	for _, key := range []string{zeroKey, someKey} {
		for _, counter := range []int{0, 5, 0x0102030405, lastCounter} {
			for n := range longestPlain + 1 {
				in := pattern(n)
				want := sealOf(t, key, counter, in)
				if got, err := Seal(key, counter, in); err != api.OK || !bytes.Equal(got, want) {
					t.Errorf("Seal(%s, %d) of %d bytes = %x, %d, want %x, 0", key, counter, n, got, err, want)
				}
				if got, err := Open(key, counter, want); err != api.OK || !bytes.Equal(got, in) {
					t.Errorf("Open(%s, %d) of %d bytes = %x, %d, want %x, 0", key, counter, n+16, got, err, in)
				}
			}
		}
	}
}

// TestEveryCounter covers P4.2 and P4.3: what is sealed for one counter is opened for no other one.
func TestEveryCounter(t *testing.T) {
	for _, n := range []int{0, 3} {
		in := pattern(n)
		for _, counter := range counters {
			sealed, err := Seal(someKey, counter, in)
			if want := sealOf(t, someKey, counter, in); err != api.OK || !bytes.Equal(sealed, want) {
				t.Errorf("Seal for %d = %x, %d, want %x, 0", counter, sealed, err, want)
			}
			for _, other := range counters {
				if other != counter {
					checkOpen(t, "another counter", someKey, other, sealed, api.ErrTag)
				}
			}
		}
	}
}

// TestOpenShort covers P4.3: a tag has 16 bytes, and fewer are no tag, whichever they are.
func TestOpenShort(t *testing.T) {
	none := sealOf(t, someKey, 1, nil)
	for n := range 16 {
		checkOpen(t, "a beginning of a tag", someKey, 1, none[:n], api.ErrShort)
		checkOpen(t, "pattern", someKey, lastCounter, pattern(n), api.ErrShort)
	}
	checkOpen(t, "nil", someKey, 1, nil, api.ErrShort)
	if got, err := Open(someKey, 1, none); err != api.OK || len(got) != 0 {
		t.Errorf("Open of a tag alone = %x, %d, want none, 0", got, err)
	}
}

// TestOpenEveryBit covers P4.3: one bit that is changed, of the ciphertext or of the tag, is one too many.
func TestOpenEveryBit(t *testing.T) {
	for _, n := range []int{0, 1, 40, longestPlain} {
		sealed := sealOf(t, someKey, 9, pattern(n))
		for bit := range 8 * len(sealed) {
			changed := bytes.Clone(sealed)
			changed[bit/8] ^= 1 << (bit % 8)
			checkOpen(t, "a bit changed", someKey, 9, changed, api.ErrTag)
		}
	}
}

// TestOpenForged covers P4.3 for bytes that were not sealed so.
func TestOpenForged(t *testing.T) {
	in := pattern(40)
	sealed := sealOf(t, someKey, 9, in)
	ciphertext := sealed[:40]
	whole := hmacOf(t, someKey, append(binary.BigEndian.AppendUint64([]byte("seal"), 9), ciphertext...))
	for _, c := range []struct {
		name string
		b    []byte
	}{
		{"by another key", sealOf(t, zeroKey, 9, in)},
		{"zeros", make([]byte, 56)},
		{"tag alone", sealed[40:]},
		{"no tag", ciphertext},
		{"last byte gone", sealed[:55]},
		{"first byte gone", sealed[1:]},
		{"a byte more", append(bytes.Clone(sealed), 0)},
		{"a byte ahead", append([]byte{0}, sealed...)},
		{"last bytes of the tag", append(bytes.Clone(ciphertext), whole[16:]...)},
		{"whole tag", append(bytes.Clone(ciphertext), whole...)},
		{"tag ahead", append(bytes.Clone(sealed[40:]), ciphertext...)},
		{"tag of the plain bytes", append(bytes.Clone(ciphertext), tagOf(t, someKey, 9, in)...)},
		{"tag without a label", append(bytes.Clone(ciphertext), hmacOf(t, someKey, ciphertext)[:16]...)},
		{"sealed plain", append(bytes.Clone(in), sealed[40:]...)},
		{"stream as a tag", streamOf(t, someKey, 9, 16)},
	} {
		checkOpen(t, c.name, someKey, 9, c.b, api.ErrTag)
	}
}

// TestOpenZeros covers P4.3: any ciphertext with its tag is opened, and that of zeros gives the stream.
func TestOpenZeros(t *testing.T) {
	ciphertext := make([]byte, 50)
	got, err := Open(someKey, 3, append(bytes.Clone(ciphertext), tagOf(t, someKey, 3, ciphertext)...))
	if want := streamOf(t, someKey, 3, 50); err != api.OK || !bytes.Equal(got, want) {
		t.Errorf("Open of zeros with their tag = %x, %d, want %x, 0", got, err, want)
	}
}

// TestArgumentsStay covers P4.2 and P4.3 and the document's rule on memory, unused capacity included.
func TestArgumentsStay(t *testing.T) {
	for _, n := range []int{0, 3, 32, 100, longestPlain} {
		plain := pattern(400)
		Seal(someKey, 5, plain[:n])
		if !bytes.Equal(plain, pattern(400)) {
			t.Errorf("Seal of %d bytes changed its argument", n)
		}
		all := append(sealOf(t, someKey, 5, pattern(n)), pattern(100)...)
		before := bytes.Clone(all)
		Open(someKey, 5, all[:n+16])
		Open(someKey, 6, all[:n+16])
		if !bytes.Equal(all, before) {
			t.Errorf("Open of %d bytes changed its argument", n+16)
		}
	}
}

// spoil a result, unused capacity included.
func spoil(b []byte) {
	b = b[:cap(b)]
	for i := range b {
		b[i] ^= 255
	}
}

// TestResultsAreNew covers P4.1 to P4.3 and the document's rules on memory and determinism.
func TestResultsAreNew(t *testing.T) {
	for _, n := range []int{0, 3, 32, longestPlain} {
		in, sealed := pattern(n), sealOf(t, someKey, 5, pattern(n))
		for _, c := range []struct {
			name string
			do   func() ([]byte, api.Errno)
		}{
			{"Stream", func() ([]byte, api.Errno) { return Stream(someKey, 5, n) }},
			{"Seal", func() ([]byte, api.Errno) { return Seal(someKey, 5, in) }},
			{"Open", func() ([]byte, api.Errno) { return Open(someKey, 5, sealed) }},
		} {
			first, _ := c.do()
			want := bytes.Clone(first)
			second, _ := c.do()
			spoil(first)
			third, err := c.do()
			if err != api.OK || !bytes.Equal(second, want) || !bytes.Equal(third, want) {
				t.Errorf("%s of %d bytes: a result shares memory with another one", c.name, n)
			}
			if !bytes.Equal(in, pattern(n)) || !bytes.Equal(sealed, sealOf(t, someKey, 5, pattern(n))) {
				t.Errorf("%s of %d bytes: a result shares memory with an argument", c.name, n)
			}
		}
	}
}
