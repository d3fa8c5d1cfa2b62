package sha

import (
	"bytes"
	"crypto/sha256"
	"encoding/binary"
	stdhex "encoding/hex"
	"math/big"
	"strings"
	"testing"

	"cattlecreep/api"
)

// pattern of n bytes that differ from place to place, so that a byte in a wrong place shows.
func pattern(n int) []byte {
	b := make([]byte, n)
	for i := range b {
		b[i] = byte(i*i*7 + i*31 + 5)
	}
	return b
}

// padded by the words of P2.1: zero bytes are added one by one until the length fits.
func padded(b []byte) []byte {
	out := append(bytes.Clone(b), 128)
	for (len(out)+8)%64 != 0 {
		out = append(out, 0)
	}
	return binary.BigEndian.AppendUint64(out, uint64(8*len(b)))
}

// TestPadExamples covers P2.1 with results that are written out.
func TestPadExamples(t *testing.T) {
	zeros := func(n int) string { return strings.Repeat("00", n) }
	for _, c := range []struct {
		in   []byte
		want string
	}{
		{nil, "80" + zeros(63)},
		{[]byte{}, "80" + zeros(63)},
		{[]byte("abc"), "61626380" + zeros(59) + "18"},
		{bytes.Repeat([]byte{1}, 55), strings.Repeat("01", 55) + "80" + zeros(6) + "01b8"},
		{bytes.Repeat([]byte{1}, 56), strings.Repeat("01", 56) + "80" + zeros(69) + "01c0"},
		{bytes.Repeat([]byte{1}, 63), strings.Repeat("01", 63) + "80" + zeros(62) + "01f8"},
		{bytes.Repeat([]byte{1}, 64), strings.Repeat("01", 64) + "80" + zeros(61) + "0200"},
		{bytes.Repeat([]byte{1}, 1000), strings.Repeat("01", 1000) + "80" + zeros(21) + "1f40"},
	} {
		got, err := Pad(c.in)
		if text := stdhex.EncodeToString(got); err != api.OK || text != c.want {
			t.Errorf("Pad of %d bytes = %s, %d, want %s, 0", len(c.in), text, err, c.want)
		}
	}
}

// TestPadEverySize covers P2.1 for each length within the limit.
func TestPadEverySize(t *testing.T) {
	for n := range api.MaxBytes + 1 {
		in := pattern(n)
		if got, err := Pad(in); err != api.OK || !bytes.Equal(got, padded(in)) {
			t.Errorf("Pad of %d bytes = %x, %d, want %x, 0", n, got, err, padded(in))
		}
	}
}

// TestSumExamples covers P2.2 with digests that FIPS 180-4's examples and the document tell.
func TestSumExamples(t *testing.T) {
	for _, c := range []struct{ in, want string }{
		{"", "e3b0c44298fc1c149afbf4c8996fb92427ae41e4649b934ca495991b7852b855"},
		{"abc", "ba7816bf8f01cfea414140de5dae2223b00361a396177a9cb410ff61f20015ad"},
		{"abcdbcdecdefdefgefghfghighijhijkijkljklmklmnlmnomnopnopq", "248d6a61d20638b8e5c026930c3e6039a33ce45964ff2167f6ecedd419db06c1"},
	} {
		got, err := Sum([]byte(c.in))
		if text := stdhex.EncodeToString(got); err != api.OK || text != c.want {
			t.Errorf("Sum(%q) = %s, %d, want %s, 0", c.in, text, err, c.want)
		}
	}
	if got, err := Sum(nil); err != api.OK || !bytes.HasPrefix(got, []byte{227, 176, 196, 66}) {
		t.Errorf("Sum(nil) = %v, %d", got, err)
	}
}

// TestSumEverySize covers P2.2 for each length within the limit, and several contents.
func TestSumEverySize(t *testing.T) {
	for n := range api.MaxBytes + 1 {
		for _, in := range [][]byte{pattern(n), make([]byte, n), bytes.Repeat([]byte{255}, n)} {
			want := sha256.Sum256(in)
			if got, err := Sum(in); err != api.OK || !bytes.Equal(got, want[:]) {
				t.Errorf("Sum of %d bytes = %x, %d, want %x, 0", n, got, err, want)
			}
		}
	}
}

// TestTooLong covers the errors of P2.1 and P2.2, and that no bytes come with them.
func TestTooLong(t *testing.T) {
	for _, n := range []int{api.MaxBytes + 1, 1024, 2 * api.MaxBytes, 100000} {
		if got, err := Pad(make([]byte, n)); err != api.ErrSize || len(got) != 0 {
			t.Errorf("Pad of %d bytes = %d bytes, %d, want none, 1", n, len(got), err)
		}
		if got, err := Sum(make([]byte, n)); err != api.ErrSize || len(got) != 0 {
			t.Errorf("Sum of %d bytes = %d bytes, %d, want none, 1", n, len(got), err)
		}
	}
}

// primes: the first n of them.
func primes(n int) []int64 {
	var list []int64
	for x := int64(2); len(list) < n; x++ {
		if big.NewInt(x).ProbablyPrime(0) {
			list = append(list, x)
		}
	}
	return list
}

// isRootOf tells whether 32 bits are the first ones of the fractional part of the root of p of a degree: with the root's whole part before them, they are the greatest number whose power is not beyond p.
func isRootOf(low uint32, p int64, degree int) bool {
	power := func(x int64) *big.Int {
		return new(big.Int).Exp(big.NewInt(x), big.NewInt(int64(degree)), nil)
	}
	whole := int64(0)
	for power(whole+1).Cmp(big.NewInt(p)) <= 0 {
		whole++
	}
	root := whole<<32 | int64(low)
	scaled := new(big.Int).Lsh(big.NewInt(p), uint(32*degree))
	return power(root).Cmp(scaled) <= 0 && power(root+1).Cmp(scaled) > 0
}

// TestConstants covers P2.2: where its constants come from.
func TestConstants(t *testing.T) {
	list := primes(rounds)
	for i, x := range firstWords {
		if !isRootOf(x, list[i], 2) {
			t.Errorf("state word %d is %08x, not of the square root of %d", i, x, list[i])
		}
	}
	for i, x := range roundWords {
		if !isRootOf(x, list[i], 3) {
			t.Errorf("round constant %d is %08x, not of the cube root of %d", i, x, list[i])
		}
	}
}

// TestArgumentsStay covers P2.1 and P2.2 and the document's rule on memory, unused capacity included.
func TestArgumentsStay(t *testing.T) {
	for _, n := range []int{0, 3, 55, 56, 64, 200} {
		all := pattern(400)
		Pad(all[:n])
		Sum(all[:n])
		if !bytes.Equal(all, pattern(400)) {
			t.Errorf("an argument of %d bytes was changed", n)
		}
	}
}

// spoil a result to the end of its capacity, so that whatever shares its memory shows it.
func spoil(b []byte) {
	b = b[:cap(b)]
	for i := range b {
		b[i] ^= 255
	}
}

// TestResultsAreNew covers P2.1 and P2.2 and the document's rule on memory.
func TestResultsAreNew(t *testing.T) {
	for name, f := range map[string]func([]byte) ([]byte, api.Errno){"Pad": Pad, "Sum": Sum} {
		for _, n := range []int{0, 55, 64, 128} {
			in := pattern(n)
			first, _ := f(in)
			want := bytes.Clone(first)
			second, _ := f(in)
			spoil(first)
			if !bytes.Equal(in, pattern(n)) || !bytes.Equal(second, want) {
				t.Errorf("%s of %d bytes: the result shares memory", name, n)
			}
			if third, _ := f(in); !bytes.Equal(third, want) {
				t.Errorf("%s of %d bytes: a later result depends on an earlier one", name, n)
			}
		}
	}
}
