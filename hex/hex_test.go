package hex

import (
	"bytes"
	stdhex "encoding/hex"
	"strings"
	"testing"

	"cattlecreep/api"
)

// everyByte is each value of a byte once, in order.
func everyByte() []byte {
	b := make([]byte, 256)
	for i := range b {
		b[i] = byte(i)
	}
	return b
}

// TestText covers P1.1.
func TestText(t *testing.T) {
	for _, c := range []struct {
		in   []byte
		want string
	}{
		{nil, ""},
		{[]byte{}, ""},
		{[]byte{0}, "00"},
		{[]byte{1, 171}, "01ab"},
		{[]byte{0x0f, 0xf0}, "0ff0"},
		{[]byte{0x01, 0x23, 0x45, 0x67, 0x89, 0xab, 0xcd, 0xef}, "0123456789abcdef"},
		{[]byte{255, 255}, "ffff"},
	} {
		if got := Text(c.in); got != c.want {
			t.Errorf("Text(%v) = %q, want %q", c.in, got, c.want)
		}
	}
	if got, want := Text(everyByte()), stdhex.EncodeToString(everyByte()); got != want {
		t.Errorf("Text of every byte = %q, want %q", got, want)
	}
}

// TestTextHasNoLimit covers P1.1: only Bytes has a limit.
func TestTextHasNoLimit(t *testing.T) {
	n := 3*api.MaxBytes + 1
	if got, want := Text(bytes.Repeat([]byte{0xc5}, n)), strings.Repeat("c5", n); got != want {
		t.Errorf("Text of %d bytes has %d digits, want %d", n, len(got), len(want))
	}
}

// TestTextLeavesItsArgument covers P1.1 and the document's rule on memory, unused capacity included.
func TestTextLeavesItsArgument(t *testing.T) {
	all := everyByte()
	Text(all[:3])
	if !bytes.Equal(all, everyByte()) {
		t.Error("Text changed its argument")
	}
}

// TestBytes covers P1.2 where there is no error.
func TestBytes(t *testing.T) {
	for _, c := range []struct {
		in   string
		want []byte
	}{
		{"", nil},
		{"00", []byte{0}},
		{"01ab", []byte{1, 171}},
		{"f00f", []byte{0xf0, 0x0f}},
		{"0123456789abcdef", []byte{0x01, 0x23, 0x45, 0x67, 0x89, 0xab, 0xcd, 0xef}},
	} {
		if got, err := Bytes(c.in); err != api.OK || !bytes.Equal(got, c.want) {
			t.Errorf("Bytes(%q) = %v, %d, want %v, 0", c.in, got, err, c.want)
		}
	}
}

// TestBytesInvertsText covers P1.2 for every byte in both places.
func TestBytesInvertsText(t *testing.T) {
	for x := range 256 {
		for _, b := range [][]byte{{byte(x)}, {byte(x), 7}, {7, byte(x)}} {
			if got, err := Bytes(Text(b)); err != api.OK || !bytes.Equal(got, b) {
				t.Errorf("Bytes(Text(%v)) = %v, %d", b, got, err)
			}
		}
	}
}

// TestBytesErrors covers P1.2: the errors, their order, and that no bytes come with them.
func TestBytesErrors(t *testing.T) {
	limit := 2 * api.MaxBytes
	for _, c := range []struct {
		name, in string
		want     api.Errno
	}{
		{"limit", strings.Repeat("9", limit), api.OK},
		{"one beyond", strings.Repeat("9", limit+1), api.ErrSize},
		{"two beyond", strings.Repeat("9", limit+2), api.ErrSize},
		{"beyond, and no digits", strings.Repeat("x", limit+1), api.ErrSize},
		{"one below", strings.Repeat("9", limit-1), api.ErrForm},
		{"limit, last no digit", strings.Repeat("9", limit-1) + "g", api.ErrForm},
		{"one digit", "0", api.ErrForm},
		{"three digits", "abc", api.ErrForm},
		{"capitals", "01AB", api.ErrForm},
		{"capital first", "A1", api.ErrForm},
		{"capital second", "1A", api.ErrForm},
		{"prefix", "0x01", api.ErrForm},
		{"space before", " 01a", api.ErrForm},
		{"newline after", "01a\n", api.ErrForm},
		{"sign", "-1", api.ErrForm},
		{"two bytes of one rune", "é", api.ErrForm},
		{"no rune", "\xff\xfe", api.ErrForm},
	} {
		got, err := Bytes(c.in)
		if err != c.want {
			t.Errorf("%s: error %d, want %d", c.name, err, c.want)
		}
		if err != api.OK && len(got) != 0 {
			t.Errorf("%s: %v together with error %d", c.name, got, err)
		}
	}
}

// TestBytesAreNew covers P1.2 and the document's rule on memory.
func TestBytesAreNew(t *testing.T) {
	first, _ := Bytes("01ab")
	second, _ := Bytes("01ab")
	if len(first) != 2 || len(second) != 2 {
		t.Fatalf("Bytes returned %v and %v", first, second)
	}
	first[0] = 9
	if second[0] != 1 {
		t.Error("two results share memory")
	}
}

// isDigit says which bytes are digits by listing them, apart from how the package decides it.
func isDigit(c byte) bool {
	return strings.IndexByte("0123456789abcdef", c) >= 0
}

// TestEveryByteAsDigit covers P1.2 and P1.3: each value of a byte, first, in the middle and last.
func TestEveryByteAsDigit(t *testing.T) {
	for x := range 256 {
		want := api.ErrForm
		if isDigit(byte(x)) {
			want = api.OK
		}
		for _, at := range []int{0, 1, 31, 32, 62, 63} {
			b := bytes.Repeat([]byte{'0'}, 64)
			b[at] = byte(x)
			if err := Check(string(b)); err != want {
				t.Errorf("Check with byte %d at %d: %d, want %d", x, at, err, want)
			}
			if _, err := Bytes(string(b)); err != want {
				t.Errorf("Bytes with byte %d at %d: %d, want %d", x, at, err, want)
			}
		}
	}
}

// TestCheck covers P1.3.
func TestCheck(t *testing.T) {
	for _, c := range []struct {
		name, in string
		want     api.Errno
	}{
		{"all digits", strings.Repeat("0123456789abcdef", 4), api.OK},
		{"zeros", strings.Repeat("0", 64), api.OK},
		{"empty", "", api.ErrSize},
		{"short", strings.Repeat("a", 63), api.ErrSize},
		{"long", strings.Repeat("a", 65), api.ErrSize},
		{"double", strings.Repeat("a", 128), api.ErrSize},
		{"half", strings.Repeat("a", 32), api.ErrSize},
		{"short, and no digits", strings.Repeat("g", 63), api.ErrSize},
		{"long, and no digits", strings.Repeat("g", 65), api.ErrSize},
		{"capitals", strings.Repeat("A", 64), api.ErrForm},
		{"no digits", strings.Repeat("g", 64), api.ErrForm},
		{"64 bytes of 32 runes", strings.Repeat("é", 32), api.ErrForm},
		{"64 runes of 128 bytes", strings.Repeat("é", 64), api.ErrSize},
	} {
		if err := Check(c.in); err != c.want {
			t.Errorf("%s: %d, want %d", c.name, err, c.want)
		}
	}
}
