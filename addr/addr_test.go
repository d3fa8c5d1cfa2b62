package addr

import (
	"fmt"
	"math"
	"math/rand"
	"strconv"
	"strings"
	"testing"

	"cattlecreep/api"
)

// The limits as numbers: MaxPort is 65535, and a number has at most five digits.
const (
	lastPort   = 65535
	lastNumber = 99999
)

// texts of addresses, with the addresses.
var texts = []struct {
	a    uint32
	text string
}{
	{0, "0.0.0.0"},
	{1, "0.0.0.1"},
	{9, "0.0.0.9"},
	{10, "0.0.0.10"},
	{99, "0.0.0.99"},
	{100, "0.0.0.100"},
	{255, "0.0.0.255"},
	{256, "0.0.1.0"},
	{65535, "0.0.255.255"},
	{65536, "0.1.0.0"},
	{1 << 24, "1.0.0.0"},
	{0x01020304, "1.2.3.4"},
	{0x04030201, "4.3.2.1"},
	{167772161, "10.0.0.1"},
	{0xc0a80164, "192.168.1.100"},
	{1<<31 - 1, "127.255.255.255"},
	{1 << 31, "128.0.0.0"},
	{math.MaxUint32 - 1, "255.255.255.254"},
	{math.MaxUint32, "255.255.255.255"},
}

// notAddresses are no results of Text.
var notAddresses = []string{
	"", " ", ".", "..", "...", "....", "1", "1.2", "1.2.3", "1.2.3.", ".1.2.3", "1..2.3", "1.2..3",
	"1.2.3.4.", ".1.2.3.4", "1.2.3.4.5", "1.2.3.4.5.6", "1..2.3.4", "1.2.3..4",
	"01.2.3.4", "1.02.3.4", "1.2.03.4", "1.2.3.04", "00.0.0.0", "0.0.0.00", "001.2.3.4", "1.2.3.000", "1.2.3.0255",
	"256.2.3.4", "1.256.3.4", "1.2.256.4", "1.2.3.256", "1.2.3.257", "1.2.3.260", "1.2.3.300", "1.2.3.512", "1.2.3.999",
	"1.2.3.1000", "1.2.3.65535", "1.2.3.99999", "1.2.3.100000", "1.2.3.4294967297", "1.2.3.18446744073709551617",
	"-1.2.3.4", "1.2.3.-4", "+1.2.3.4", "1.2.3.+4", "1.2.3.-0", "1.2.3.4e0", "0x1.2.3.4", "1.2.3.a", "a.b.c.d", "1_0.2.3.4",
	" 1.2.3.4", "1.2.3.4 ", "1. 2.3.4", "1.2.3.4\n", "1.2.3.4\x00", "\x001.2.3.4", "1.2.3.4\r", "\t1.2.3.4",
	"1,2,3,4", "1:2:3:4", "1.2.3:4", "1.2.3.4:5", "1.2.3.4/5", "16909060", "::1", "::ffff:1.2.3.4", "localhost",
	"１.2.3.4", "1.2.3.٤", "1。2。3。4", "\xff.2.3.4", "1.2.3.\xff", "1.2.3.²",
}

// checkParse of a text.
func checkParse(t *testing.T, s string, want uint32, wantErr api.Errno) {
	t.Helper()
	if got, err := Parse(s); got != want || err != wantErr {
		t.Errorf("Parse(%q) = %d, %d, want %d, %d", s, got, err, want, wantErr)
	}
}

// checkNumber of a text.
func checkNumber(t *testing.T, s string, most, want int, wantErr api.Errno) {
	t.Helper()
	if got, err := Number(s, most); got != want || err != wantErr {
		t.Errorf("Number(%q, %d) = %d, %d, want %d, %d", s, most, got, err, want, wantErr)
	}
}

// checkEnd of a text.
func checkEnd(t *testing.T, s string, wantAddr uint32, wantPort int, wantErr api.Errno) {
	t.Helper()
	if a, port, err := End(s); a != wantAddr || port != wantPort || err != wantErr {
		t.Errorf("End(%q) = %d, %d, %d, want %d, %d, %d", s, a, port, err, wantAddr, wantPort, wantErr)
	}
}

// checkBothWays: an address and its text, as fmt writes it.
func checkBothWays(t *testing.T, a uint32) {
	t.Helper()
	want := fmt.Sprintf("%d.%d.%d.%d", a>>24, a>>16&255, a>>8&255, a&255)
	if got := Text(a); got != want {
		t.Errorf("Text(%d) = %q, want %q", a, got, want)
	}
	checkParse(t, want, a, api.OK)
}

// TestText covers P6.1.
func TestText(t *testing.T) {
	for _, c := range texts {
		if got := Text(c.a); got != c.text {
			t.Errorf("Text(%d) = %q, want %q", c.a, got, c.text)
		}
	}
}

// TestParse covers P6.2 where there is no error.
func TestParse(t *testing.T) {
	for _, c := range texts {
		checkParse(t, c.text, c.a, api.OK)
	}
}

// TestParseErrors covers P6.2: what Text does not write is no address.
func TestParseErrors(t *testing.T) {
	for _, s := range notAddresses {
		checkParse(t, s, 0, api.ErrForm)
	}
	checkParse(t, strings.Repeat(".", 1<<20), 0, api.ErrForm)
	checkParse(t, strings.Repeat("1", 1<<20), 0, api.ErrForm)
	checkParse(t, strings.Repeat("1.", 1<<20), 0, api.ErrForm)
	checkParse(t, "1.2.3."+strings.Repeat("0", 1<<20)+"4", 0, api.ErrForm)
}

// TestEveryPart covers P6.1 and P6.2: each value of each of the four numbers, among least and among greatest ones.
func TestEveryPart(t *testing.T) {
	for shift := 0; shift < 32; shift += 8 {
		for x := range uint32(256) {
			checkBothWays(t, x<<shift)
			checkBothWays(t, math.MaxUint32&^(255<<shift)|x<<shift)
		}
	}
}

// TestManyAddresses covers P6.1 and P6.2 for addresses all over the range.
func TestManyAddresses(t *testing.T) {
	random := rand.New(rand.NewSource(6))
	for range 20000 {
		checkBothWays(t, random.Uint32())
	}
}

// TestParseInvertsText covers P6.2: a text of an address with one byte changed, put in or left out is one exactly if Text writes it.
func TestParseInvertsText(t *testing.T) {
	for _, text := range []string{"0.0.0.0", "1.2.3.4", "10.20.30.40", "25.25.25.25", "192.168.1.100", "255.255.255.255"} {
		for at := range len(text) + 1 {
			for x := range 256 {
				c := string([]byte{byte(x)})
				checkOnlyTexts(t, text[:at]+c+text[at:])
				if at < len(text) {
					checkOnlyTexts(t, text[:at]+c+text[at+1:])
				}
			}
			if at < len(text) {
				checkOnlyTexts(t, text[:at]+text[at+1:])
			}
		}
	}
}

// checkOnlyTexts: Parse accepts a text exactly if it is the one of the address that the loosely read numbers give.
func checkOnlyTexts(t *testing.T, s string) {
	t.Helper()
	var parts [4]uint32
	var rest string
	fmt.Sscanf(s, "%d.%d.%d.%d%s", &parts[0], &parts[1], &parts[2], &parts[3], &rest)
	for _, part := range parts {
		if part > 255 {
			checkParse(t, s, 0, api.ErrForm)
			return
		}
	}
	a := parts[0]<<24 | parts[1]<<16 | parts[2]<<8 | parts[3]
	if fmt.Sprintf("%d.%d.%d.%d", parts[0], parts[1], parts[2], parts[3]) == s {
		checkParse(t, s, a, api.OK)
	} else {
		checkParse(t, s, 0, api.ErrForm)
	}
}

// TestNumber covers P6.3 for every number of at most five digits, and limits around it.
func TestNumber(t *testing.T) {
	for n := range lastNumber + 1 {
		s := strconv.Itoa(n)
		for _, most := range []int{n, n + 1, lastNumber, math.MaxInt} {
			checkNumber(t, s, most, n, api.OK)
		}
		for _, most := range []int{n - 1, -1, -n - 1, math.MinInt} {
			checkNumber(t, s, most, 0, api.ErrForm)
		}
	}
}

// TestNumberDigits covers P6.3: six digits are too many, whatever the limit is, and a zero ahead is too.
func TestNumberDigits(t *testing.T) {
	for _, s := range []string{
		"100000", "100001", "123456", "999999", "1000000", "4294967296", "4294967297", "18446744073709551616", "18446744073709551617",
		"00", "01", "07", "09", "000", "001", "010", "0000", "00000", "00001", "01234", "09999", "000000", "000001", "012345", "099999",
		strings.Repeat("0", 1<<20), strings.Repeat("9", 1<<20),
	} {
		for _, most := range []int{-1, 0, 9, 255, lastPort, lastNumber, lastNumber + 1, 999999, math.MaxInt} {
			checkNumber(t, s, most, 0, api.ErrForm)
		}
	}
}

// TestNumberForm covers P6.3: what is not made of decimal digits is no number.
func TestNumberForm(t *testing.T) {
	for _, s := range []string{
		"", " ", "-", "+", "-0", "+0", "-1", "+1", "--1", " 1", "1 ", "1 2", "\t1", "1\n", "1\x00", "\x001",
		"1.0", "1.", ".1", "1,0", "1e1", "0x1", "0b1", "0o1", "x", "a", "A", "1a", "a1", "1_0", "1_00", "'1'",
		"１", "٤", "²", "1２", "\xb1", "\xff", "1\xff",
	} {
		for _, most := range []int{-1, 0, 9, lastPort, math.MaxInt} {
			checkNumber(t, s, most, 0, api.ErrForm)
		}
	}
}

// TestEveryByteInNumber covers P6.3: each value of a byte in each place of each length.
func TestEveryByteInNumber(t *testing.T) {
	for length := 1; length <= 6; length++ {
		for at := range length {
			for x := range 256 {
				b := []byte("123456"[:length])
				b[at] = byte(x)
				digit := strings.IndexByte("0123456789", byte(x))
				if digit < 0 || length == 6 || length > 1 && at == 0 && digit == 0 {
					checkNumber(t, string(b), math.MaxInt, 0, api.ErrForm)
					continue
				}
				want := 0
				for i := range length {
					if i == at {
						want = 10*want + digit
					} else {
						want = 10*want + i + 1
					}
				}
				checkNumber(t, string(b), math.MaxInt, want, api.OK)
			}
		}
	}
}

// TestEveryPort covers P6.4 for every port and for the numbers around them.
func TestEveryPort(t *testing.T) {
	for port := 1; port <= lastPort; port++ {
		checkEnd(t, "10.0.0.1:"+strconv.Itoa(port), 167772161, port, api.OK)
	}
	checkEnd(t, "10.0.0.1:0", 0, 0, api.ErrForm)
	for port := lastPort + 1; port <= lastNumber+100; port++ {
		checkEnd(t, "10.0.0.1:"+strconv.Itoa(port), 0, 0, api.ErrForm)
	}
}

// TestEndAddresses covers P6.4: each address is one of an endpoint, 0.0.0.0 too, and what is none makes none.
func TestEndAddresses(t *testing.T) {
	for _, c := range texts {
		checkEnd(t, c.text+":1", c.a, 1, api.OK)
		checkEnd(t, c.text+":65535", c.a, lastPort, api.OK)
		checkEnd(t, c.text, 0, 0, api.ErrForm)
		checkEnd(t, c.text+":", 0, 0, api.ErrForm)
		checkEnd(t, c.text+":0", 0, 0, api.ErrForm)
		checkEnd(t, c.text+":65536", 0, 0, api.ErrForm)
	}
	for _, s := range notAddresses {
		checkEnd(t, s+":80", 0, 0, api.ErrForm)
	}
}

// TestEndPorts covers P6.4: what is no Number is no port.
func TestEndPorts(t *testing.T) {
	for _, tail := range []string{
		"", "0", "00", "000", "080", "0080", "00080", "01", "065535", "100000", "4294967376", "18446744073709551696",
		"-1", "-80", "+80", " 80", "80 ", "80\n", "80\x00", "\x0080", "8 0", "8.0", "80.", "0x50", "8e1", "http", "a", "80a", "8_0", "８０", "\xff",
		":80", "80:", "80:80", "80:1.2.3.4", ":", "::", "/80", "80/16",
	} {
		checkEnd(t, "10.0.0.1:"+tail, 0, 0, api.ErrForm)
	}
}

// TestEndForm covers P6.4: an endpoint is an address, one colon, and a port, in this order.
func TestEndForm(t *testing.T) {
	for _, s := range []string{
		"", ":", "::", ":80", "80", "80:", "10.0.0.1", "10.0.0.1 80", "10.0.0.1.80", "10.0.0.1;80", "10.0.0.1/80", "10.0.0.1：80",
		"80:10.0.0.1", ":10.0.0.1:80", " 10.0.0.1:80", "10.0.0.1 :80", "10.0.0.1: 80", "10.0.0.1:80 ", "10.0.0.1:80\n",
		"[10.0.0.1]:80", "[::1]:80", "::1:80", "localhost:80", "10.0.0.1:80,10.0.0.2:80", "10.0.0.1:80:80", "10.0.0.1::80",
		strings.Repeat(":", 1<<20), "10.0.0.1:" + strings.Repeat("8", 1<<20), strings.Repeat("1.", 1<<20) + ":80",
	} {
		checkEnd(t, s, 0, 0, api.ErrForm)
	}
	checkEnd(t, "10.0.0.1:80", 167772161, 80, api.OK)
	checkEnd(t, "1.2.3.4:80", 0x01020304, 80, api.OK)
}
