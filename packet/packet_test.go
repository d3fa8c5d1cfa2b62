package packet

import (
	"bytes"
	"encoding/binary"
	"math"
	"math/rand"
	"testing"

	"cattlecreep/api"
)

// The limits as numbers: MaxData is 200, and a head has 20 bytes.
const (
	longestData   = 200
	headBytes     = 20
	longestPacket = 220
)

// addresses have each of their bytes set in turn, so that a byte in a wrong place shows.
var addresses = []uint32{
	0, 1, 255, 256, 1 << 16, 1 << 24, 1 << 31, 0x01020304, 0x0a010001, 0x0a020001, 0xfffe0001, 0xfffffffe, math.MaxUint32,
}

// pattern of n bytes that differ from place to place.
func pattern(n int) []byte {
	b := make([]byte, n)
	for i := range b {
		b[i] = byte(i*i*7 + i*31 + 5)
	}
	return b
}

// encoded is what Encode is to return, by the words of the chapter and the standard library.
func encoded(src, dst uint32, data []byte) []byte {
	b := []byte{69, 0}
	b = binary.BigEndian.AppendUint16(b, uint16(headBytes+len(data)))
	b = append(b, 0, 0, 0, 0, 64, 253, 0, 0)
	b = binary.BigEndian.AppendUint32(b, src)
	b = binary.BigEndian.AppendUint32(b, dst)
	binary.BigEndian.PutUint16(b[10:], uint16(65535-folded(b)))
	return append(b, data...)
}

// folded sum of the ten numbers of a head. It is the sum modulo 65535, but 65535 in place of 0, since 65536 leaves the remainder 1 and no head is all zeros.
func folded(head []byte) int {
	sum := 0
	for i := range 10 {
		sum += int(binary.BigEndian.Uint16(head[2*i:]))
	}
	return (sum-1)%65535 + 1
}

// checkBoth: a packet and its bytes become each other.
func checkBoth(t *testing.T, src, dst uint32, data, want []byte) {
	t.Helper()
	got, err := Encode(api.Packet{Src: src, Dst: dst, Data: data})
	if err != api.OK || !bytes.Equal(got, want) {
		t.Errorf("Encode(%x, %x, %x) = %x, %d, want %x, 0", src, dst, data, got, err, want)
	}
	p, err := Decode(want)
	if err != api.OK || p.Src != src || p.Dst != dst || !bytes.Equal(p.Data, data) {
		t.Errorf("Decode(%x) = %v, %d, want %x, %x, %x, 0", want, p, err, src, dst, data)
	}
}

// checkRefused: Decode has an error, and nothing comes with it.
func checkRefused(t *testing.T, b []byte, want api.Errno) {
	t.Helper()
	if p, err := Decode(b); err != want || p.Src != 0 || p.Dst != 0 || len(p.Data) != 0 {
		t.Errorf("Decode(%x) = %v, %d, want none, %d", b, p, err, want)
	}
}

// TestCheck covers P9.1 for each length around the limit, whatever the addresses.
func TestCheck(t *testing.T) {
	for n := range longestData + 60 {
		want := api.OK
		if n > longestData {
			want = api.ErrSize
		}
		for _, a := range addresses {
			if err := Check(api.Packet{Src: a, Dst: ^a, Data: pattern(n)}); err != want {
				t.Errorf("Check of %d bytes from %x = %d, want %d", n, a, err, want)
			}
		}
	}
	for _, data := range [][]byte{nil, {}, make([]byte, 0, 1000), make([]byte, longestData, 1000)} {
		if err := Check(api.Packet{Data: data}); err != api.OK {
			t.Errorf("Check of %d bytes with room for %d = %d, want 0", len(data), cap(data), err)
		}
	}
	if err := Check(api.Packet{Data: make([]byte, 1<<20)}); err != api.ErrSize {
		t.Errorf("Check of 2^20 bytes = %d, want 1", err)
	}
}

// TestExamples covers P9.2 and P9.3 with encodings that are written out; the sums are worked out by hand.
func TestExamples(t *testing.T) {
	for _, c := range []struct {
		src, dst   uint32
		data, want []byte
	}{
		// 17664 + 20 + 16637 + 2561 + 1 + 2562 + 1 = 39446, and 65535 - 39446 = 26089.
		{0x0a010001, 0x0a020001, nil, []byte{69, 0, 0, 20, 0, 0, 0, 0, 64, 253, 101, 233, 10, 1, 0, 1, 10, 2, 0, 1}},
		{1, 2, []byte("a"), []byte{69, 0, 0, 21, 0, 0, 0, 0, 64, 253, 121, 234, 0, 0, 0, 1, 0, 0, 0, 2, 97}},
		// 17664 + 20 + 16637 + 31214 = 65535, which is not replaced: the checksum is 0.
		{0, 0x79ee, nil, []byte{69, 0, 0, 20, 0, 0, 0, 0, 64, 253, 0, 0, 0, 0, 0, 0, 0, 0, 0x79, 0xee}},
		// One more is 65536, which becomes 1: the checksum is 65534.
		{0, 0x79ef, nil, []byte{69, 0, 0, 20, 0, 0, 0, 0, 64, 253, 255, 254, 0, 0, 0, 0, 0, 0, 0x79, 0xef}},
		// 34321 + 65535 + 31215 = 131071, which becomes 65536, which becomes 1.
		{0xffff, 0x79ef, nil, []byte{69, 0, 0, 20, 0, 0, 0, 0, 64, 253, 255, 254, 0, 0, 255, 255, 0, 0, 0x79, 0xef}},
		// 34321 + 4 * 65535 = 296461, which becomes 34321.
		{math.MaxUint32, math.MaxUint32, nil, []byte{69, 0, 0, 20, 0, 0, 0, 0, 64, 253, 121, 238, 255, 255, 255, 255, 255, 255, 255, 255}},
	} {
		checkBoth(t, c.src, c.dst, c.data, c.want)
	}
}

// TestEverySize covers P9.2 and P9.3 for each length of data, none included, between edge addresses.
func TestEverySize(t *testing.T) {
	for n := range longestData + 1 {
		data := pattern(n)
		for _, src := range addresses {
			for _, dst := range addresses {
				checkBoth(t, src, dst, data, encoded(src, dst, data))
			}
		}
	}
}

// TestEverySum covers the checksum of P9.2 and P9.3 for each sum that the numbers of a head may have, so wherever it is replaced, once or twice.
func TestEverySum(t *testing.T) {
	for rest := range 4*65535 + 1 {
		var words [4]uint32
		for i, left := 0, rest; i < 4; i++ {
			words[i] = uint32(min(left, 65535))
			left -= int(words[i])
		}
		src, dst := words[0]<<16|words[1], words[2]<<16|words[3]
		checkBoth(t, src, dst, nil, encoded(src, dst, nil))
	}
}

// TestRandomPackets covers P9.2 and P9.3 for packets of all kinds; data of any bytes does not count in the checksum.
func TestRandomPackets(t *testing.T) {
	r := rand.New(rand.NewSource(9))
	for range 20000 {
		src, dst := r.Uint32(), r.Uint32()
		data := make([]byte, r.Intn(longestData+1))
		r.Read(data)
		checkBoth(t, src, dst, data, encoded(src, dst, data))
	}
}

// TestEncodeErrors covers the error of P9.2: that of Check, and nothing comes with it.
func TestEncodeErrors(t *testing.T) {
	for _, n := range []int{longestData + 1, longestData + 2, longestPacket, longestPacket + 1, 256, 65516, 65536, 1 << 20} {
		for _, a := range addresses {
			if got, err := Encode(api.Packet{Src: a, Dst: a, Data: make([]byte, n)}); err != api.ErrSize || len(got) != 0 {
				t.Errorf("Encode of %d bytes from %x = %x, %d, want none, 1", n, a, got, err)
			}
		}
	}
}

// TestDecodeSizes covers ErrShort and ErrSize of P9.3: both come ahead of ErrForm, for zeros as for bytes that begin or go on as a packet does.
func TestDecodeSizes(t *testing.T) {
	longest := encoded(0x0a010001, 0x0a020001, pattern(longestData))
	checkRefused(t, nil, api.ErrShort)
	for n := range headBytes {
		checkRefused(t, make([]byte, n), api.ErrShort)
		checkRefused(t, longest[:n], api.ErrShort)
	}
	for n := headBytes; n <= longestPacket; n++ {
		checkRefused(t, make([]byte, n), api.ErrForm)
	}
	for _, more := range []int{1, 2, 20, 36, 65536, 1 << 20} {
		checkRefused(t, make([]byte, longestPacket+more), api.ErrSize)
		checkRefused(t, append(bytes.Clone(longest), make([]byte, more)...), api.ErrSize)
	}
	// Its length and its checksum are right, but it is no result of Encode.
	checkRefused(t, encoded(1, 2, pattern(longestData+1)), api.ErrSize)
}

// TestDecodeForm covers ErrForm of P9.3: another value of a byte of the head is refused, and of a byte of the data is other data.
func TestDecodeForm(t *testing.T) {
	for _, n := range []int{0, 1, 2, 100, longestData} {
		data := pattern(n)
		whole := encoded(0x0a010001, 0xc0a80203, data)
		for i := range whole {
			for change := 1; change < 256; change++ {
				b := bytes.Clone(whole)
				b[i] ^= byte(change)
				if i < headBytes {
					checkRefused(t, b, api.ErrForm)
				} else {
					checkBoth(t, 0x0a010001, 0xc0a80203, b[headBytes:], b)
				}
			}
		}
	}
}

// TestDecodeChecksum covers ErrForm of P9.3: of all checksums, Decode takes the one that Encode gives alone, so not 65535 where it is 0.
func TestDecodeChecksum(t *testing.T) {
	for _, dst := range []uint32{0x79ee, 0x79ef, 0x0a020001} {
		whole := encoded(0, dst, nil)
		for sum := range 65536 {
			b := bytes.Clone(whole)
			binary.BigEndian.PutUint16(b[10:], uint16(sum))
			if bytes.Equal(b, whole) {
				checkBoth(t, 0, dst, nil, b)
			} else {
				checkRefused(t, b, api.ErrForm)
			}
		}
	}
}

// TestDecodeRightChecksum covers ErrForm of P9.3 for heads that Encode does not make, though their checksums are right.
func TestDecodeRightChecksum(t *testing.T) {
	for _, place := range []int{0, 1, 2, 3, 4, 5, 6, 7, 8, 9} {
		for change := 1; change < 256; change++ {
			b := encoded(0x0a010001, 0x0a020001, pattern(30))
			b[place] ^= byte(change)
			b[10], b[11] = 0, 0
			binary.BigEndian.PutUint16(b[10:], uint16(65535-folded(b)))
			checkRefused(t, b, api.ErrForm)
		}
	}
}

// TestDecodeLength covers ErrForm of P9.3: bytes are missing at the end, or there are more of them than the head says.
func TestDecodeLength(t *testing.T) {
	for size := headBytes; size <= longestPacket; size++ {
		whole := encoded(0x0a010001, 0x0a020001, make([]byte, size-headBytes))
		for n := headBytes; n <= longestPacket; n++ {
			b := append(bytes.Clone(whole), make([]byte, longestPacket-size)...)[:n]
			if n == size {
				checkBoth(t, 0x0a010001, 0x0a020001, b[headBytes:], b)
			} else {
				checkRefused(t, b, api.ErrForm)
			}
		}
	}
}

// spoil all of a list that can be reached.
func spoil(b []byte) {
	b = b[:cap(b)]
	for i := range b {
		b[i] ^= 0xff
	}
}

// roomy: the bytes, and room behind them that holds other bytes.
func roomy(b []byte) []byte {
	return append(bytes.Clone(b), pattern(300)...)[:len(b)]
}

// withRoom: a copy of all of a list, its unused room included.
func withRoom(b []byte) []byte {
	return bytes.Clone(b[:cap(b)])
}

// TestEncodeMemory covers the rules of memory for P9.1 and P9.2.
func TestEncodeMemory(t *testing.T) {
	for n := range longestData + 2 {
		p := api.Packet{Src: 1, Dst: 2, Data: roomy(pattern(n))}
		before := withRoom(p.Data)
		Check(p)
		one, _ := Encode(p)
		two, _ := Encode(p)
		kept := bytes.Clone(two)
		spoil(one)
		if !bytes.Equal(two, kept) {
			t.Errorf("two results of Encode of %d bytes share memory", n)
		}
		spoil(two)
		if !bytes.Equal(withRoom(p.Data), before) {
			t.Errorf("Encode of %d bytes changes or shares its argument", n)
		}
	}
}

// TestDecodeMemory covers the rules of memory for P9.3, with bytes that it takes and bytes that it refuses.
func TestDecodeMemory(t *testing.T) {
	for n := range longestPacket + 2 {
		for _, b := range [][]byte{roomy(make([]byte, n)), roomy(encoded(1, 2, pattern(n))), roomy(encoded(1, 2, pattern(n)))[:n]} {
			before := withRoom(b)
			one, _ := Decode(b)
			two, _ := Decode(b)
			kept := bytes.Clone(two.Data)
			spoil(one.Data)
			if !bytes.Equal(two.Data, kept) {
				t.Errorf("two results of Decode of %d bytes share memory", len(b))
			}
			spoil(two.Data)
			if !bytes.Equal(withRoom(b), before) {
				t.Errorf("Decode of %d bytes changes or shares its argument", len(b))
			}
		}
	}
}
