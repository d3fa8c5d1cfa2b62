package wire

import (
	"bytes"
	"encoding/binary"
	"math"
	"math/rand"
	"testing"

	"cattlecreep/api"
)

// The types and the limits as numbers: MaxIndex is 2^32 - 1, MaxCounter is 2^40, and MaxData is 200.
const (
	hello  = 1
	answer = 2
	data   = 4

	lastIndex   = 1<<32 - 1
	lastCounter = 1 << 40
	longestBody = 236
)

// types of messages.
var types = []int{hello, answer, data}

// noTypes: numbers that are no types, among them those of which a part would be one.
var noTypes = []int{
	0, 3, 5, 6, 7, 8, 9, 127, 128, 255, 256, 257, 258, 260, 1<<16 + 1, 1<<32 + 1, 1<<32 + 2, 1<<32 + 4,
	-1, -2, -3, -4, -255, -252, math.MinInt, math.MinInt + 1, math.MinInt + 4, math.MaxInt,
}

// indices have each of their bytes set in turn, so that a byte in a wrong place shows.
var indices = []int{0, 1, 2, 127, 128, 255, 256, 258, 1 << 16, 1 << 24, 1 << 31, 0x01020304, 0x04030201, 0xfeff0001, lastIndex - 1, lastIndex}

// counters: likewise.
var counters = []int{
	0, 1, 2, 255, 256, 1 << 16, 1 << 24, 1 << 31, 1 << 32, 0x0102030405, 0xff01020304, lastIndex, lastIndex + 2, lastCounter - 1, lastCounter,
}

// noIndices are out of the range, though the four bytes of some would be in it.
var noIndices = []int{-1, -2, -255, -256, -1 << 31, -1 << 32, -1<<32 + 1, math.MinInt, math.MinInt + 1, lastIndex + 1, lastIndex + 2, lastCounter, math.MaxInt - 1, math.MaxInt}

// noCounters: likewise.
var noCounters = []int{-1, -2, -255, -1 << 32, -1 << 40, math.MinInt, math.MinInt + 1, lastCounter + 1, lastCounter + 2, 1 << 41, 1 << 48, 1 << 62, math.MaxInt - 1, math.MaxInt}

// pattern of n bytes that differ from place to place.
func pattern(n int) []byte {
	b := make([]byte, n)
	for i := range b {
		b[i] = byte(i*i*7 + i*31 + 5)
	}
	return b
}

// has: which of the fields Sender, Receiver and Counter a type has.
func has(kind int) (sender, receiver, counter bool) {
	return kind == hello || kind == answer, kind == answer || kind == data, kind == data
}

// sizes of a body: the least and the greatest one.
func sizes(kind int) (least, most int) {
	return map[int]int{hello: 32, answer: 24, data: 16}[kind], map[int]int{hello: 32, answer: 24, data: longestBody}[kind]
}

// headBytes: how many bytes stand ahead of the body.
func headBytes(kind int) int {
	return map[int]int{hello: 8, answer: 12, data: 16}[kind]
}

// right message of a type, with the numbers that the type has.
func right(kind, sender, receiver, counter int, body []byte) api.Message {
	m := api.Message{Type: kind, Body: body}
	hasSender, hasReceiver, hasCounter := has(kind)
	if hasSender {
		m.Sender = sender
	}
	if hasReceiver {
		m.Receiver = receiver
	}
	if hasCounter {
		m.Counter = counter
	}
	return m
}

// plain message of a type that nothing is wrong with.
func plain(kind int) api.Message {
	least, _ := sizes(kind)
	return right(kind, 7, 8, 9, pattern(least))
}

// encoded is what Encode is to return, by the words of the chapter and the standard library; m need not be right.
func encoded(m api.Message) []byte {
	b := []byte{byte(m.Type), 0, 0, 0}
	sender, receiver, counter := has(m.Type)
	if sender {
		b = binary.LittleEndian.AppendUint32(b, uint32(m.Sender))
	}
	if receiver {
		b = binary.LittleEndian.AppendUint32(b, uint32(m.Receiver))
	}
	if counter {
		b = binary.LittleEndian.AppendUint64(b, uint64(m.Counter))
	}
	return append(b, m.Body...)
}

// same message?
func same(a, b api.Message) bool {
	return a.Type == b.Type && a.Sender == b.Sender && a.Receiver == b.Receiver && a.Counter == b.Counter && bytes.Equal(a.Body, b.Body)
}

// checkBoth: nothing is wrong with a message, and it and its bytes become each other.
func checkBoth(t *testing.T, m api.Message, want []byte) {
	t.Helper()
	if err := Check(m); err != api.OK {
		t.Errorf("Check(%v) = %d, want 0", m, err)
	}
	if got, err := Encode(m); err != api.OK || !bytes.Equal(got, want) {
		t.Errorf("Encode(%v) = %x, %d, want %x, 0", m, got, err, want)
	}
	if got, err := Decode(want); err != api.OK || !same(got, m) {
		t.Errorf("Decode(%x) = %v, %d, want %v, 0", want, got, err, m)
	}
}

// checkWrong: Check and Encode have an error, and nothing comes with it.
func checkWrong(t *testing.T, m api.Message, want api.Errno) {
	t.Helper()
	if err := Check(m); err != want {
		t.Errorf("Check(%v) = %d, want %d", m, err, want)
	}
	if got, err := Encode(m); err != want || len(got) != 0 {
		t.Errorf("Encode(%v) = %x, %d, want none, %d", m, got, err, want)
	}
}

// checkRefused: Decode has an error, and nothing comes with it.
func checkRefused(t *testing.T, b []byte, want api.Errno) {
	t.Helper()
	if m, err := Decode(b); err != want || m.Type != 0 || m.Sender != 0 || m.Receiver != 0 || m.Counter != 0 || len(m.Body) != 0 {
		t.Errorf("Decode(%x) = %v, %d, want none, %d", b, m, err, want)
	}
}

// TestExamples covers P10.2 and P10.3 with heads that are written out.
func TestExamples(t *testing.T) {
	for _, c := range []struct {
		m    api.Message
		head []byte
	}{
		{api.Message{Type: hello, Sender: 0x01020304, Body: pattern(32)}, []byte{1, 0, 0, 0, 4, 3, 2, 1}},
		{api.Message{Type: answer, Sender: 0x01020304, Receiver: 0xfffefdfc, Body: pattern(24)}, []byte{2, 0, 0, 0, 4, 3, 2, 1, 0xfc, 0xfd, 0xfe, 0xff}},
		{api.Message{Type: data, Receiver: 1, Counter: 2, Body: pattern(16)}, []byte{4, 0, 0, 0, 1, 0, 0, 0, 2, 0, 0, 0, 0, 0, 0, 0}},
		{api.Message{Type: data, Receiver: lastIndex, Counter: 0xa1b2c3d4e5, Body: pattern(longestBody)}, []byte{4, 0, 0, 0, 255, 255, 255, 255, 0xe5, 0xd4, 0xc3, 0xb2, 0xa1, 0, 0, 0}},
		{api.Message{Type: data, Counter: lastCounter, Body: pattern(17)}, []byte{4, 0, 0, 0, 0, 0, 0, 0, 0, 0, 0, 0, 0, 1, 0, 0}},
		{api.Message{Type: hello, Body: make([]byte, 32)}, []byte{1, 0, 0, 0, 0, 0, 0, 0}},
	} {
		checkBoth(t, c.m, append(bytes.Clone(c.head), c.m.Body...))
	}
}

// TestNumbers covers P10.1 to P10.3 for edge numbers of the fields that a type has.
func TestNumbers(t *testing.T) {
	for _, kind := range types {
		least, _ := sizes(kind)
		for _, sender := range indices {
			for _, receiver := range indices {
				for _, counter := range counters {
					m := right(kind, sender, receiver, counter, pattern(least))
					checkBoth(t, m, encoded(m))
				}
			}
		}
	}
}

// TestSizes covers P10.1 to P10.3 for each length of a body, and ErrSize for the wrong ones.
func TestSizes(t *testing.T) {
	for _, kind := range types {
		least, most := sizes(kind)
		for n := range longestBody + 60 {
			m := right(kind, 1, 2, 3, pattern(n))
			if n >= least && n <= most {
				checkBoth(t, m, encoded(m))
			} else {
				checkWrong(t, m, api.ErrSize)
				checkRefused(t, encoded(m), api.ErrSize)
			}
		}
		for _, n := range []int{256 + least, 256 + most, 65536 + least, 65536 + most, 1 << 20} {
			m := right(kind, 1, 2, 3, make([]byte, n))
			checkWrong(t, m, api.ErrSize)
			checkRefused(t, encoded(m), api.ErrSize)
		}
		for _, body := range [][]byte{nil, {}, make([]byte, 0, 100)} {
			checkWrong(t, right(kind, 1, 2, 3, body), api.ErrSize)
		}
	}
}

// TestRandomMessages covers P10.2 and P10.3 for messages of all kinds.
func TestRandomMessages(t *testing.T) {
	r := rand.New(rand.NewSource(10))
	for range 30000 {
		kind := types[r.Intn(len(types))]
		least, most := sizes(kind)
		body := make([]byte, least+r.Intn(most-least+1))
		r.Read(body)
		m := right(kind, int(r.Uint32()), int(r.Uint32()), r.Intn(lastCounter+1), body)
		checkBoth(t, m, encoded(m))
	}
}

// TestKinds covers ErrKind of P10.1 and P10.2: it comes ahead of whatever else is wrong.
func TestKinds(t *testing.T) {
	for _, kind := range noTypes {
		for _, n := range []int{0, 16, 24, 32, 100, longestBody, longestBody + 1} {
			for _, x := range []int{0, 1, -1, lastCounter + 1, math.MinInt} {
				checkWrong(t, api.Message{Type: kind, Body: make([]byte, n)}, api.ErrKind)
				checkWrong(t, api.Message{Type: kind, Sender: x, Receiver: x, Counter: x, Body: make([]byte, n)}, api.ErrKind)
			}
		}
	}
}

// TestForm covers ErrForm of P10.1 and P10.2: a field that the type does not have is set, whatever else is wrong.
func TestForm(t *testing.T) {
	set := append(append([]int{1, 2, 255, 256, 1 << 31, lastIndex}, noIndices...), noCounters...)
	for _, kind := range types {
		sender, receiver, counter := has(kind)
		wrong := right(kind, -1, lastIndex+1, lastCounter+1, nil)
		for _, m := range []api.Message{plain(kind), wrong, right(kind, 0, 0, 0, nil)} {
			for _, x := range set {
				if !sender {
					lone := m
					lone.Sender = x
					checkWrong(t, lone, api.ErrForm)
				}
				if !receiver {
					lone := m
					lone.Receiver = x
					checkWrong(t, lone, api.ErrForm)
				}
				if !counter {
					lone := m
					lone.Counter = x
					checkWrong(t, lone, api.ErrForm)
				}
			}
		}
	}
}

// TestRange covers ErrRange of P10.1 and P10.2 for each field that a type has: it comes ahead of ErrSize.
func TestRange(t *testing.T) {
	for _, kind := range types {
		least, most := sizes(kind)
		sender, receiver, counter := has(kind)
		for _, n := range []int{least, most, 0, least - 1, most + 1} {
			for _, x := range noIndices {
				if sender {
					checkWrong(t, right(kind, x, 2, 3, make([]byte, n)), api.ErrRange)
				}
				if receiver {
					checkWrong(t, right(kind, 1, x, 3, make([]byte, n)), api.ErrRange)
				}
			}
			for _, x := range noCounters {
				if counter {
					checkWrong(t, right(kind, 1, 2, x, make([]byte, n)), api.ErrRange)
				}
			}
		}
	}
}

// TestDecodeShort covers the first ErrShort of P10.3: fewer than four bytes, whatever they are.
func TestDecodeShort(t *testing.T) {
	checkRefused(t, nil, api.ErrShort)
	for n := range 4 {
		for first := range 256 {
			checkRefused(t, []byte{byte(first), 0, 0, 0, 0, 0, 0, 0}[:n], api.ErrShort)
			checkRefused(t, []byte{byte(first), 1, 1, 1, 1, 1, 1, 1}[:n], api.ErrShort)
		}
	}
}

// TestDecodeKind covers ErrKind of P10.3 for each first byte: it comes ahead of ErrForm, and of the second ErrShort.
func TestDecodeKind(t *testing.T) {
	for first := range 256 {
		if first == hello || first == answer || first == data {
			continue
		}
		for _, n := range []int{4, 5, 8, 12, 16, 32, 36, 40, 100, 252, 253, 1000} {
			b := make([]byte, n)
			b[0] = byte(first)
			checkRefused(t, b, api.ErrKind)
			b = pattern(n)
			b[0], b[1] = byte(first), 1
			checkRefused(t, b, api.ErrKind)
		}
	}
}

// TestDecodeForm covers ErrForm of P10.3: each of the three zeros has each other value, and this comes ahead of the second ErrShort and of the errors of Check.
func TestDecodeForm(t *testing.T) {
	for _, kind := range types {
		_, most := sizes(kind)
		whole := encoded(plain(kind))
		tooLong := append(bytes.Clone(whole), make([]byte, most+1)...)
		outOfRange := encoded(right(kind, 1, 2, lastCounter+1, nil))
		for _, b := range [][]byte{whole, tooLong, outOfRange, whole[:4], whole[:5], whole[:7]} {
			for place := 1; place < 4; place++ {
				for change := 1; change < 256; change++ {
					wrong := bytes.Clone(b)
					wrong[place] = byte(change)
					checkRefused(t, wrong, api.ErrForm)
				}
			}
		}
	}
}

// TestDecodeLength covers the second ErrShort of P10.3, and ErrSize, for each length to which the longest message of a type is cut.
func TestDecodeLength(t *testing.T) {
	for _, kind := range types {
		least, most := sizes(kind)
		long := encoded(right(kind, lastIndex, lastIndex, lastCounter, pattern(most)))
		for n := 4; n <= len(long); n++ {
			switch {
			case n < headBytes(kind):
				checkRefused(t, long[:n], api.ErrShort)
			case n < headBytes(kind)+least:
				checkRefused(t, long[:n], api.ErrSize)
			default:
				checkBoth(t, right(kind, lastIndex, lastIndex, lastCounter, long[headBytes(kind):n]), long[:n])
			}
		}
		checkRefused(t, append(bytes.Clone(long), 0), api.ErrSize)
	}
}

// TestDecodeCounter covers ErrRange of P10.3: a counter that is too great, or counts as negative, whatever the length of the body.
func TestDecodeCounter(t *testing.T) {
	wrong := []uint64{
		lastCounter + 1, lastCounter + 2, lastCounter + 1<<32, 1 << 41, 1 << 48, 1 << 56, 1 << 62, math.MaxInt64,
		1 << 63, 1<<63 + 1, 1<<63 + lastCounter, math.MaxUint64, math.MaxUint64 - 1, math.MaxUint64 - lastCounter,
	}
	for _, counter := range wrong {
		for _, n := range []int{16, 17, longestBody, 0, 15, longestBody + 1} {
			b := []byte{data, 0, 0, 0, 1, 0, 0, 0}
			b = binary.LittleEndian.AppendUint64(b, counter)
			checkRefused(t, append(b, pattern(n)...), api.ErrRange)
		}
		// A byte is missing at the end of the counter: that comes first.
		b := []byte{data, 0, 0, 0, 1, 0, 0, 0}
		checkRefused(t, binary.LittleEndian.AppendUint64(b, counter)[:15], api.ErrShort)
	}
}

// TestDecodeEveryByte covers P10.3: another value of a byte is another message, or none.
func TestDecodeEveryByte(t *testing.T) {
	for _, kind := range types {
		whole := encoded(plain(kind))
		for place := 4; place < len(whole); place++ {
			for change := 1; change < 256; change++ {
				b := bytes.Clone(whole)
				b[place] ^= byte(change)
				// In the last three bytes of Counter, each bit stands for at least 2^40, and 9 comes on top of it.
				if kind == data && place >= 13 && place < 16 {
					checkRefused(t, b, api.ErrRange)
					continue
				}
				m, err := Decode(b)
				if err != api.OK || same(m, plain(kind)) || !bytes.Equal(encoded(m), b) {
					t.Errorf("Decode(%x) = %v, %d, want what is encoded so, 0", b, m, err)
				}
			}
		}
	}
}

// spoil all of a list that can be reached.
func spoil(b []byte) {
	b = b[:cap(b)]
	for i := range b {
		b[i] ^= 0xff
	}
}

// roomy: the bytes, and room behind them that holds other bytes.
func roomy(b []byte) []byte {
	return append(bytes.Clone(b), pattern(300)...)[:len(b)]
}

// withRoom: a copy of all of a list, its unused room included.
func withRoom(b []byte) []byte {
	return bytes.Clone(b[:cap(b)])
}

// TestEncodeMemory covers the rules of memory for P10.1 and P10.2.
func TestEncodeMemory(t *testing.T) {
	for _, kind := range types {
		for n := range longestBody + 2 {
			m := right(kind, 1, 2, 3, roomy(pattern(n)))
			before := withRoom(m.Body)
			Check(m)
			one, _ := Encode(m)
			two, _ := Encode(m)
			kept := bytes.Clone(two)
			spoil(one)
			if !bytes.Equal(two, kept) {
				t.Errorf("two results of Encode of %d bytes share memory", n)
			}
			spoil(two)
			if !bytes.Equal(withRoom(m.Body), before) {
				t.Errorf("Encode of %d bytes changes or shares its argument", n)
			}
		}
	}
}

// TestDecodeMemory covers the rules of memory for P10.3, with bytes that it takes and bytes that it refuses.
func TestDecodeMemory(t *testing.T) {
	for _, kind := range types {
		for n := range longestBody + 2 {
			b := roomy(encoded(right(kind, 1, 2, 3, pattern(n))))
			before := withRoom(b)
			one, _ := Decode(b)
			two, _ := Decode(b)
			kept := bytes.Clone(two.Body)
			spoil(one.Body)
			if !bytes.Equal(two.Body, kept) {
				t.Errorf("two results of Decode of %d bytes share memory", len(b))
			}
			spoil(two.Body)
			if !bytes.Equal(withRoom(b), before) {
				t.Errorf("Decode of %d bytes changes or shares its argument", len(b))
			}
		}
	}
}
