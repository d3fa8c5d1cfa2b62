package net

import (
	"fmt"
	"math"
	"math/rand"
	"strings"
	"testing"

	"cattlecreep/api"
)

// wrongBits are outside of the range 0 to 32. Some are in it when only their last bits are looked at.
var wrongBits = []int{-1, -2, -16, -31, -32, -33, -64, -256, math.MinInt32, math.MinInt, math.MinInt + 16, 33, 34, 40, 48, 63, 64, 65, 96, 255, 256, 264, 1 << 32, 1<<32 + 8, math.MaxInt32, math.MaxInt}

// addresses with few and with many bits set.
var addresses = []uint32{0, 1, 2, 3, 255, 256, 0x0000ffff, 0x00010000, 0x0a000000, 0x0a010000, 0x0a010203, 0x55555555, 0x7fffffff, 0x80000000, 0x80000001, 0xaaaaaaaa, 0xc0a80164, 0xffff0000, 0xfffffffe, 0xffffffff}

// bitOf an address: the one at a place, counted from the most significant bit.
func bitOf(a uint32, at int) uint32 {
	return a >> (31 - at) & 1
}

// startOf an address: its first n bits, one by one, with zeros after them.
func startOf(a uint32, n int) uint32 {
	start := uint32(0)
	for at := range n {
		start |= bitOf(a, at) << (31 - at)
	}
	return start
}

// sameStart: do two addresses have the same first n bits?
func sameStart(a, b uint32, n int) bool {
	for at := range n {
		if bitOf(a, at) != bitOf(b, at) {
			return false
		}
	}
	return true
}

// someNets: valid ones of each number of bits, and invalid ones.
func someNets() []api.Net {
	var nets []api.Net
	for _, a := range addresses {
		for _, n := range []int{0, 1, 2, 7, 8, 9, 15, 16, 17, 24, 30, 31, 32} {
			nets = append(nets, api.Net{Addr: startOf(a, n), Bits: n})
		}
		nets = append(nets, api.Net{Addr: a, Bits: 8}, api.Net{Addr: a, Bits: 31})
		nets = append(nets, api.Net{Addr: a, Bits: -1}, api.Net{Addr: a, Bits: 33})
	}
	return nets
}

// randomNet is valid.
func randomNet(random *rand.Rand) api.Net {
	n := random.Intn(33)
	return api.Net{Addr: startOf(random.Uint32(), n), Bits: n}
}

// nearNet is valid, and has a start in common with a net.
func nearNet(random *rand.Rand, n api.Net) api.Net {
	common, count := random.Intn(33), random.Intn(33)
	a := startOf(n.Addr, common) | random.Uint32()&^startOf(math.MaxUint32, common)
	return api.Net{Addr: startOf(a, count), Bits: count}
}

// wantCheck of a net, as P7.1 says it.
func wantCheck(n api.Net) api.Errno {
	switch {
	case n.Bits < 0 || n.Bits > 32:
		return api.ErrRange
	case startOf(n.Addr, n.Bits) != n.Addr:
		return api.ErrForm
	}
	return api.OK
}

// wantHas, as P7.3 says it.
func wantHas(n api.Net, a uint32) bool {
	return wantCheck(n) == api.OK && sameStart(n.Addr, a, n.Bits)
}

// wantHolds, as P7.3 says it.
func wantHolds(n, m api.Net) bool {
	return wantCheck(m) == api.OK && m.Bits >= n.Bits && wantHas(n, m.Addr)
}

// wantJoin, as P7.4 says it: of the nets of an address, those with many bits first, the first one that holds both.
func wantJoin(n, m api.Net) (api.Net, api.Errno) {
	if err := wantCheck(n); err != api.OK {
		return api.Net{}, err
	}
	if err := wantCheck(m); err != api.OK {
		return api.Net{}, err
	}
	count := 32
	join := api.Net{Addr: n.Addr, Bits: count}
	for !wantHolds(join, n) || !wantHolds(join, m) {
		count--
		join = api.Net{Addr: startOf(n.Addr, count), Bits: count}
	}
	return join, api.OK
}

// wantCompare, as P7.5 says it.
func wantCompare(n, m api.Net) int {
	switch {
	case n.Addr < m.Addr:
		return -1
	case n.Addr > m.Addr:
		return 1
	case n.Bits < m.Bits:
		return -1
	case n.Bits > m.Bits:
		return 1
	}
	return 0
}

// textOf a net, as fmt writes it.
func textOf(n api.Net) string {
	return fmt.Sprintf("%d.%d.%d.%d/%d", n.Addr>>24, n.Addr>>16&255, n.Addr>>8&255, n.Addr&255, n.Bits)
}

// checkCheck of a net.
func checkCheck(t *testing.T, n api.Net, want api.Errno) {
	t.Helper()
	if got := Check(n); got != want {
		t.Errorf("Check(%v) = %d, want %d", n, got, want)
	}
}

// checkOf an address and a number of bits.
func checkOf(t *testing.T, a uint32, n int, want api.Net, wantErr api.Errno) {
	t.Helper()
	if got, err := Of(a, n); got != want || err != wantErr {
		t.Errorf("Of(%#x, %d) = %v, %d, want %v, %d", a, n, got, err, want, wantErr)
	}
}

// checkHas of a net and an address.
func checkHas(t *testing.T, n api.Net, a uint32, want bool) {
	t.Helper()
	if got := Has(n, a); got != want {
		t.Errorf("Has(%v, %#x) = %v, want %v", n, a, got, want)
	}
}

// checkHolds of two nets.
func checkHolds(t *testing.T, n, m api.Net, want bool) {
	t.Helper()
	if got := Holds(n, m); got != want {
		t.Errorf("Holds(%v, %v) = %v, want %v", n, m, got, want)
	}
}

// checkJoin of two nets.
func checkJoin(t *testing.T, n, m, want api.Net, wantErr api.Errno) {
	t.Helper()
	if got, err := Join(n, m); got != want || err != wantErr {
		t.Errorf("Join(%v, %v) = %v, %d, want %v, %d", n, m, got, err, want, wantErr)
	}
}

// checkCompare of two nets.
func checkCompare(t *testing.T, n, m api.Net, want int) {
	t.Helper()
	if got := Compare(n, m); got != want {
		t.Errorf("Compare(%v, %v) = %d, want %d", n, m, got, want)
	}
}

// checkText of a net.
func checkText(t *testing.T, n api.Net, want string, wantErr api.Errno) {
	t.Helper()
	if got, err := Text(n); got != want || err != wantErr {
		t.Errorf("Text(%v) = %q, %d, want %q, %d", n, got, err, want, wantErr)
	}
}

// checkParse of a text.
func checkParse(t *testing.T, s string, want api.Net, wantErr api.Errno) {
	t.Helper()
	if got, err := Parse(s); got != want || err != wantErr {
		t.Errorf("Parse(%q) = %v, %d, want %v, %d", s, got, err, want, wantErr)
	}
}

// TestCheck covers P7.1 by cases written out.
func TestCheck(t *testing.T) {
	for _, c := range []struct {
		n    api.Net
		want api.Errno
	}{
		{api.Net{}, api.OK},
		{api.Net{Addr: 0x0a010000, Bits: 16}, api.OK},
		{api.Net{Addr: 0x0a010000, Bits: 24}, api.OK},
		{api.Net{Addr: 0x0a010000, Bits: 15}, api.ErrForm},
		{api.Net{Addr: 0x0a010000, Bits: 8}, api.ErrForm},
		{api.Net{Addr: 0x80000000, Bits: 1}, api.OK},
		{api.Net{Addr: 0x80000000, Bits: 0}, api.ErrForm},
		{api.Net{Addr: 0x40000000, Bits: 1}, api.ErrForm},
		{api.Net{Addr: 1, Bits: 32}, api.OK},
		{api.Net{Addr: 1, Bits: 31}, api.ErrForm},
		{api.Net{Addr: 1, Bits: 0}, api.ErrForm},
		{api.Net{Addr: math.MaxUint32, Bits: 32}, api.OK},
		{api.Net{Addr: math.MaxUint32, Bits: 31}, api.ErrForm},
		{api.Net{Addr: math.MaxUint32, Bits: 0}, api.ErrForm},
	} {
		checkCheck(t, c.n, c.want)
	}
}

// TestCheckEveryBit covers P7.1: each bit, alone and with all ahead of it, for each number of bits.
func TestCheckEveryBit(t *testing.T) {
	for count := 0; count <= 32; count++ {
		for at := range 32 {
			want := api.OK
			if at >= count {
				want = api.ErrForm
			}
			checkCheck(t, api.Net{Addr: 1 << (31 - at), Bits: count}, want)
			checkCheck(t, api.Net{Addr: startOf(math.MaxUint32, at+1), Bits: count}, want)
		}
		checkCheck(t, api.Net{Bits: count}, api.OK)
	}
}

// TestCheckRange covers P7.1: a wrong number of bits is told of ahead of a bit after them.
func TestCheckRange(t *testing.T) {
	for _, count := range wrongBits {
		for _, a := range addresses {
			checkCheck(t, api.Net{Addr: a, Bits: count}, api.ErrRange)
		}
	}
}

// TestOf covers P7.2 by cases written out.
func TestOf(t *testing.T) {
	for _, c := range []struct {
		a     uint32
		count int
		want  uint32
	}{
		{0x0a010203, 16, 0x0a010000},
		{0x0a010203, 0, 0},
		{0x0a010203, 4, 0},
		{0x0a010203, 5, 0x08000000},
		{0x0a010203, 8, 0x0a000000},
		{0x0a010203, 31, 0x0a010202},
		{0x0a010203, 32, 0x0a010203},
		{math.MaxUint32, 0, 0},
		{math.MaxUint32, 1, 0x80000000},
		{math.MaxUint32, 31, 0xfffffffe},
		{math.MaxUint32, 32, math.MaxUint32},
	} {
		checkOf(t, c.a, c.count, api.Net{Addr: c.want, Bits: c.count}, api.OK)
	}
}

// TestOfEveryCount covers P7.2: each number of bits.
func TestOfEveryCount(t *testing.T) {
	random := rand.New(rand.NewSource(7))
	for count := 0; count <= 32; count++ {
		for _, a := range addresses {
			checkOf(t, a, count, api.Net{Addr: startOf(a, count), Bits: count}, api.OK)
		}
		for range 200 {
			a := random.Uint32()
			checkOf(t, a, count, api.Net{Addr: startOf(a, count), Bits: count}, api.OK)
		}
	}
}

// TestOfRange covers P7.2: no net with a wrong number of bits.
func TestOfRange(t *testing.T) {
	for _, count := range wrongBits {
		for _, a := range addresses {
			checkOf(t, a, count, api.Net{}, api.ErrRange)
		}
	}
}

// TestHas covers P7.3 by cases written out.
func TestHas(t *testing.T) {
	for _, c := range []struct {
		n    api.Net
		a    uint32
		want bool
	}{
		{api.Net{Addr: 0x0a010000, Bits: 16}, 0x0a010000, true},
		{api.Net{Addr: 0x0a010000, Bits: 16}, 0x0a01ffff, true},
		{api.Net{Addr: 0x0a010000, Bits: 16}, 0x0a00ffff, false},
		{api.Net{Addr: 0x0a010000, Bits: 16}, 0x0a020000, false},
		{api.Net{Addr: 0x0a010000, Bits: 16}, 0x8a010000, false},
		{api.Net{}, 0, true},
		{api.Net{}, math.MaxUint32, true},
		{api.Net{Bits: 1}, 0x7fffffff, true},
		{api.Net{Bits: 1}, 0x80000000, false},
		{api.Net{Addr: 5, Bits: 32}, 5, true},
		{api.Net{Addr: 5, Bits: 32}, 4, false},
		{api.Net{Addr: 5, Bits: 31}, 5, false},
		{api.Net{Addr: 4, Bits: 31}, 5, true},
		{api.Net{Addr: 4, Bits: 31}, 6, false},
		{api.Net{Addr: 5, Bits: 0}, 5, false},
		{api.Net{Addr: 5, Bits: 33}, 5, false},
		{api.Net{Addr: 0, Bits: -1}, 0, false},
	} {
		checkHas(t, c.n, c.a, c.want)
	}
}

// TestHasEveryBit covers P7.3: an address that differs in one bit is in a net exactly if that bit is after the prefix.
func TestHasEveryBit(t *testing.T) {
	for _, a := range addresses {
		for count := 0; count <= 32; count++ {
			n := api.Net{Addr: startOf(a, count), Bits: count}
			checkHas(t, n, a, true)
			for at := range 32 {
				checkHas(t, n, a^1<<(31-at), at >= count)
			}
		}
	}
}

// TestHasInvalid covers P7.3: an invalid net has no address, not even its own.
func TestHasInvalid(t *testing.T) {
	for _, a := range addresses {
		for _, count := range wrongBits {
			checkHas(t, api.Net{Addr: a, Bits: count}, a, false)
			checkHas(t, api.Net{Bits: count}, a, false)
		}
		for count := range 32 {
			n := api.Net{Addr: startOf(a, count) | 1, Bits: count}
			checkHas(t, n, n.Addr, false)
			checkHas(t, n, a, false)
		}
	}
}

// TestHolds covers P7.3 by cases written out.
func TestHolds(t *testing.T) {
	wide, narrow := api.Net{Addr: 0x0a000000, Bits: 8}, api.Net{Addr: 0x0a010000, Bits: 16}
	for _, c := range []struct {
		n, m api.Net
		want bool
	}{
		{wide, narrow, true},
		{narrow, wide, false},
		{wide, wide, true},
		{narrow, narrow, true},
		{api.Net{}, wide, true},
		{wide, api.Net{}, false},
		{api.Net{}, api.Net{}, true},
		{wide, api.Net{Addr: 0x0b010000, Bits: 16}, false},
		// The same address, and fewer bits: a wider net is not held.
		{api.Net{Addr: 0x0a000000, Bits: 16}, wide, false},
		{wide, api.Net{Addr: 0x0a000000, Bits: 16}, true},
		{api.Net{Bits: 32}, api.Net{Bits: 31}, false},
		{api.Net{Bits: 31}, api.Net{Bits: 32}, true},
		{narrow, api.Net{Addr: 0x0a01ffff, Bits: 32}, true},
		{narrow, api.Net{Addr: 0x0a020000, Bits: 32}, false},
		// An invalid net holds none, and none holds it.
		{wide, api.Net{Addr: 0x0a010001, Bits: 16}, false},
		{wide, api.Net{Addr: 0x0a010000, Bits: 33}, false},
		{api.Net{}, api.Net{Addr: 1, Bits: 31}, false},
		{api.Net{}, api.Net{Bits: 33}, false},
		{api.Net{Addr: 0x0a010000, Bits: 8}, narrow, false},
		{api.Net{Bits: -1}, narrow, false},
		{api.Net{Bits: -1}, api.Net{Bits: -1}, false},
		{api.Net{Addr: 1, Bits: 31}, api.Net{Addr: 1, Bits: 31}, false},
		{api.Net{Addr: 1, Bits: 31}, api.Net{Addr: 1, Bits: 32}, false},
	} {
		checkHolds(t, c.n, c.m, c.want)
	}
}

// TestPairs covers P7.3, P7.4 and P7.5 for each two of many nets, invalid ones too.
func TestPairs(t *testing.T) {
	nets := someNets()
	for _, n := range nets {
		for _, m := range nets {
			checkPair(t, n, m)
		}
	}
}

// TestManyPairs covers P7.3, P7.4 and P7.5 for nets all over the range.
func TestManyPairs(t *testing.T) {
	random := rand.New(rand.NewSource(7))
	for range 20000 {
		n := randomNet(random)
		checkPair(t, n, randomNet(random))
		checkPair(t, n, nearNet(random, n))
	}
}

// checkPair of nets: what their promises say, bit by bit.
func checkPair(t *testing.T, n, m api.Net) {
	t.Helper()
	checkHas(t, n, m.Addr, wantHas(n, m.Addr))
	checkHolds(t, n, m, wantHolds(n, m))
	join, err := wantJoin(n, m)
	checkJoin(t, n, m, join, err)
	checkCompare(t, n, m, wantCompare(n, m))
}

// TestJoin covers P7.4 by cases written out.
func TestJoin(t *testing.T) {
	for _, c := range []struct{ n, m, want api.Net }{
		{api.Net{Addr: 0x0a000000, Bits: 16}, api.Net{Addr: 0x0a010000, Bits: 16}, api.Net{Addr: 0x0a000000, Bits: 15}},
		{api.Net{Addr: 0x0a010000, Bits: 16}, api.Net{Addr: 0x0a020000, Bits: 16}, api.Net{Addr: 0x0a000000, Bits: 14}},
		{api.Net{Addr: 0x0a010000, Bits: 16}, api.Net{Addr: 0x0a010000, Bits: 16}, api.Net{Addr: 0x0a010000, Bits: 16}},
		{api.Net{Addr: 0x0a000000, Bits: 8}, api.Net{Addr: 0x0a010000, Bits: 16}, api.Net{Addr: 0x0a000000, Bits: 8}},
		{api.Net{Addr: 0x0a000000, Bits: 8}, api.Net{Addr: 0x0a000000, Bits: 16}, api.Net{Addr: 0x0a000000, Bits: 8}},
		{api.Net{Addr: 0x0a010203, Bits: 32}, api.Net{Addr: 0x0a010202, Bits: 32}, api.Net{Addr: 0x0a010202, Bits: 31}},
		{api.Net{Addr: 0x0a010203, Bits: 32}, api.Net{Addr: 0x0a010203, Bits: 32}, api.Net{Addr: 0x0a010203, Bits: 32}},
		{api.Net{Addr: 0, Bits: 1}, api.Net{Addr: 0x80000000, Bits: 1}, api.Net{}},
		{api.Net{Addr: 0, Bits: 32}, api.Net{Addr: math.MaxUint32, Bits: 32}, api.Net{}},
		{api.Net{}, api.Net{Addr: math.MaxUint32, Bits: 32}, api.Net{}},
		{api.Net{}, api.Net{}, api.Net{}},
	} {
		checkJoin(t, c.n, c.m, c.want, api.OK)
		checkJoin(t, c.m, c.n, c.want, api.OK)
	}
}

// TestJoinErrors covers P7.4: the error of the first net comes ahead of the one of the second.
func TestJoinErrors(t *testing.T) {
	right := api.Net{Addr: 0x0a010000, Bits: 16}
	form, outside := api.Net{Addr: 1, Bits: 31}, api.Net{Addr: 1, Bits: 33}
	for _, c := range []struct {
		n, m api.Net
		want api.Errno
	}{
		{form, right, api.ErrForm},
		{right, form, api.ErrForm},
		{outside, right, api.ErrRange},
		{right, outside, api.ErrRange},
		{form, outside, api.ErrForm},
		{outside, form, api.ErrRange},
		{form, form, api.ErrForm},
		{outside, outside, api.ErrRange},
		{api.Net{Bits: -1}, form, api.ErrRange},
		{form, api.Net{Bits: -1}, api.ErrForm},
	} {
		checkJoin(t, c.n, c.m, api.Net{}, c.want)
	}
}

// TestCompare covers P7.5 by nets in their order, invalid ones among them.
func TestCompare(t *testing.T) {
	ordered := []api.Net{
		{Addr: 0, Bits: math.MinInt}, {Addr: 0, Bits: -1}, {Addr: 0, Bits: 0}, {Addr: 0, Bits: 8}, {Addr: 0, Bits: 9}, {Addr: 0, Bits: 10}, {Addr: 0, Bits: 32}, {Addr: 0, Bits: 33}, {Addr: 0, Bits: math.MaxInt},
		{Addr: 1, Bits: math.MinInt}, {Addr: 1, Bits: 31}, {Addr: 1, Bits: 32}, {Addr: 1, Bits: math.MaxInt},
		{Addr: 0x09000000, Bits: 32}, {Addr: 0x0a000000, Bits: 8}, {Addr: 0x0a000000, Bits: 16}, {Addr: 0x0a010000, Bits: 0},
		{Addr: 0x7fffffff, Bits: 32}, {Addr: 0x80000000, Bits: 1}, {Addr: 0x80000001, Bits: 0},
		{Addr: math.MaxUint32, Bits: math.MinInt}, {Addr: math.MaxUint32, Bits: 0}, {Addr: math.MaxUint32, Bits: 32}, {Addr: math.MaxUint32, Bits: math.MaxInt},
	}
	for i, n := range ordered {
		for j, m := range ordered {
			switch {
			case i < j:
				checkCompare(t, n, m, -1)
			case i > j:
				checkCompare(t, n, m, 1)
			default:
				checkCompare(t, n, m, 0)
			}
		}
	}
}

// texts of nets, with the nets.
var texts = []struct {
	n    api.Net
	text string
}{
	{api.Net{}, "0.0.0.0/0"},
	{api.Net{Bits: 1}, "0.0.0.0/1"},
	{api.Net{Bits: 32}, "0.0.0.0/32"},
	{api.Net{Addr: 1, Bits: 32}, "0.0.0.1/32"},
	{api.Net{Addr: 0x0a000000, Bits: 7}, "10.0.0.0/7"},
	{api.Net{Addr: 0x0a000000, Bits: 9}, "10.0.0.0/9"},
	{api.Net{Addr: 0x0a000000, Bits: 10}, "10.0.0.0/10"},
	{api.Net{Addr: 0x0a010000, Bits: 16}, "10.1.0.0/16"},
	{api.Net{Addr: 0x80000000, Bits: 1}, "128.0.0.0/1"},
	{api.Net{Addr: 0xc0a80100, Bits: 24}, "192.168.1.0/24"},
	{api.Net{Addr: 0xfffffffe, Bits: 31}, "255.255.255.254/31"},
	{api.Net{Addr: 0xffffffff, Bits: 32}, "255.255.255.255/32"},
}

// TestText covers P7.6 where there is no error.
func TestText(t *testing.T) {
	for _, c := range texts {
		checkText(t, c.n, c.text, api.OK)
	}
}

// TestTextErrors covers P7.6: the errors of Check.
func TestTextErrors(t *testing.T) {
	for _, a := range addresses {
		for _, count := range wrongBits {
			checkText(t, api.Net{Addr: a, Bits: count}, "", api.ErrRange)
		}
		for count := range 32 {
			checkText(t, api.Net{Addr: startOf(a, count) | 1, Bits: count}, "", api.ErrForm)
		}
	}
}

// TestParse covers P7.7 where there is no error.
func TestParse(t *testing.T) {
	for _, c := range texts {
		checkParse(t, c.text, c.n, api.OK)
	}
}

// TestBothWays covers P7.6 and P7.7: each number of bits, with addresses that fit it and ones that do not.
func TestBothWays(t *testing.T) {
	random := rand.New(rand.NewSource(7))
	for count := 0; count <= 32; count++ {
		for range 300 {
			a := random.Uint32()
			n := api.Net{Addr: startOf(a, count), Bits: count}
			checkText(t, n, textOf(n), api.OK)
			checkParse(t, textOf(n), n, api.OK)
			if a != n.Addr {
				checkParse(t, textOf(api.Net{Addr: a, Bits: count}), api.Net{}, api.ErrForm)
			}
		}
	}
}

// TestParseErrors covers P7.7: what Text does not write is no net, and no error but ErrForm tells of it.
func TestParseErrors(t *testing.T) {
	for _, s := range []string{
		"", " ", "/", "//", "/0", "/16", "0", "16", "0/0", "10.1.0.0", "10.1.0.0/", "10.1.0.0 16", "10.1.0.0:16", "10.1.0.0\\16", "10.1.0.0∕16",
		"10.1.0.0/15", "10.1.0.0/8", "10.1.0.0/0", "0.0.0.1/31", "0.0.0.1/0", "128.0.0.0/0", "255.255.255.255/31",
		"0.0.0.0/33", "0.0.0.0/40", "0.0.0.0/64", "0.0.0.0/99", "0.0.0.0/256", "0.0.0.0/99999", "0.0.0.0/100000", "0.0.0.0/4294967296", "0.0.0.0/18446744073709551616",
		"10.1.0.1/33", "0.0.0.0/-0", "0.0.0.0/-1", "0.0.0.0/+0", "10.1.0.0/+16", "10.1.0.0/-16",
		"0.0.0.0/00", "0.0.0.0/01", "10.0.0.0/08", "10.1.0.0/016", "10.1.0.0/0016", "0.0.0.0/032", "0.0.0.0/000000",
		"10.1.0.0/ 16", "10.1.0.0 /16", " 10.1.0.0/16", "10.1.0.0/16 ", "10.1.0.0/16\n", "10.1.0.0/16\x00", "\x0010.1.0.0/16", "10.1.0.0/1 6",
		"10.1.0.0//16", "10.1.0.0/16/", "/10.1.0.0/16", "10.1.0.0/16/16", "10.1.0.0/16/10.1.0.0", "16/10.1.0.0",
		"10.1.0/16", "10.1/16", "10.1.0.0.0/16", "10.1.0./16", ".10.1.0.0/16", "010.1.0.0/16", "10.01.0.0/16", "10.1.0.00/16", "256.1.0.0/16", "10.256.0.0/16", "-10.1.0.0/16",
		"10.1.0.0/a", "10.1.0.0/0x10", "10.1.0.0/1e1", "10.1.0.0/16.0", "10.1.0.0/255.255.0.0", "a.b.c.d/16", "::/0", "10.1.0.0:80/16", "10.1.0.0/16:80", "10.1.0.0/1６", "１0.1.0.0/16", "10.1.0.0/\xff", "\xff/16",
		strings.Repeat("/", 1<<20), strings.Repeat("0.", 1<<20) + "/0", "0.0.0.0/" + strings.Repeat("0", 1<<20), "0.0.0.0/" + strings.Repeat("/", 1<<20),
	} {
		checkParse(t, s, api.Net{}, api.ErrForm)
	}
}

// TestParseCounts covers P7.7: each number after the slash, with and without a zero ahead.
func TestParseCounts(t *testing.T) {
	for count := range 1000 {
		want, wantErr := api.Net{Bits: count}, api.OK
		if count > 32 {
			want, wantErr = api.Net{}, api.ErrForm
		}
		checkParse(t, fmt.Sprintf("0.0.0.0/%d", count), want, wantErr)
		checkParse(t, fmt.Sprintf("0.0.0.0/0%d", count), api.Net{}, api.ErrForm)
	}
}

// TestParseInvertsText covers P7.7: a text of a net with one byte changed, put in or left out is one exactly if Text writes it.
func TestParseInvertsText(t *testing.T) {
	for _, c := range texts {
		for at := range len(c.text) + 1 {
			for x := range 256 {
				b := string([]byte{byte(x)})
				checkOnlyTexts(t, c.text[:at]+b+c.text[at:])
				if at < len(c.text) {
					checkOnlyTexts(t, c.text[:at]+b+c.text[at+1:])
				}
			}
			if at < len(c.text) {
				checkOnlyTexts(t, c.text[:at]+c.text[at+1:])
			}
		}
	}
}

// checkOnlyTexts: Parse accepts a text exactly if it is the one of the valid net that the loosely read numbers give.
func checkOnlyTexts(t *testing.T, s string) {
	t.Helper()
	var parts [4]uint8
	var n api.Net
	fmt.Sscanf(s, "%d.%d.%d.%d/%d", &parts[0], &parts[1], &parts[2], &parts[3], &n.Bits)
	for _, part := range parts {
		n.Addr = n.Addr<<8 | uint32(part)
	}
	if wantCheck(n) == api.OK && textOf(n) == s {
		checkParse(t, s, n, api.OK)
	} else {
		checkParse(t, s, api.Net{}, api.ErrForm)
	}
}
