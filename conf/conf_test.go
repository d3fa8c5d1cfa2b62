package conf

import (
	"math"
	"math/rand"
	"net/netip"
	"reflect"
	"regexp"
	"slices"
	"strconv"
	"strings"
	"testing"

	"cattlecreep/api"
	"cattlecreep/trie"
)

// The limits: a configuration has at most six peers, each of these at most eight nets, and a port and an interval are at most 65535.
const (
	mostPeers  = 6
	mostNets   = 8
	mostNumber = 65535
)

const (
	digits = "0123456789abcdef"
	long   = digits + digits + digits + digits
	zeros  = "0000000000000000000000000000000000000000000000000000000000000000"
)

// badNumbers are out of the range, though the last bytes of some would be in it.
var badNumbers = []int{-1, -2, -65535, -65536, mostNumber + 1, mostNumber + 2, 1 << 17, 1 << 32, 1<<32 + 5, math.MinInt, math.MinInt + 5, math.MaxInt}

// badBits: numbers of bits that no net has, though the last bytes of some would be right.
var badBits = []int{-1, -16, -32, 33, 34, 48, 64, 255, 256, 256 + 16, 1<<32 + 8, math.MinInt, math.MinInt + 16, math.MaxInt}

// endpoints, and what is none.
var (
	endpoints    = []string{"1.2.3.4:5", "0.0.0.0:1", "255.255.255.255:65535", "10.0.0.1:80", "10.20.30.40:1000", "127.0.0.1:51820"}
	badEndpoints = []string{
		" ", ":", ":80", "10.0.0.1", "10.0.0.1:", "10.0.0.1:0", "10.0.0.1:00", "10.0.0.1:080", "10.0.0.1:65536", "10.0.0.1:100000", "10.0.0.1:-1", "10.0.0.1:+1",
		"10.0.0:80", "10.0.0.0.1:80", "10.0.0.256:80", "10.0.0.01:80", "10.0.0.1:80 ", " 10.0.0.1:80", "10.0.0.1::80", "10.0.0.1:80:80", "10.0.0.1/80", "[::1]:80",
		"[::ffff:1.2.3.4]:80", "1.2.3.4:5\n", "1.2.3.4:5\x00", "host:80", "true", "80", long, zeros, "\x00", strings.Repeat("1", 1<<16),
	}
)

var isKey = regexp.MustCompile(`\A[0-9a-f]{64}\z`)

// keyOf a digit.
func keyOf(n int) string {
	return strings.Repeat(digits[n:n+1], 64)
}

// sixteen: the net of the first 16 bits of 10.n.0.0.
func sixteen(n int) api.Net {
	return api.Net{Addr: 0x0a000000 + uint32(n)<<16, Bits: 16}
}

// sixteens: so many of these nets, from one on.
func sixteens(from, count int) []api.Net {
	nets := make([]api.Net, count)
	for i := range nets {
		nets[i] = sixteen(from + i)
	}
	return nets
}

// fullPeer has all its fields.
func fullPeer(n int) api.Peer {
	return api.Peer{Key: keyOf(n), Shared: long, Endpoint: "10.0.0.2:2000", Alive: 25, Nets: sixteens(10*n, 3)}
}

// fullConf has all its fields, and as many peers as may be, with the keys of the digits 1 to 6.
func fullConf() api.Conf {
	c := api.Conf{Key: keyOf(15), Port: 51820}
	for n := 1; n <= mostPeers; n++ {
		c.Peers = append(c.Peers, fullPeer(n))
	}
	return c
}

// isEnd: is a text an endpoint, by the standard library?
func isEnd(s string) bool {
	end, err := netip.ParseAddrPort(s)
	return err == nil && end.Addr().Is4() && end.Port() > 0 && end.String() == s
}

// keyError is that of P1.3.
func keyError(s string) api.Errno {
	switch {
	case len(s) != 64:
		return api.ErrSize
	case !isKey.MatchString(s):
		return api.ErrForm
	}
	return api.OK
}

// netError is that of P7.1.
func netError(n api.Net) api.Errno {
	switch {
	case n.Bits < 0 || n.Bits > 32:
		return api.ErrRange
	case uint64(n.Addr)<<n.Bits&math.MaxUint32 != 0:
		return api.ErrForm
	}
	return api.OK
}

// rank of a valid net in the order of P7.5.
func rank(n api.Net) uint64 {
	return uint64(n.Addr)*100 + uint64(n.Bits)
}

// wantRight is what Right is to return, by the words of the chapter.
func wantRight(p api.Peer) api.Errno {
	if err := keyError(p.Key); err != api.OK {
		return err
	}
	if err := keyError(p.Shared); err != api.OK && p.Shared != "" {
		return err
	}
	switch {
	case p.Shared == zeros || p.Endpoint != "" && !isEnd(p.Endpoint):
		return api.ErrForm
	case p.Alive < 0 || p.Alive > mostNumber:
		return api.ErrRange
	case len(p.Nets) > mostNets:
		return api.ErrSize
	}
	for i, n := range p.Nets {
		if err := netError(n); err != api.OK {
			return err
		}
		if i > 0 && rank(n) <= rank(p.Nets[i-1]) {
			return api.ErrTwice
		}
	}
	return api.OK
}

// wantCheck is what Check is to return.
func wantCheck(c api.Conf) api.Errno {
	if err := keyError(c.Key); err != api.OK && c.Key != "" {
		return err
	}
	switch {
	case c.Port < 0 || c.Port > mostNumber:
		return api.ErrRange
	case len(c.Peers) > mostPeers:
		return api.ErrSize
	}
	greatest, taken := "", map[api.Net]bool{}
	for _, p := range c.Peers {
		if err := wantRight(p); err != api.OK {
			return err
		}
		if strings.Compare(p.Key, greatest) < 1 || p.Key == c.Key {
			return api.ErrTwice
		}
		greatest = p.Key
		for _, n := range p.Nets {
			if taken[n] {
				return api.ErrTwice
			}
			taken[n] = true
		}
	}
	return api.OK
}

// ownersOf the nets of a right configuration, as trie.All is to tell them.
func ownersOf(c api.Conf) []api.Node {
	var l []api.Node
	for _, p := range c.Peers {
		for _, n := range p.Nets {
			l = append(l, api.Node{Net: n, Owner: p.Key, Size: 1})
		}
	}
	slices.SortFunc(l, func(x, y api.Node) int { return int(rank(x.Net)) - int(rank(y.Net)) })
	return l
}

// samePeer: are all fields of two peers the same? A list without elements may be nil or not.
func samePeer(p, q api.Peer) bool {
	return p.Key == q.Key && p.Shared == q.Shared && p.Endpoint == q.Endpoint && p.Alive == q.Alive && slices.Equal(p.Nets, q.Nets)
}

// sameConf: likewise, of two configurations.
func sameConf(c, d api.Conf) bool {
	return c.Key == d.Key && c.Port == d.Port && slices.EqualFunc(c.Peers, d.Peers, samePeer)
}

// cloneOf a configuration, by the test itself.
func cloneOf(c api.Conf) api.Conf {
	peers := append([]api.Peer(nil), c.Peers...)
	for i := range peers {
		peers[i].Nets = append([]api.Net(nil), peers[i].Nets...)
	}
	c.Peers = peers
	return c
}

// sparePeer and spareNet stand where nothing may be changed.
var (
	sparePeer = api.Peer{Key: "spare", Alive: -7}
	spareNet  = api.Net{Addr: 0xdeadbeef, Bits: -7}
)

// roomy is a configuration as an argument: behind each of its lists there is something.
func roomy(c api.Conf) api.Conf {
	c = cloneOf(c)
	for i, p := range c.Peers {
		c.Peers[i].Nets = append(p.Nets, spareNet, spareNet, spareNet)[:len(p.Nets)]
	}
	c.Peers = append(c.Peers, sparePeer, sparePeer, sparePeer)[:len(c.Peers)]
	return c
}

// checkUntouched: a roomy configuration is as it was, and so is what stands behind its lists.
func checkUntouched(t *testing.T, c, before api.Conf) {
	t.Helper()
	if !sameConf(c, before) {
		t.Errorf("the argument is %v afterwards, was %v", c, before)
	}
	for _, p := range c.Peers[len(c.Peers) : len(c.Peers)+3] {
		if !samePeer(p, sparePeer) {
			t.Errorf("behind the peers is %v afterwards", p)
		}
	}
	for _, p := range c.Peers {
		for _, n := range p.Nets[len(p.Nets) : len(p.Nets)+3] {
			if n != spareNet {
				t.Errorf("behind the nets of a peer is %v afterwards", n)
			}
		}
	}
}

// checkTree: the Tree is the trie of all nets with their owners. A list that trie.Check takes is the only one with what trie.All tells of it.
func checkTree(t *testing.T, c api.Conf) {
	t.Helper()
	tree, err := Tree(c)
	if wrong := trie.Check(tree); err != api.OK || wrong != api.OK {
		t.Errorf("Tree(%v) = %v, %d, want a trie (but it has the error %d), 0", c, tree, err, wrong)
	}
	if got, _ := trie.All(tree); !slices.Equal(got, ownersOf(c)) {
		t.Errorf("Tree(%v) has %v, want %v", c, got, ownersOf(c))
	}
}

// checkConf: Check, and Tree too, return what they are to return for a configuration, and leave it as it is.
func checkConf(t *testing.T, c api.Conf, want api.Errno) {
	t.Helper()
	if own := wantCheck(c); own != want {
		t.Fatalf("the test's own answer for %v is %d, want %d", c, own, want)
	}
	arg := roomy(c)
	if err := Check(arg); err != want {
		t.Errorf("Check(%v) = %d, want %d", c, err, want)
	}
	if want == api.OK {
		checkTree(t, arg)
	} else if tree, err := Tree(arg); err != want || len(tree) > 0 {
		t.Errorf("Tree(%v) = %v, %d, want none, %d", c, tree, err, want)
	}
	checkUntouched(t, arg, c)
}

// checkRight: Right returns what it is to return for a peer, and leaves it as it is; and what is wrong with a peer is wrong with a configuration of it, too.
func checkRight(t *testing.T, p api.Peer, want api.Errno) {
	t.Helper()
	if own := wantRight(p); own != want {
		t.Fatalf("the test's own answer for %v is %d, want %d", p, own, want)
	}
	arg := roomy(api.Conf{Peers: []api.Peer{p}})
	if err := Right(arg.Peers[0]); err != want {
		t.Errorf("Right(%v) = %d, want %d", p, err, want)
	}
	if err := Check(arg); err != want {
		t.Errorf("Check of the peer %v = %d, want %d", p, err, want)
	}
	checkUntouched(t, arg, api.Conf{Peers: []api.Peer{p}})
}

// checkFind of a configuration and a key.
func checkFind(t *testing.T, c api.Conf, key string, want int, wantErr api.Errno) {
	t.Helper()
	arg := roomy(c)
	if got, err := Find(arg, key); got != want || err != wantErr {
		t.Errorf("Find(%v, %q) = %d, %d, want %d, %d", c, key, got, err, want, wantErr)
	}
	checkUntouched(t, arg, c)
}

// checkCopy of a configuration, which is like it.
func checkCopy(t *testing.T, c api.Conf) {
	t.Helper()
	arg := roomy(c)
	if got := Copy(arg); !sameConf(got, c) {
		t.Errorf("Copy(%v) = %v", c, got)
	}
	checkUntouched(t, arg, c)
}

// TestRight covers P13.1 where there is no error.
func TestRight(t *testing.T) {
	checkRight(t, api.Peer{Key: long}, api.OK)
	checkRight(t, api.Peer{Key: long, Nets: []api.Net{}}, api.OK)
	checkRight(t, api.Peer{Key: zeros}, api.OK)
	checkRight(t, api.Peer{Key: long, Shared: long}, api.OK)
	checkRight(t, api.Peer{Key: long, Endpoint: "10.0.0.1:80"}, api.OK)
	checkRight(t, api.Peer{Key: long, Alive: mostNumber}, api.OK)
	checkRight(t, api.Peer{Key: long, Nets: []api.Net{{}}}, api.OK)
	for n := range 16 {
		checkRight(t, fullPeer(n), api.OK)
	}
}

// TestRightKeys covers the errors of the keys of P13.1: each length, and each byte at each place.
func TestRightKeys(t *testing.T) {
	for _, n := range []int{1, 2, 31, 32, 62, 63, 65, 66, 127, 128, 256 + 64, 65536, 65536 + 64, 1 << 20} {
		for _, c := range []string{"0", "a", "A", " ", "\xff"} {
			checkRight(t, api.Peer{Key: strings.Repeat(c, n)}, api.ErrSize)
			checkRight(t, api.Peer{Key: long, Shared: strings.Repeat(c, n)}, api.ErrSize)
		}
	}
	for place := range 64 {
		for c := range 256 {
			text := long[:place] + string([]byte{byte(c)}) + long[place+1:]
			want := api.OK
			if !strings.Contains(digits, string([]byte{byte(c)})) {
				want = api.ErrForm
			}
			checkRight(t, api.Peer{Key: text}, want)
			checkRight(t, api.Peer{Key: long, Shared: text}, want)
		}
	}
	for _, text := range []string{strings.ToUpper(long), strings.Repeat("é", 32), strings.Repeat("\x00", 64)} {
		checkRight(t, api.Peer{Key: text}, api.ErrForm)
		checkRight(t, api.Peer{Key: long, Shared: text}, api.ErrForm)
	}
	checkRight(t, api.Peer{}, api.ErrSize)
	checkRight(t, api.Peer{Shared: long, Endpoint: "10.0.0.1:80", Alive: 1, Nets: sixteens(0, 8)}, api.ErrSize)
}

// TestRightShared covers P13.1 for the 64 zeros that no shared key is; any other key is one.
func TestRightShared(t *testing.T) {
	checkRight(t, api.Peer{Key: long, Shared: zeros}, api.ErrForm)
	checkRight(t, api.Peer{Key: zeros, Shared: zeros}, api.ErrForm)
	checkRight(t, api.Peer{Key: long, Shared: zeros[1:]}, api.ErrSize)
	checkRight(t, api.Peer{Key: long, Shared: zeros + "0"}, api.ErrSize)
	for place := range 64 {
		checkRight(t, api.Peer{Key: long, Shared: zeros[:place] + "1" + zeros[place+1:]}, api.OK)
		checkRight(t, api.Peer{Key: long, Shared: zeros[:place] + "O" + zeros[place+1:]}, api.ErrForm)
	}
	for n := 1; n < 16; n++ {
		checkRight(t, api.Peer{Key: long, Shared: keyOf(n)}, api.OK)
	}
	// It may be the key of the peer.
	checkRight(t, api.Peer{Key: long, Shared: long}, api.OK)
}

// TestRightEndpoints covers P13.1 for endpoints.
func TestRightEndpoints(t *testing.T) {
	for _, end := range endpoints {
		checkRight(t, api.Peer{Key: long, Endpoint: end}, api.OK)
	}
	for _, end := range badEndpoints {
		checkRight(t, api.Peer{Key: long, Endpoint: end}, api.ErrForm)
	}
	for n := 1; n <= mostNumber; n++ {
		checkRight(t, api.Peer{Key: long, Endpoint: "1.2.3.4:" + strconv.Itoa(n)}, api.OK)
	}
	for _, end := range []string{"10.0.0.2:2000", "255.255.255.255:65535", "1.2.3.4:5"} {
		for place := range len(end) + 1 {
			for c := range 256 {
				text := end[:place] + string([]byte{byte(c)}) + end[place:]
				checkRight(t, api.Peer{Key: long, Endpoint: text}, wantRight(api.Peer{Key: long, Endpoint: text}))
			}
		}
	}
}

// TestRightAlive covers P13.1 for each interval, and ErrRange beyond them.
func TestRightAlive(t *testing.T) {
	for n := range mostNumber + 1 {
		checkRight(t, api.Peer{Key: long, Alive: n}, api.OK)
	}
	for _, n := range badNumbers {
		checkRight(t, api.Peer{Key: long, Alive: n}, api.ErrRange)
	}
}

// TestRightNets covers P13.1 for one net: each number of bits, and each bit.
func TestRightNets(t *testing.T) {
	for bits := range 33 {
		for place := range 32 {
			for _, a := range []uint32{1 << (31 - place), math.MaxUint32 << (31 - place)} {
				want := api.OK
				if place >= bits {
					want = api.ErrForm
				}
				checkRight(t, api.Peer{Key: long, Nets: []api.Net{{Addr: a, Bits: bits}}}, want)
			}
		}
		checkRight(t, api.Peer{Key: long, Nets: []api.Net{{Bits: bits}}}, api.OK)
	}
	for _, bits := range badBits {
		for _, a := range []uint32{0, 1, 0x0a020000, math.MaxUint32} {
			checkRight(t, api.Peer{Key: long, Nets: []api.Net{{Addr: a, Bits: bits}}}, api.ErrRange)
		}
	}
}

// TestRightCounts covers P13.1 for each number of nets; too many come ahead of what is wrong with one.
func TestRightCounts(t *testing.T) {
	for n := range 40 {
		want := api.OK
		if n > mostNets {
			want = api.ErrSize
		}
		checkRight(t, api.Peer{Key: long, Nets: sixteens(0, n)}, want)
	}
	for _, n := range []int{mostNets + 1, 255, 256, 257, 256 + mostNets, 65536, 65536 + 1, 1 << 20} {
		checkRight(t, api.Peer{Key: long, Nets: make([]api.Net, n)}, api.ErrSize)
		checkRight(t, api.Peer{Key: long, Nets: slices.Repeat([]api.Net{{Bits: 33}}, n)}, api.ErrSize)
		checkRight(t, api.Peer{Key: long, Nets: slices.Repeat([]api.Net{{Addr: 1}}, n)}, api.ErrSize)
	}
}

// TestRightOrderOfNets covers ErrTwice of P13.1: each net is greater than the one ahead of it, by its address and then by its bits.
func TestRightOrderOfNets(t *testing.T) {
	ordered := []api.Net{
		{}, {Bits: 1}, {Bits: 16}, {Bits: 32}, {Addr: 1, Bits: 32}, {Addr: 0x0a000000, Bits: 8}, {Addr: 0x0a000000, Bits: 16}, {Addr: 0x0a010000, Bits: 16}, {Addr: 0x0a010000, Bits: 32},
		{Addr: 0x0b000000, Bits: 8}, {Addr: 0x7fffffff, Bits: 32}, {Addr: 1 << 31, Bits: 1}, {Addr: 1 << 31, Bits: 2}, {Addr: math.MaxUint32, Bits: 32},
	}
	for i, n := range ordered {
		for j, m := range ordered {
			want := api.OK
			if j <= i {
				want = api.ErrTwice
			}
			checkRight(t, api.Peer{Key: long, Nets: []api.Net{n, m}}, want)
			if i > 0 {
				checkRight(t, api.Peer{Key: long, Nets: []api.Net{{}, n, m}}, want)
			}
		}
	}
	for n := 2; n <= mostNets; n++ {
		for i := 1; i < n; i++ {
			same, less, far := sixteens(1, n), sixteens(1, n), sixteens(1, n)
			same[i] = same[i-1]
			less[i] = sixteen(0)
			far[i] = far[0]
			for _, nets := range [][]api.Net{same, less, far} {
				checkRight(t, api.Peer{Key: long, Nets: nets}, api.ErrTwice)
			}
		}
	}
}

// TestRightNetErrors covers P13.1: each net is wrong in turn, and what is wrong with an earlier one, or with its form, comes first.
func TestRightNetErrors(t *testing.T) {
	for n := 1; n <= mostNets; n++ {
		for i := range n {
			// All of these are less than the net ahead of them, too.
			above, below, form := sixteens(1, n), sixteens(1, n), sixteens(1, n)
			above[i] = api.Net{Bits: 33}
			below[i] = api.Net{Addr: 1, Bits: -1}
			form[i] = api.Net{Addr: 1, Bits: 31}
			checkRight(t, api.Peer{Key: long, Nets: above}, api.ErrRange)
			checkRight(t, api.Peer{Key: long, Nets: below}, api.ErrRange)
			checkRight(t, api.Peer{Key: long, Nets: form}, api.ErrForm)
			for j := i + 1; j < n; j++ {
				above[j] = api.Net{Addr: 1, Bits: 31}
				form[j] = api.Net{Bits: 33}
			}
			checkRight(t, api.Peer{Key: long, Nets: above}, api.ErrRange)
			checkRight(t, api.Peer{Key: long, Nets: form}, api.ErrForm)
			if i > 0 {
				form[i] = form[i-1]
				checkRight(t, api.Peer{Key: long, Nets: form}, api.ErrTwice)
			}
		}
	}
}

// peerFault is one thing that is wrong with a peer of three nets.
type peerFault struct {
	spoil func(*api.Peer)
	want  api.Errno
}

// peerFaults in the order of P13.1. Where two of them concern one field, the spoiling of the earlier one counts.
var peerFaults = []peerFault{
	{func(p *api.Peer) { p.Key = "x" }, api.ErrSize},
	{func(p *api.Peer) { p.Key = strings.ToUpper(long) }, api.ErrForm},
	{func(p *api.Peer) { p.Shared = "x" }, api.ErrSize},
	{func(p *api.Peer) { p.Shared = zeros }, api.ErrForm},
	{func(p *api.Peer) { p.Endpoint = "x" }, api.ErrForm},
	{func(p *api.Peer) { p.Alive = -1 }, api.ErrRange},
	{func(p *api.Peer) { p.Nets = append(p.Nets, sixteens(200, mostNets-2)...) }, api.ErrSize},
	{func(p *api.Peer) { p.Nets[0].Bits = 33 }, api.ErrRange},
	{func(p *api.Peer) { p.Nets[0] = api.Net{Addr: 1, Bits: 16} }, api.ErrForm},
	{func(p *api.Peer) { p.Nets[1].Bits = -1 }, api.ErrRange},
	{func(p *api.Peer) { p.Nets[1] = api.Net{Addr: 1, Bits: 16} }, api.ErrForm},
	{func(p *api.Peer) { p.Nets[1] = p.Nets[0] }, api.ErrTwice},
	{func(p *api.Peer) { p.Nets[2].Bits = 33 }, api.ErrRange},
}

// TestRightOrder covers the order of the errors of P13.1: of any faults together, the first one counts.
func TestRightOrder(t *testing.T) {
	for chosen := 1; chosen < 1<<len(peerFaults); chosen++ {
		p, want := fullPeer(1), api.OK
		for i, fault := range slices.Backward(peerFaults) {
			if chosen>>i&1 == 1 {
				fault.spoil(&p)
				want = fault.want
			}
		}
		checkRight(t, p, want)
	}
}

// TestFind covers P13.2 for each number of peers.
func TestFind(t *testing.T) {
	for n := range mostPeers + 1 {
		c := fullConf()
		c.Peers = c.Peers[:n]
		for i := range n {
			checkFind(t, c, keyOf(i+1), i, api.OK)
		}
		for _, key := range []string{"", keyOf(0), keyOf(n + 1), keyOf(15), long, zeros, keyOf(1)[1:], keyOf(1) + "1", "x", "spare", "10.0.0.2:2000"} {
			checkFind(t, c, key, 0, api.ErrNone)
		}
	}
	checkFind(t, api.Conf{}, "", 0, api.ErrNone)
	checkFind(t, api.Conf{Peers: []api.Peer{}}, "", 0, api.ErrNone)
	checkFind(t, api.Conf{Key: long}, long, 0, api.ErrNone)
}

// TestFindInvalid covers P13.2 where the configuration is not right: of peers with one key the first one counts, in whatever order they are, and also if no key is one.
func TestFindInvalid(t *testing.T) {
	twice := api.Conf{Port: -1, Peers: []api.Peer{{Key: "b"}, {Key: "a"}, {Key: "b", Alive: 7}, {Key: ""}, {Key: "a"}, {Key: "\xff"}, {Key: ""}, {Key: "c"}}}
	for i, key := range []string{"b", "a", "b", "", "a", "\xff", "", "c"} {
		checkFind(t, twice, key, []int{0, 1, 0, 3, 1, 5, 3, 7}[i], api.OK)
	}
	for _, key := range []string{"B", "ab", "\x00", " ", "a ", "\ufffd"} {
		checkFind(t, twice, key, 0, api.ErrNone)
	}
	many := api.Conf{}
	for i := range 70000 {
		many.Peers = append(many.Peers, api.Peer{Key: strconv.Itoa(i)})
	}
	for _, i := range []int{0, 5, 6, 255, 256, 65535, 65536, 69999} {
		checkFind(t, many, strconv.Itoa(i), i, api.OK)
	}
	checkFind(t, many, "70000", 0, api.ErrNone)
}

// TestCheck covers P13.3 where there is no error.
func TestCheck(t *testing.T) {
	checkConf(t, api.Conf{}, api.OK)
	checkConf(t, api.Conf{Peers: []api.Peer{}}, api.OK)
	checkConf(t, api.Conf{Key: long}, api.OK)
	checkConf(t, api.Conf{Key: zeros}, api.OK)
	checkConf(t, api.Conf{Peers: []api.Peer{{Key: zeros}}}, api.OK)
	checkConf(t, api.Conf{Key: long, Peers: []api.Peer{{Key: zeros}, {Key: keyOf(15)}}}, api.OK)
	for n := range mostPeers + 1 {
		c := fullConf()
		c.Peers = c.Peers[:n]
		checkConf(t, c, api.OK)
		c.Key = ""
		checkConf(t, c, api.OK)
		// The order of keys concerns the peers alone.
		c.Key = zeros
		checkConf(t, c, api.OK)
	}
	// Peers may have all but their keys and nets in common.
	checkConf(t, api.Conf{Peers: []api.Peer{
		{Key: keyOf(1), Shared: long, Endpoint: "1.2.3.4:5", Alive: 7}, {Key: keyOf(2), Shared: long, Endpoint: "1.2.3.4:5", Alive: 7},
	}}, api.OK)
	// A shared key may be the key of whomever.
	checkConf(t, api.Conf{Key: keyOf(1), Peers: []api.Peer{{Key: keyOf(2), Shared: keyOf(1)}, {Key: keyOf(3), Shared: keyOf(2)}}}, api.OK)
}

// TestCheckKey covers the errors of the Key of P13.3: each length, and each byte at each place.
func TestCheckKey(t *testing.T) {
	for _, n := range []int{1, 2, 31, 32, 62, 63, 65, 66, 127, 128, 256 + 64, 65536 + 64, 1 << 20} {
		for _, c := range []string{"0", "a", "A", " ", "\xff"} {
			checkConf(t, api.Conf{Key: strings.Repeat(c, n)}, api.ErrSize)
		}
	}
	for place := range 64 {
		for c := range 256 {
			want := api.OK
			if !strings.Contains(digits, string([]byte{byte(c)})) {
				want = api.ErrForm
			}
			checkConf(t, api.Conf{Key: zeros[:place] + string([]byte{byte(c)}) + zeros[place+1:]}, want)
		}
	}
	checkConf(t, api.Conf{Key: strings.ToUpper(long)}, api.ErrForm)
}

// TestCheckPort covers P13.3 for each port, and ErrRange beyond them.
func TestCheckPort(t *testing.T) {
	for n := range mostNumber + 1 {
		checkConf(t, api.Conf{Port: n}, api.OK)
	}
	for _, n := range badNumbers {
		checkConf(t, api.Conf{Port: n}, api.ErrRange)
		checkConf(t, api.Conf{Key: long, Port: n, Peers: fullConf().Peers}, api.ErrRange)
	}
}

// TestCheckCounts covers ErrSize of P13.3: too many peers come ahead of what is wrong with one.
func TestCheckCounts(t *testing.T) {
	c := fullConf()
	for n := 7; n < 15; n++ {
		c.Peers = append(c.Peers, fullPeer(n))
		checkConf(t, c, api.ErrSize)
	}
	for _, n := range []int{mostPeers + 1, 255, 256, 257, 256 + mostPeers, 65536, 65536 + 1} {
		checkConf(t, api.Conf{Peers: make([]api.Peer, n)}, api.ErrSize)
		checkConf(t, api.Conf{Peers: slices.Repeat([]api.Peer{{Key: strings.ToUpper(long)}}, n)}, api.ErrSize)
		checkConf(t, api.Conf{Key: long, Peers: slices.Repeat([]api.Peer{{Key: long}}, n)}, api.ErrSize)
	}
}

// TestCheckPeers covers P13.3: each fault of a peer, at each place.
func TestCheckPeers(t *testing.T) {
	for n := 1; n <= mostPeers; n++ {
		for i := range n {
			for k, fault := range peerFaults {
				c := fullConf()
				c.Peers = c.Peers[:n]
				fault.spoil(&c.Peers[i])
				checkConf(t, c, fault.want)
				for j := i + 1; j < n; j++ {
					peerFaults[(k+1)%len(peerFaults)].spoil(&c.Peers[j])
				}
				checkConf(t, c, fault.want)
			}
		}
	}
}

// TestCheckOrderOfKeys covers ErrTwice of P13.3 for the keys of the peers: each is greater than the one ahead of it, byte by byte.
func TestCheckOrderOfKeys(t *testing.T) {
	ordered := []string{zeros, zeros[1:] + "1", zeros[1:] + "a", zeros[1:] + "f", zeros[:32] + keyOf(1)[:32], long, keyOf(1), keyOf(9), "9" + keyOf(10)[1:], "a" + zeros[1:], keyOf(10), "b" + zeros[1:], keyOf(15)}
	for i, key := range ordered {
		for j, other := range ordered {
			want := api.OK
			if j <= i {
				want = api.ErrTwice
			}
			checkConf(t, api.Conf{Peers: []api.Peer{{Key: key}, {Key: other}}}, want)
			if i > 0 {
				checkConf(t, api.Conf{Peers: []api.Peer{{Key: zeros}, {Key: key}, {Key: other}}}, want)
			}
		}
	}
	for n := 2; n <= mostPeers; n++ {
		for i := 1; i < n; i++ {
			for _, key := range []string{keyOf(0), keyOf(1), keyOf(i)} {
				c := fullConf()
				c.Peers = c.Peers[:n]
				c.Peers[i].Key = key
				checkConf(t, c, api.ErrTwice)
				// What is wrong with the peer itself comes ahead of that.
				c.Peers[i].Alive = -1
				checkConf(t, c, api.ErrRange)
			}
		}
	}
}

// TestCheckOwnKey covers ErrTwice of P13.3 for the Key of the configuration: no peer has it.
func TestCheckOwnKey(t *testing.T) {
	for n := 1; n <= mostPeers; n++ {
		for i := range n {
			c := fullConf()
			c.Peers = c.Peers[:n]
			c.Key = c.Peers[i].Key
			checkConf(t, c, api.ErrTwice)
			if i+1 < n {
				// It comes ahead of what is wrong with a later peer.
				c.Peers[i+1].Alive = -1
				checkConf(t, c, api.ErrTwice)
			}
			c.Peers[i].Endpoint = "x"
			checkConf(t, c, api.ErrForm)
		}
	}
	checkConf(t, api.Conf{Key: zeros, Peers: []api.Peer{{Key: zeros}}}, api.ErrTwice)
	checkConf(t, api.Conf{Key: zeros, Peers: []api.Peer{{Key: zeros[1:] + "1"}}}, api.OK)
}

// TestCheckNets covers ErrTwice of P13.3 for nets: each pair of places among all peers.
func TestCheckNets(t *testing.T) {
	full := api.Conf{}
	for n := range mostPeers {
		full.Peers = append(full.Peers, api.Peer{Key: keyOf(n), Nets: sixteens(mostNets*n, mostNets)})
	}
	checkConf(t, full, api.OK)
	for i := range mostPeers {
		for j := i + 1; j < mostPeers; j++ {
			for at := range mostNets {
				for _, from := range []int{0, 3, mostNets - 1} {
					c := cloneOf(full)
					c.Peers[j].Nets = []api.Net{full.Peers[i].Nets[from]}
					checkConf(t, c, api.ErrTwice)
					// Among other nets, of which those ahead of it are less.
					c.Peers[j].Nets = slices.Concat(make([]api.Net, 0, mostNets), lesser(at), c.Peers[j].Nets, sixteens(100, mostNets-1-at))
					checkConf(t, c, api.ErrTwice)
				}
			}
		}
	}
}

// lesser: so many nets that are less than all of sixteens.
func lesser(n int) []api.Net {
	nets := make([]api.Net, n)
	for i := range nets {
		nets[i] = api.Net{Addr: uint32(i), Bits: 32}
	}
	return nets
}

// TestCheckNetsWithin covers P13.3: a net of one peer may lie within one of another peer, as long as the two are not the same.
func TestCheckNetsWithin(t *testing.T) {
	for bits := range 33 {
		for other := range 33 {
			want := api.OK
			if bits == other {
				want = api.ErrTwice
			}
			checkConf(t, api.Conf{Peers: []api.Peer{{Key: keyOf(1), Nets: []api.Net{{Bits: bits}}}, {Key: keyOf(2), Nets: []api.Net{{Bits: other}}}}}, want)
		}
	}
	// The order of nets concerns each peer by itself.
	checkConf(t, api.Conf{Peers: []api.Peer{{Key: keyOf(1), Nets: sixteens(7, 2)}, {Key: keyOf(2), Nets: sixteens(5, 2)}}}, api.OK)
	// A net of the same peer is twice as well.
	checkConf(t, api.Conf{Peers: []api.Peer{{Key: keyOf(1), Nets: []api.Net{sixteen(1), sixteen(1)}}}}, api.ErrTwice)
	// It comes ahead of what is wrong with a later peer, and after what is wrong with its own one.
	three := api.Conf{Peers: []api.Peer{{Key: keyOf(1), Nets: sixteens(1, 1)}, {Key: keyOf(2), Nets: sixteens(1, 1)}, {Key: "x"}}}
	checkConf(t, three, api.ErrTwice)
	three.Peers[1].Shared = zeros
	checkConf(t, three, api.ErrForm)
}

// confFaults in the order of P13.3, for a configuration of the peers 1 to 6.
var confFaults = []struct {
	spoil func(*api.Conf)
	want  api.Errno
}{
	{func(c *api.Conf) { c.Key = "x" }, api.ErrSize},
	{func(c *api.Conf) { c.Key = strings.ToUpper(long) }, api.ErrForm},
	{func(c *api.Conf) { c.Port = mostNumber + 1 }, api.ErrRange},
	{func(c *api.Conf) { c.Peers = append(c.Peers, fullPeer(7)) }, api.ErrSize},
	{func(c *api.Conf) { c.Peers[0].Shared = zeros }, api.ErrForm},
	{func(c *api.Conf) { c.Peers[0].Key = c.Key }, api.ErrTwice},
	{func(c *api.Conf) { c.Peers[1].Alive = -1 }, api.ErrRange},
	{func(c *api.Conf) { c.Peers[1].Nets[2] = c.Peers[0].Nets[0] }, api.ErrTwice},
	{func(c *api.Conf) { c.Peers[2].Nets = sixteens(100, mostNets+1) }, api.ErrSize},
	{func(c *api.Conf) { c.Peers[2].Key = keyOf(1) }, api.ErrTwice},
	{func(c *api.Conf) { c.Peers[3].Endpoint = "x" }, api.ErrForm},
	{func(c *api.Conf) { c.Peers[3].Nets[0] = c.Peers[0].Nets[2] }, api.ErrTwice},
	{func(c *api.Conf) { c.Peers[5].Alive = mostNumber + 1 }, api.ErrRange},
}

// TestCheckOrder covers the order of the errors of P13.3, and P13.5 with it: of any faults together, the first one counts.
func TestCheckOrder(t *testing.T) {
	for chosen := 1; chosen < 1<<len(confFaults); chosen++ {
		c, want := fullConf(), api.OK
		c.Key = keyOf(0)
		for i, fault := range slices.Backward(confFaults) {
			if chosen>>i&1 == 1 {
				fault.spoil(&c)
				want = fault.want
			}
		}
		checkConf(t, c, want)
	}
}

// invalidConfs, which are copied nevertheless.
func invalidConfs() []api.Conf {
	odd := api.Peer{Key: "\xff\x00", Shared: zeros, Endpoint: "nowhere", Alive: math.MinInt, Nets: []api.Net{{Addr: 7, Bits: 99}, {Addr: 7, Bits: 99}, {}, {Bits: math.MinInt}}}
	many := api.Conf{Key: strings.Repeat("k", 1<<10), Port: math.MaxInt}
	for i := range 300 {
		many.Peers = append(many.Peers, api.Peer{Key: strconv.Itoa(-i), Nets: sixteens(0, i)})
	}
	return []api.Conf{{Key: "x"}, {Port: -1}, {Peers: make([]api.Peer, 100)}, {Key: "\x00", Port: math.MinInt, Peers: []api.Peer{odd, odd, {}, odd}}, many}
}

// TestCopy covers P13.4.
func TestCopy(t *testing.T) {
	for n := range mostPeers + 1 {
		c := fullConf()
		c.Peers = c.Peers[:n]
		checkCopy(t, c)
	}
	for _, c := range append(invalidConfs(), api.Conf{}, api.Conf{Peers: []api.Peer{}}, api.Conf{Key: long, Peers: []api.Peer{{Key: zeros}, {Key: long, Nets: []api.Net{}}}}) {
		checkCopy(t, c)
	}
	for n := range mostNets + 1 {
		checkCopy(t, api.Conf{Key: long, Port: n, Peers: []api.Peer{{Key: zeros, Nets: sixteens(0, n)}, {Key: keyOf(1), Nets: sixteens(n, mostNets-n)}}})
	}
}

// spoil a result to the end of the capacity of its lists, so that whatever shares their memory shows it.
func spoil(c api.Conf) {
	for i := range c.Peers {
		spoilNets(c.Peers[i].Nets)
	}
	for i := range c.Peers[:cap(c.Peers)] {
		c.Peers[:cap(c.Peers)][i] = api.Peer{Key: "spoilt"}
	}
}

// spoilNets likewise.
func spoilNets(nets []api.Net) {
	for i := range nets[:cap(nets)] {
		nets[:cap(nets)][i] = api.Net{Addr: 9, Bits: 99}
	}
}

// TestCopyIsDeep covers P13.4 and the document's rules on memory, unused capacity included: a copy shares nothing with the argument, or with another copy.
func TestCopyIsDeep(t *testing.T) {
	for _, c := range append(invalidConfs(), fullConf(), api.Conf{}, api.Conf{Peers: []api.Peer{{}, {Nets: sixteens(0, 5)}, {}, {Nets: sixteens(0, 3)}}}) {
		arg := roomy(c)
		first, second := Copy(arg), Copy(arg)
		spoil(first)
		checkUntouched(t, arg, c)
		if !sameConf(second, c) {
			t.Errorf("a copy of %v is %v after the other one was changed", c, second)
		}
		spoil(arg)
		if !sameConf(second, c) {
			t.Errorf("a copy of %v is %v after the argument was changed", c, second)
		}
	}
}

// TestCopyLists covers P13.4 and the rule that no two lists of one result share memory, also where those of the argument do.
func TestCopyLists(t *testing.T) {
	shared := sixteens(0, 10)
	for _, c := range []api.Conf{
		fullConf(),
		{Peers: []api.Peer{{Nets: shared}, {Nets: shared}, {Nets: shared[:3]}, {Nets: shared[2:5]}, {Nets: shared[:0]}, {}}},
	} {
		before := cloneOf(c)
		for i := range c.Peers {
			got := Copy(c)
			spoilNets(got.Peers[i].Nets)
			for j, p := range got.Peers {
				if j != i && !samePeer(p, before.Peers[j]) {
					t.Errorf("peer %d of a copy is %v after the nets of peer %d were changed, want %v", j, p, i, before.Peers[j])
				}
			}
		}
		if !sameConf(c, before) {
			t.Errorf("the argument is %v afterwards, was %v", c, before)
		}
	}
}

// checkNodes: the Tree of a configuration is a list that is written out.
func checkNodes(t *testing.T, c api.Conf, want []api.Node) {
	t.Helper()
	if got, err := Tree(c); err != api.OK || !slices.Equal(got, want) {
		t.Errorf("Tree(%v) = %v, %d, want %v, 0", c, got, err, want)
	}
	checkConf(t, c, api.OK)
}

// TestTree covers P13.5 with lists that are written out, the example of the chapter first.
func TestTree(t *testing.T) {
	checkNodes(t, api.Conf{Peers: []api.Peer{{Key: keyOf(1), Nets: sixteens(1, 1)}, {Key: keyOf(2), Nets: sixteens(2, 1)}}}, []api.Node{
		{Net: api.Net{Addr: 0x0a000000, Bits: 14}, Size: 3}, {Net: sixteen(1), Owner: keyOf(1), Size: 1}, {Net: sixteen(2), Owner: keyOf(2), Size: 1},
	})
	checkNodes(t, api.Conf{}, nil)
	checkNodes(t, api.Conf{Key: long, Port: 1, Peers: []api.Peer{{Key: keyOf(1)}, {Key: keyOf(2), Nets: []api.Net{}}}}, nil)
	checkNodes(t, api.Conf{Peers: []api.Peer{{Key: keyOf(1)}, {Key: keyOf(2), Nets: []api.Net{{}}}}}, []api.Node{{Owner: keyOf(2), Size: 1}})
	// The nets of one peer lie around those of another one, whose key is less.
	checkNodes(t, api.Conf{Key: long, Peers: []api.Peer{
		{Key: keyOf(3), Shared: long, Endpoint: "1.2.3.4:5", Alive: 5, Nets: []api.Net{sixteen(1), {Addr: math.MaxUint32, Bits: 32}}},
		{Key: keyOf(5), Nets: []api.Net{{Addr: 0x0a000000, Bits: 8}, {Addr: 0x0a010203, Bits: 32}}},
	}}, []api.Node{
		{Size: 5},
		{Net: api.Net{Addr: 0x0a000000, Bits: 8}, Owner: keyOf(5), Size: 3}, {Net: sixteen(1), Owner: keyOf(3), Size: 2}, {Net: api.Net{Addr: 0x0a010203, Bits: 32}, Owner: keyOf(5), Size: 1},
		{Net: api.Net{Addr: math.MaxUint32, Bits: 32}, Owner: keyOf(3), Size: 1},
	})
}

// randomNet is often near to a few others.
func randomNet(r *rand.Rand) api.Net {
	a := []uint32{0, 0x0a010203, 0x0a010000, math.MaxUint32, r.Uint32()}[r.Intn(5)] ^ 1<<r.Intn(32)
	bits := r.Intn(33)
	return api.Net{Addr: uint32(uint64(a) >> (32 - bits) << (32 - bits)), Bits: bits}
}

// randomConf that is right.
func randomConf(r *rand.Rand) api.Conf {
	chosen := r.Perm(16)[:mostPeers+1]
	c := api.Conf{Key: []string{"", keyOf(chosen[mostPeers])}[r.Intn(2)], Port: r.Intn(mostNumber + 1)}
	chosen = chosen[:r.Intn(mostPeers+1)]
	slices.Sort(chosen)
	taken := map[api.Net]bool{}
	for _, n := range chosen {
		p := api.Peer{Key: keyOf(n), Shared: []string{"", long}[r.Intn(2)], Endpoint: []string{"", endpoints[r.Intn(len(endpoints))]}[r.Intn(2)], Alive: r.Intn(mostNumber + 1)}
		for range r.Intn(mostNets + 1) {
			if x := randomNet(r); !taken[x] {
				taken[x] = true
				p.Nets = append(p.Nets, x)
			}
		}
		slices.SortFunc(p.Nets, func(x, y api.Net) int { return int(rank(x)) - int(rank(y)) })
		c.Peers = append(c.Peers, p)
	}
	return c
}

// TestManyConfs covers P13.1 to P13.5 for right configurations all over the range.
func TestManyConfs(t *testing.T) {
	r := rand.New(rand.NewSource(13))
	for range 5000 {
		c := randomConf(r)
		checkConf(t, c, api.OK)
		checkCopy(t, c)
		for i, p := range c.Peers {
			checkRight(t, p, api.OK)
			checkFind(t, c, p.Key, i, api.OK)
		}
		checkFind(t, c, c.Key, 0, api.ErrNone)
	}
}

// change one thing of a configuration, for better or worse.
func change(r *rand.Rand, c *api.Conf) {
	keys := []string{"", long, zeros, "x", strings.ToUpper(long), keyOf(r.Intn(16)), keyOf(r.Intn(16))}
	key := keys[r.Intn(len(keys))]
	if len(c.Peers) == 0 || r.Intn(8) == 0 {
		c.Key = key
		return
	}
	p, other := &c.Peers[r.Intn(len(c.Peers))], c.Peers[r.Intn(len(c.Peers))]
	switch r.Intn(9) {
	case 0:
		c.Port = badNumbers[r.Intn(len(badNumbers))]
	case 1:
		c.Peers = append(c.Peers, api.Peer{Key: keyOf(r.Intn(16))})
	case 2:
		p.Key = key
	case 3:
		p.Shared = key
	case 4:
		p.Endpoint = badEndpoints[r.Intn(len(badEndpoints))]
	case 5:
		p.Alive = badNumbers[r.Intn(len(badNumbers))]
	case 6:
		p.Nets = append(p.Nets, randomNet(r))
	case 7:
		p.Nets = append(p.Nets, api.Net{Addr: r.Uint32(), Bits: r.Intn(35) - 1})
	case 8:
		p.Nets = slices.Clone(other.Nets)
	}
}

// TestManyWrong covers P13.3 and P13.5 for configurations with a few changes.
func TestManyWrong(t *testing.T) {
	r := rand.New(rand.NewSource(14))
	for range 20000 {
		c := randomConf(r)
		for range 1 + r.Intn(3) {
			change(r, &c)
		}
		checkConf(t, c, wantCheck(c))
		checkCopy(t, c)
		for i, p := range c.Peers {
			first := slices.IndexFunc(c.Peers, func(q api.Peer) bool { return q.Key == p.Key })
			checkFind(t, c, p.Key, first, api.OK)
			checkRight(t, c.Peers[i], wantRight(p))
		}
	}
}

// TestTreeIsNew covers P13.5 and the document's rules on memory, unused capacity included, and determinism.
func TestTreeIsNew(t *testing.T) {
	one := api.Conf{Peers: []api.Peer{{Key: long, Nets: sixteens(1, 1)}}}
	for _, c := range []api.Conf{{}, one, fullConf()} {
		arg := roomy(c)
		first, err := Tree(arg)
		second, again := Tree(arg)
		if !reflect.DeepEqual(first, second) || err != again {
			t.Errorf("Tree(%v) = %v, %d, and then %v, %d", c, first, err, second, again)
		}
		kept := slices.Clone(second)
		for i := range first[:cap(first)] {
			first[:cap(first)][i] = api.Node{Owner: "spoilt", Size: -9}
		}
		checkUntouched(t, arg, c)
		spoil(arg)
		if !slices.Equal(second, kept) {
			t.Errorf("a Tree of %v is %v after another one and the argument were changed, want %v", c, second, kept)
		}
	}
}
