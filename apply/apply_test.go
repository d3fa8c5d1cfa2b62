package apply

import (
	"maps"
	"math"
	"math/rand"
	"slices"
	"strconv"
	"strings"
	"testing"

	"cattlecreep/api"
	"cattlecreep/batch"
	"cattlecreep/conf"
)

// The numbers of the kinds, and the limits: a configuration has at most six peers, each of these at most eight nets, a port and an interval are at most 65535, and a text has at most 3000 bytes and 60 lines.
const (
	ownKey     = 1
	port       = 2
	noPeers    = 3
	peerKey    = 4
	remove     = 5
	shared     = 6
	endpoint   = 7
	alive      = 8
	noNets     = 9
	allowedNet = 10

	mostPeers  = 6
	mostNets   = 8
	mostNumber = 65535
	mostText   = 3000
	mostLines  = 60
)

const (
	digits = "0123456789abcdef"
	long   = digits + digits + digits + digits
	zeros  = "0000000000000000000000000000000000000000000000000000000000000000"
	end    = "10.0.0.2:2000"
	farEnd = "255.255.255.255:65535"
)

// Kinds after which no peer is set, and those that concern the peer that is set.
var (
	ownKinds  = []int{ownKey, port, noPeers}
	peerKinds = []int{remove, shared, endpoint, alive, noNets, allowedNet}
)

// keyOf a digit.
func keyOf(n int) string {
	return strings.Repeat(digits[n:n+1], 64)
}

// sixteen: the net of the first 16 bits of 10.n.0.0.
func sixteen(n int) api.Net {
	return api.Net{Addr: 0x0a000000 + uint32(n)<<16, Bits: 16}
}

// sixteens: so many of these nets, from one on.
func sixteens(from, count int) []api.Net {
	nets := make([]api.Net, count)
	for i := range nets {
		nets[i] = sixteen(from + i)
	}
	return nets
}

// fullPeer has all its fields.
func fullPeer(n int) api.Peer {
	return api.Peer{Key: keyOf(n), Shared: long, Endpoint: end, Alive: 25, Nets: sixteens(10*n, 3)}
}

// confOf the peers of some digits, which are in order.
func confOf(peers ...int) api.Conf {
	c := api.Conf{Key: keyOf(15), Port: 51820}
	for _, n := range peers {
		c.Peers = append(c.Peers, fullPeer(n))
	}
	return c
}

// fullConf has all its fields, and as many peers as may be, with the keys of the digits 1 to 6.
func fullConf() api.Conf {
	return confOf(1, 2, 3, 4, 5, 6)
}

// Settings of each kind that has a field.
func setKeyOf(n int) api.Setting          { return api.Setting{Kind: ownKey, Text: keyOf(n)} }
func setPort(n int) api.Setting           { return api.Setting{Kind: port, N: n} }
func setPeer(n int) api.Setting           { return api.Setting{Kind: peerKey, Text: keyOf(n)} }
func setShared(text string) api.Setting   { return api.Setting{Kind: shared, Text: text} }
func setEndpoint(text string) api.Setting { return api.Setting{Kind: endpoint, Text: text} }
func setAlive(n int) api.Setting          { return api.Setting{Kind: alive, N: n} }
func setNet(n api.Net) api.Setting        { return api.Setting{Kind: allowedNet, Net: n} }

// plain: a right setting of each kind.
func plain(kind int) api.Setting {
	switch kind {
	case ownKey, peerKey, shared:
		return api.Setting{Kind: kind, Text: keyOf(14)}
	case endpoint:
		return setEndpoint(farEnd)
	case port, alive:
		return api.Setting{Kind: kind, N: 7}
	case allowedNet:
		return setNet(sixteen(200))
	}
	return api.Setting{Kind: kind}
}

// wrongSettings: for each kind, and for none, what batch.Check does not take.
func wrongSettings() []api.Setting {
	l := []api.Setting{
		{}, {Kind: -1}, {Kind: 11}, {Kind: 256 + remove}, {Kind: 1<<32 + noPeers}, {Kind: math.MinInt}, {Kind: math.MaxInt, Text: keyOf(1)},
		{Kind: ownKey}, {Kind: ownKey, Text: "x"}, {Kind: ownKey, Text: strings.ToUpper(long)}, {Kind: peerKey}, {Kind: peerKey, Text: keyOf(1)[1:]}, {Kind: peerKey, Text: long[:63] + "g"},
		setShared(zeros), setShared("x"), setShared(long + "0"), setShared(long[:63] + "\n"), setEndpoint(""), setEndpoint("10.0.0.1"), setEndpoint("10.0.0.1:0"), setEndpoint("10.0.0.1:080"),
		setPort(-1), setPort(mostNumber + 1), setPort(math.MinInt), setPort(math.MaxInt), setAlive(-1), setAlive(mostNumber + 1), setAlive(1 << 32),
		setNet(api.Net{Bits: 33}), setNet(api.Net{Bits: -1}), setNet(api.Net{Addr: 1, Bits: 31}), setNet(api.Net{Addr: 0x0a000001, Bits: 8}),
	}
	for kind := ownKey; kind <= allowedNet; kind++ {
		s := plain(kind)
		if s.Text == "" {
			s.Text = keyOf(1)
			l = append(l, s)
		}
		s = plain(kind)
		if s.N == 0 {
			s.N = 1
			l = append(l, s)
		}
		s = plain(kind)
		if s.Net == (api.Net{}) {
			s.Net = sixteen(1)
			l = append(l, s)
		}
	}
	return l
}

// wrongConfs: configurations that conf.Check does not take, with its errors.
func wrongConfs() map[api.Errno][]api.Conf {
	l := map[api.Errno][]api.Conf{
		api.ErrSize:  {{Key: "x"}, {Peers: make([]api.Peer, mostPeers+1)}, {Peers: []api.Peer{{}}}, {Peers: []api.Peer{{Key: long, Nets: sixteens(0, mostNets+1)}}}},
		api.ErrForm:  {{Key: strings.ToUpper(long)}, {Peers: []api.Peer{{Key: long, Shared: zeros}}}, {Peers: []api.Peer{{Key: long, Endpoint: "x"}}}, {Peers: []api.Peer{{Key: long, Nets: []api.Net{{Addr: 1}}}}}},
		api.ErrRange: {{Port: -1}, {Port: mostNumber + 1}, {Peers: []api.Peer{{Key: long, Alive: -1}}}, {Peers: []api.Peer{{Key: long, Nets: []api.Net{{Bits: 33}}}}}},
	}
	own, order, nets, twice := fullConf(), fullConf(), fullConf(), fullConf()
	own.Key = keyOf(3)
	slices.Reverse(order.Peers)
	slices.Reverse(nets.Peers[5].Nets)
	twice.Peers[5].Nets[2] = twice.Peers[0].Nets[0]
	l[api.ErrTwice] = []api.Conf{own, order, nets, twice}
	return l
}

// rank of a valid net in the order of P7.5.
func rank(n api.Net) uint64 {
	return uint64(n.Addr)*100 + uint64(n.Bits)
}

// model of a configuration: its peers without their nets, and who has each net.
type model struct {
	key    string
	port   int
	peers  map[string]api.Peer
	owners map[api.Net]string
	at     string
}

// modelOf a right configuration.
func modelOf(c api.Conf, at string) *model {
	m := &model{c.Key, c.Port, map[string]api.Peer{}, map[api.Net]string{}, at}
	for _, p := range c.Peers {
		for _, n := range p.Nets {
			m.owners[n] = p.Key
		}
		p.Nets = nil
		m.peers[p.Key] = p
	}
	return m
}

// conf that a model is of.
func (m *model) conf() api.Conf {
	c := api.Conf{Key: m.key, Port: m.port}
	for _, key := range slices.Sorted(maps.Keys(m.peers)) {
		p := m.peers[key]
		p.Nets = m.netsOf(key)
		c.Peers = append(c.Peers, p)
	}
	return c
}

// netsOf the peer with a key.
func (m *model) netsOf(key string) []api.Net {
	var nets []api.Net
	for n, owner := range m.owners {
		if owner == key {
			nets = append(nets, n)
		}
	}
	slices.SortFunc(nets, func(x, y api.Net) int { return int(rank(x)) - int(rank(y)) })
	return nets
}

// forget the nets of the peer with a key.
func (m *model) forget(key string) {
	maps.DeleteFunc(m.owners, func(_ api.Net, owner string) bool { return owner == key })
}

// do a right setting, by the words of the chapter.
func (m *model) do(s api.Setting) api.Errno {
	_, have := m.peers[s.Text]
	switch {
	case s.Kind == ownKey && have || s.Kind == peerKey && s.Text == m.key:
		return api.ErrState
	case s.Kind == ownKey:
		m.key, m.at = s.Text, ""
	case s.Kind == port:
		m.port, m.at = s.N, ""
	case s.Kind == noPeers:
		clear(m.peers)
		clear(m.owners)
		m.at = ""
	case s.Kind == peerKey && !have && len(m.peers) == mostPeers:
		return api.ErrFull
	case s.Kind == peerKey:
		p := m.peers[s.Text]
		p.Key = s.Text
		m.peers[s.Text], m.at = p, s.Text
	default:
		return m.doPeer(s)
	}
	return api.OK
}

// doPeer likewise, for the kinds that concern the peer that is set.
func (m *model) doPeer(s api.Setting) api.Errno {
	p, have := m.peers[m.at]
	if !have {
		return api.ErrIdle
	}
	switch s.Kind {
	case remove:
		m.forget(m.at)
		delete(m.peers, m.at)
		m.at = ""
		return api.OK
	case shared:
		p.Shared = s.Text
	case endpoint:
		p.Endpoint = s.Text
	case alive:
		p.Alive = s.N
	case noNets:
		m.forget(m.at)
	case allowedNet:
		m.owners[s.Net] = m.at
		if len(m.netsOf(m.at)) > mostNets {
			return api.ErrFull
		}
	}
	m.peers[m.at] = p
	return api.OK
}

// wantOne is what One is to return.
func wantOne(c api.Conf, at string, s api.Setting) (api.Conf, string, api.Errno) {
	if err := conf.Check(c); err != api.OK {
		return api.Conf{}, "", err
	}
	if err := batch.Check(s); err != api.OK {
		return api.Conf{}, "", err
	}
	m := modelOf(c, at)
	if err := m.do(s); err != api.OK {
		return api.Conf{}, "", err
	}
	return m.conf(), m.at, api.OK
}

// wantRun is what Run is to return.
func wantRun(c api.Conf, l []api.Setting) (api.Conf, int, api.Errno) {
	if err := conf.Check(c); err != api.OK {
		return api.Conf{}, 0, err
	}
	if len(l) > mostLines {
		return api.Conf{}, 0, api.ErrSize
	}
	m := modelOf(c, "")
	for i, s := range l {
		err := batch.Check(s)
		if err == api.OK {
			err = m.do(s)
		}
		if err != api.OK {
			return api.Conf{}, i + 1, err
		}
	}
	return m.conf(), 0, api.OK
}

// wantText is what Text is to return.
func wantText(c api.Conf, s string) (api.Conf, int, api.Errno) {
	if err := conf.Check(c); err != api.OK {
		return api.Conf{}, 0, err
	}
	l, wrong, err := batch.Parse(s)
	if err != api.OK {
		return api.Conf{}, wrong, err
	}
	return wantRun(c, l)
}

// samePeer: are all fields of two peers the same? A list without elements may be nil or not.
func samePeer(p, q api.Peer) bool {
	return p.Key == q.Key && p.Shared == q.Shared && p.Endpoint == q.Endpoint && p.Alive == q.Alive && slices.Equal(p.Nets, q.Nets)
}

// sameConf: likewise, of two configurations.
func sameConf(c, d api.Conf) bool {
	return c.Key == d.Key && c.Port == d.Port && slices.EqualFunc(c.Peers, d.Peers, samePeer)
}

// cloneOf a configuration, by the test itself.
func cloneOf(c api.Conf) api.Conf {
	peers := append([]api.Peer(nil), c.Peers...)
	for i := range peers {
		peers[i].Nets = append([]api.Net(nil), peers[i].Nets...)
	}
	c.Peers = peers
	return c
}

// What stands where nothing may be changed.
var (
	sparePeer    = api.Peer{Key: "spare", Alive: -7}
	spareNet     = api.Net{Addr: 0xdeadbeef, Bits: -7}
	spareSetting = api.Setting{Kind: -7, Text: "spare"}
)

// roomy is a configuration as an argument: behind each of its lists there is something.
func roomy(c api.Conf) api.Conf {
	c = cloneOf(c)
	for i, p := range c.Peers {
		c.Peers[i].Nets = append(p.Nets, spareNet, spareNet, spareNet)[:len(p.Nets)]
	}
	c.Peers = append(c.Peers, sparePeer, sparePeer, sparePeer)[:len(c.Peers)]
	return c
}

// roomyList of settings likewise.
func roomyList(l []api.Setting) []api.Setting {
	return append(append([]api.Setting(nil), l...), spareSetting, spareSetting)[:len(l)]
}

// checkUntouched: a roomy configuration is as it was, and so is what stands behind its lists.
func checkUntouched(t *testing.T, c, before api.Conf) {
	t.Helper()
	if !sameConf(c, before) {
		t.Errorf("the argument is %v afterwards, was %v", c, before)
	}
	for _, p := range c.Peers[len(c.Peers) : len(c.Peers)+3] {
		if !samePeer(p, sparePeer) {
			t.Errorf("behind the peers is %v afterwards", p)
		}
	}
	for _, p := range c.Peers {
		for _, n := range p.Nets[len(p.Nets) : len(p.Nets)+3] {
			if n != spareNet {
				t.Errorf("behind the nets of a peer is %v afterwards", n)
			}
		}
	}
}

// checkOne: One returns what it is to return, which the test knows, and leaves its arguments as they are.
func checkOne(t *testing.T, c api.Conf, at string, s api.Setting, want api.Conf, wantAt string, wantErr api.Errno) {
	t.Helper()
	if own, ownAt, ownErr := wantOne(c, at, s); !sameConf(own, want) || ownAt != wantAt || ownErr != wantErr {
		t.Fatalf("the test's own answer for %v, %q, %v is %v, %q, %d, want %v, %q, %d", c, at, s, own, ownAt, ownErr, want, wantAt, wantErr)
	}
	arg := roomy(c)
	got, gotAt, err := One(arg, at, s)
	if !sameConf(got, want) || gotAt != wantAt || err != wantErr {
		t.Errorf("One(%v, %q, %v) = %v, %q, %d, want %v, %q, %d", c, at, s, got, gotAt, err, want, wantAt, wantErr)
	}
	if wrong := conf.Check(got); wrong != api.OK {
		t.Errorf("One(%v, %q, %v) = %v, which has the error %d", c, at, s, got, wrong)
	}
	checkUntouched(t, arg, c)
}

// checkModel: likewise, where the model alone knows it.
func checkModel(t *testing.T, c api.Conf, at string, s api.Setting) (api.Conf, string) {
	t.Helper()
	want, wantAt, wantErr := wantOne(c, at, s)
	checkOne(t, c, at, s, want, wantAt, wantErr)
	return want, wantAt
}

// checkWrong: One returns an error, and nothing beside it.
func checkWrong(t *testing.T, c api.Conf, at string, s api.Setting, want api.Errno) {
	t.Helper()
	checkOne(t, c, at, s, api.Conf{}, "", want)
}

// checkRun: Run returns what it is to return, and leaves its arguments as they are; and so does Text, if the settings have one.
func checkRun(t *testing.T, c api.Conf, l []api.Setting, want api.Conf, wantWrong int, wantErr api.Errno) {
	t.Helper()
	if own, ownWrong, ownErr := wantRun(c, l); !sameConf(own, want) || ownWrong != wantWrong || ownErr != wantErr {
		t.Fatalf("the test's own answer for %v, %v is %v, %d, %d, want %v, %d, %d", c, l, own, ownWrong, ownErr, want, wantWrong, wantErr)
	}
	arg, list := roomy(c), roomyList(l)
	if got, wrong, err := Run(arg, list); !sameConf(got, want) || wrong != wantWrong || err != wantErr {
		t.Errorf("Run(%v, %v) = %v, %d, %d, want %v, %d, %d", c, l, got, wrong, err, want, wantWrong, wantErr)
	}
	checkUntouched(t, arg, c)
	if !slices.Equal(list, l) || !slices.Equal(list[len(l):len(l)+2], []api.Setting{spareSetting, spareSetting}) {
		t.Errorf("the settings are %v afterwards, were %v", list[:len(l)+2], l)
	}
	if text, err := batch.Print(l); err == api.OK {
		checkText(t, c, text, want, wantWrong, wantErr)
	}
}

// checkNoRun: Run returns an error, and nothing beside it but a number.
func checkNoRun(t *testing.T, c api.Conf, l []api.Setting, wantWrong int, want api.Errno) {
	t.Helper()
	checkRun(t, c, l, api.Conf{}, wantWrong, want)
}

// checkText: Text returns what it is to return, and leaves its argument as it is.
func checkText(t *testing.T, c api.Conf, s string, want api.Conf, wantWrong int, wantErr api.Errno) {
	t.Helper()
	if own, ownWrong, ownErr := wantText(c, s); !sameConf(own, want) || ownWrong != wantWrong || ownErr != wantErr {
		t.Fatalf("the test's own answer for %v, %q is %v, %d, %d, want %v, %d, %d", c, s, own, ownWrong, ownErr, want, wantWrong, wantErr)
	}
	arg := roomy(c)
	if got, wrong, err := Text(arg, s); !sameConf(got, want) || wrong != wantWrong || err != wantErr {
		t.Errorf("Text(%v, %q) = %v, %d, %d, want %v, %d, %d", c, s, got, wrong, err, want, wantWrong, wantErr)
	}
	checkUntouched(t, arg, c)
}

// checkNoText: Text returns an error, and nothing beside it but a number.
func checkNoText(t *testing.T, c api.Conf, s string, wantWrong int, want api.Errno) {
	t.Helper()
	checkText(t, c, s, api.Conf{}, wantWrong, want)
}

// TestExample of the chapter: a net moves from one peer to another one.
func TestExample(t *testing.T) {
	c := api.Conf{Peers: []api.Peer{{Key: keyOf(1), Nets: sixteens(1, 2)}}}
	want := api.Conf{Peers: []api.Peer{{Key: keyOf(1), Nets: sixteens(2, 1)}, {Key: keyOf(2), Nets: sixteens(1, 1)}}}
	checkRun(t, c, []api.Setting{setPeer(2), setNet(sixteen(1))}, want, 0, api.OK)
	checkText(t, c, "public_key="+keyOf(2)+"\nallowed_ip=10.1.0.0/16", want, 0, api.OK)
	// The example of the whole system configures a daemon with these lines.
	checkText(t, api.Conf{}, "private_key="+strings.Repeat("12", 32)+"\npublic_key="+strings.Repeat("13", 32)+"\nendpoint=10.0.0.2:2000\nallowed_ip=10.2.0.0/16", api.Conf{
		Key: strings.Repeat("12", 32), Peers: []api.Peer{{Key: strings.Repeat("13", 32), Endpoint: "10.0.0.2:2000", Nets: sixteens(2, 1)}},
	}, 0, api.OK)
}

// ats: keys of peers, and what is no key of one.
func ats() []string {
	l := []string{"", "x", long, zeros, keyOf(1)[1:], keyOf(1) + "1", strings.ToUpper(keyOf(10)), "\x00", "spare", strings.Repeat("1", 1<<16)}
	for n := range 16 {
		l = append(l, keyOf(n))
	}
	return l
}

// TestOwnKey covers P14.1 for OwnKey: any key that no peer has, and no peer is set then.
func TestOwnKey(t *testing.T) {
	for n := range mostPeers + 1 {
		for digit := range 16 {
			c := fullConf()
			c.Peers = c.Peers[:n]
			for _, own := range []string{"", keyOf(15), long} {
				c.Key = own
				if digit >= 1 && digit <= n {
					checkWrong(t, c, "", setKeyOf(digit), api.ErrState)
					checkWrong(t, c, keyOf(digit), setKeyOf(digit), api.ErrState)
					checkWrong(t, c, keyOf(1), setKeyOf(digit), api.ErrState)
					continue
				}
				want := cloneOf(c)
				want.Key = keyOf(digit)
				checkOne(t, c, "", setKeyOf(digit), want, "", api.OK)
				checkOne(t, c, keyOf(1), setKeyOf(digit), want, "", api.OK)
			}
		}
	}
	// A shared key may be the key of whomever.
	c := fullConf()
	want := fullConf()
	want.Key = long
	checkOne(t, c, keyOf(1), api.Setting{Kind: ownKey, Text: long}, want, "", api.OK)
	// Only the very key of a peer is in the way.
	for place := range 64 {
		want.Key = keyOf(1)[:place] + "0" + keyOf(1)[place+1:]
		checkOne(t, c, "", api.Setting{Kind: ownKey, Text: want.Key}, want, "", api.OK)
	}
}

// TestPort covers P14.1 for each port.
func TestPort(t *testing.T) {
	for n := range mostNumber + 1 {
		checkOne(t, api.Conf{Port: 5}, "", setPort(n), api.Conf{Port: n}, "", api.OK)
	}
	for _, n := range []int{0, 1, 80, 51820, mostNumber} {
		want := fullConf()
		want.Port = n
		for _, at := range ats() {
			checkOne(t, fullConf(), at, setPort(n), want, "", api.OK)
		}
	}
}

// TestNoPeers covers P14.1 for NoPeers, with each number of peers.
func TestNoPeers(t *testing.T) {
	for n := range mostPeers + 1 {
		c := fullConf()
		c.Peers = c.Peers[:n]
		for _, at := range ats() {
			checkOne(t, c, at, api.Setting{Kind: noPeers}, api.Conf{Key: keyOf(15), Port: 51820}, "", api.OK)
		}
	}
	checkOne(t, api.Conf{}, "", api.Setting{Kind: noPeers}, api.Conf{}, "", api.OK)
	checkOne(t, api.Conf{Peers: []api.Peer{}}, "", api.Setting{Kind: noPeers}, api.Conf{}, "", api.OK)
}

// TestPeerKey covers P14.1 for PeerKey: a peer that there is, and a new one at each place.
func TestPeerKey(t *testing.T) {
	for chosen := range 1 << 8 {
		var digits []int
		for n := range 8 {
			if chosen>>n&1 == 1 {
				digits = append(digits, n+1)
			}
		}
		if len(digits) > mostPeers {
			continue
		}
		for n := range 10 {
			c := confOf(digits...)
			place, found := slices.BinarySearch(digits, n)
			want := c
			switch {
			case !found && len(digits) == mostPeers:
				checkWrong(t, c, "", setPeer(n), api.ErrFull)
				checkWrong(t, c, keyOf(digits[0]), setPeer(n), api.ErrFull)
				continue
			case !found:
				want.Peers = slices.Concat(c.Peers[:place], []api.Peer{{Key: keyOf(n)}}, c.Peers[place:])
			}
			checkOne(t, c, "", setPeer(n), want, keyOf(n), api.OK)
			checkOne(t, c, keyOf(3), setPeer(n), want, keyOf(n), api.OK)
		}
	}
}

// TestPeerKeyOrder covers P14.1: keys are compared byte by byte, so that digits come ahead of letters.
func TestPeerKeyOrder(t *testing.T) {
	ordered := []string{zeros, zeros[1:] + "1", zeros[1:] + "a", zeros[:32] + keyOf(1)[:32], long, keyOf(1), keyOf(9), "9" + keyOf(10)[1:], "a" + zeros[1:], keyOf(10), "b" + zeros[1:], keyOf(15)}
	for i, first := range ordered {
		for j, second := range ordered {
			if i == j {
				continue
			}
			want := api.Conf{Peers: []api.Peer{{Key: ordered[min(i, j)]}, {Key: ordered[max(i, j)]}}}
			checkOne(t, api.Conf{Peers: []api.Peer{{Key: first}}}, "", api.Setting{Kind: peerKey, Text: second}, want, second, api.OK)
		}
	}
}

// TestPeerKeyErrors covers the errors of PeerKey of P14.1: the key of the configuration comes ahead of the number of peers.
func TestPeerKeyErrors(t *testing.T) {
	for n := range mostPeers + 1 {
		c := fullConf()
		c.Peers = c.Peers[:n]
		for _, at := range ats() {
			checkWrong(t, c, at, setPeer(15), api.ErrState)
		}
	}
	c := fullConf()
	for _, at := range ats() {
		checkWrong(t, c, at, setPeer(7), api.ErrFull)
		checkWrong(t, c, at, setPeer(0), api.ErrFull)
		checkOne(t, c, at, setPeer(6), c, keyOf(6), api.OK)
	}
	// Without a key of its own, a configuration takes any peer.
	checkOne(t, api.Conf{}, "", setPeer(15), api.Conf{Peers: []api.Peer{{Key: keyOf(15)}}}, keyOf(15), api.OK)
	c.Key = ""
	checkWrong(t, c, "", setPeer(15), api.ErrFull)
}

// TestIdle covers ErrIdle of P14.1: each kind that concerns a peer, where none is set, or where there is none of this key.
func TestIdle(t *testing.T) {
	for n := range mostPeers + 1 {
		c := fullConf()
		c.Peers = c.Peers[:n]
		for _, kind := range peerKinds {
			for _, at := range ats() {
				if !slices.ContainsFunc(c.Peers, func(p api.Peer) bool { return p.Key == at }) {
					checkWrong(t, c, at, plain(kind), api.ErrIdle)
				}
			}
			checkWrong(t, api.Conf{}, "", plain(kind), api.ErrIdle)
			checkWrong(t, api.Conf{Key: long}, long, plain(kind), api.ErrIdle)
		}
	}
	// The nets that another peer has are not asked for then.
	checkWrong(t, fullConf(), "", setNet(sixteen(10)), api.ErrIdle)
}

// TestRemove covers P14.1 for Remove, at each place among each number of peers.
func TestRemove(t *testing.T) {
	for n := 1; n <= mostPeers; n++ {
		for i := range n {
			c := fullConf()
			c.Peers = c.Peers[:n]
			want := c
			want.Peers = slices.Concat(c.Peers[:i], c.Peers[i+1:])
			checkOne(t, c, keyOf(i+1), api.Setting{Kind: remove}, want, "", api.OK)
		}
	}
}

// checkField: a setting changes one field of each peer, and nothing else, and the peer remains set.
func checkField(t *testing.T, s api.Setting, change func(*api.Peer)) {
	t.Helper()
	for i := range mostPeers {
		want := fullConf()
		change(&want.Peers[i])
		checkOne(t, fullConf(), keyOf(i+1), s, want, keyOf(i+1), api.OK)
	}
	empty := api.Peer{Key: keyOf(3)}
	change(&empty)
	checkOne(t, api.Conf{Peers: []api.Peer{{Key: keyOf(3)}}}, keyOf(3), s, api.Conf{Peers: []api.Peer{empty}}, keyOf(3), api.OK)
}

// TestFields covers P14.1 for Shared, Endpoint, Alive and NoNets.
func TestFields(t *testing.T) {
	for _, text := range []string{"", long, keyOf(1), keyOf(2), keyOf(15), zeros[1:] + "1"} {
		checkField(t, setShared(text), func(p *api.Peer) { p.Shared = text })
	}
	for _, text := range []string{end, farEnd, "0.0.0.0:1", "1.2.3.4:5", "127.0.0.1:51820"} {
		checkField(t, setEndpoint(text), func(p *api.Peer) { p.Endpoint = text })
	}
	for _, n := range []int{0, 1, 24, 25, 26, 255, 256, mostNumber - 1, mostNumber} {
		checkField(t, setAlive(n), func(p *api.Peer) { p.Alive = n })
	}
	checkField(t, api.Setting{Kind: noNets}, func(p *api.Peer) { p.Nets = nil })
	for n := range mostNets + 1 {
		c := api.Conf{Peers: []api.Peer{{Key: keyOf(1), Alive: n, Nets: sixteens(0, n)}, {Key: keyOf(2), Nets: sixteens(n, mostNets-n)}}}
		want := cloneOf(c)
		want.Peers[0].Nets = nil
		checkOne(t, c, keyOf(1), api.Setting{Kind: noNets}, want, keyOf(1), api.OK)
	}
}

// TestNetPlaces covers P14.1 for AllowedNet: a net comes to its place among each number of nets, in the order of P7.5.
func TestNetPlaces(t *testing.T) {
	ordered := []api.Net{
		{}, {Bits: 1}, {Bits: 32}, {Addr: 1, Bits: 32}, {Addr: 0x0a000000, Bits: 8}, {Addr: 0x0a000000, Bits: 16}, {Addr: 0x0a010000, Bits: 16}, {Addr: 0x0b000000, Bits: 8},
		{Addr: 0x7fffffff, Bits: 32}, {Addr: 1 << 31, Bits: 1}, {Addr: 1 << 31, Bits: 2}, {Addr: math.MaxUint32, Bits: 32},
	}
	for chosen := range 1 << len(ordered) {
		var nets []api.Net
		for i, n := range ordered {
			if chosen>>i&1 == 1 {
				nets = append(nets, n)
			}
		}
		if len(nets) > mostNets {
			continue
		}
		c := api.Conf{Peers: []api.Peer{{Key: keyOf(1), Nets: nets}}}
		for i, n := range ordered {
			after := chosen | 1<<i
			if after != chosen && len(nets) == mostNets {
				checkWrong(t, c, keyOf(1), setNet(n), api.ErrFull)
				continue
			}
			want := api.Peer{Key: keyOf(1)}
			for j, m := range ordered {
				if after>>j&1 == 1 {
					want.Nets = append(want.Nets, m)
				}
			}
			checkOne(t, c, keyOf(1), setNet(n), api.Conf{Peers: []api.Peer{want}}, keyOf(1), api.OK)
		}
	}
}

// TestNetMoves covers P14.1 for AllowedNet: each net of each peer moves to each peer, and is nowhere else then.
func TestNetMoves(t *testing.T) {
	for from := range mostPeers {
		for to := range mostPeers {
			for i := range 3 {
				c, want := fullConf(), fullConf()
				n := c.Peers[from].Nets[i]
				if from != to {
					want.Peers[from].Nets = slices.Delete(want.Peers[from].Nets, i, i+1)
					nets := append(want.Peers[to].Nets, n)
					if from < to {
						nets = slices.Concat([]api.Net{n}, want.Peers[to].Nets)
					}
					want.Peers[to].Nets = nets
				}
				checkOne(t, c, keyOf(to+1), setNet(n), want, keyOf(to+1), api.OK)
			}
		}
	}
	// A peer that gives its only net away remains.
	c := api.Conf{Peers: []api.Peer{{Key: keyOf(1), Alive: 5, Nets: sixteens(1, 1)}, {Key: keyOf(2)}}}
	want := api.Conf{Peers: []api.Peer{{Key: keyOf(1), Alive: 5}, {Key: keyOf(2), Nets: sixteens(1, 1)}}}
	checkOne(t, c, keyOf(2), setNet(sixteen(1)), want, keyOf(2), api.OK)
}

// TestNetWithin covers P14.1: a net that lies within one of another peer, or around it, is another net, which stays where it is.
func TestNetWithin(t *testing.T) {
	for bits := range 33 {
		for other := range 33 {
			c := api.Conf{Peers: []api.Peer{{Key: keyOf(1), Nets: []api.Net{{Bits: bits}}}, {Key: keyOf(2)}}}
			want := cloneOf(c)
			want.Peers[1].Nets = []api.Net{{Bits: other}}
			if other == bits {
				want.Peers[0].Nets = nil
			}
			checkOne(t, c, keyOf(2), setNet(api.Net{Bits: other}), want, keyOf(2), api.OK)
		}
	}
	for bit := range 32 {
		n := api.Net{Addr: 1 << bit, Bits: 32}
		c := api.Conf{Peers: []api.Peer{{Key: keyOf(1), Nets: []api.Net{{Bits: 32}}}, {Key: keyOf(2)}}}
		want := cloneOf(c)
		want.Peers[1].Nets = []api.Net{n}
		checkOne(t, c, keyOf(2), setNet(n), want, keyOf(2), api.OK)
	}
}

// TestNetFull covers ErrFull of P14.1: a peer of MaxNets nets takes none but those that it has, whoever has the net.
func TestNetFull(t *testing.T) {
	for n := range mostNets + 1 {
		c := api.Conf{Peers: []api.Peer{{Key: keyOf(1), Nets: sixteens(100, mostNets)}, {Key: keyOf(2), Nets: sixteens(50, n)}, {Key: keyOf(3), Nets: sixteens(200, mostNets)}}}
		for _, net := range []api.Net{sixteen(10), sixteen(70), sixteen(101), sixteen(104), sixteen(107), sixteen(200), sixteen(220), {}} {
			if n == mostNets {
				checkWrong(t, c, keyOf(2), setNet(net), api.ErrFull)
			} else {
				checkModel(t, c, keyOf(2), setNet(net))
			}
		}
		for i := range n {
			checkOne(t, c, keyOf(2), setNet(sixteen(50+i)), c, keyOf(2), api.OK)
		}
		if n < mostNets {
			// Both of the others are full.
			checkWrong(t, c, keyOf(1), setNet(sixteen(200)), api.ErrFull)
			checkWrong(t, c, keyOf(3), setNet(sixteen(100)), api.ErrFull)
			checkWrong(t, c, keyOf(3), setNet(sixteen(50+n)), api.ErrFull)
		}
	}
}

// TestAt covers P14.1: which peer is set after each setting, with each peer ahead of it.
func TestAt(t *testing.T) {
	for n := 1; n <= mostPeers; n++ {
		for _, kind := range ownKinds {
			checkModel(t, fullConf(), keyOf(n), plain(kind))
			if _, at, err := One(fullConf(), keyOf(n), plain(kind)); at != "" || err != api.OK {
				t.Errorf("after kind %d, %q is set (error %d), want none", kind, at, err)
			}
		}
		for _, kind := range peerKinds {
			want := keyOf(n)
			if kind == remove {
				want = ""
			}
			if _, at, err := One(fullConf(), keyOf(n), plain(kind)); at != want || err != api.OK {
				t.Errorf("after kind %d, %q is set (error %d), want %q", kind, at, err, want)
			}
		}
	}
}

// TestOneOrder covers the order of the errors of P14.1: the configuration, then the setting, then what the setting meets.
func TestOneOrder(t *testing.T) {
	for want, confs := range wrongConfs() {
		for _, c := range confs {
			for _, at := range []string{"", keyOf(1), keyOf(3), long} {
				for kind := ownKey; kind <= allowedNet; kind++ {
					checkWrong(t, c, at, plain(kind), want)
				}
				for _, s := range wrongSettings() {
					checkWrong(t, c, at, s, want)
				}
			}
		}
	}
	full := fullConf()
	full.Peers[0].Nets = sixteens(10, mostNets)
	full.Peers[1].Nets = nil
	for _, s := range wrongSettings() {
		want := batch.Check(s)
		if want == api.OK {
			t.Errorf("batch.Check takes %v", s)
		}
		for _, c := range []api.Conf{{}, {Key: long}, full} {
			for _, at := range []string{"", keyOf(1), keyOf(7), keyOf(15), "x"} {
				checkWrong(t, c, at, s, want)
			}
		}
	}
}

// several settings, each of which may be done after those ahead of it.
func several() []api.Setting {
	return []api.Setting{
		setKeyOf(0), setPort(80), setPeer(9), setShared(long), setNet(sixteen(9)), setEndpoint(end), setPeer(8), setAlive(25), setNet(sixteen(9)), setNet(sixteen(8)),
		setPeer(9), setNet(sixteen(7)), {Kind: noNets}, setShared(""), setPeer(10), {Kind: remove}, setPeer(8), setEndpoint(farEnd),
	}
}

// TestRun covers P14.2 with a list that is written out.
func TestRun(t *testing.T) {
	want := api.Conf{Key: keyOf(0), Port: 80, Peers: []api.Peer{
		{Key: keyOf(8), Endpoint: farEnd, Alive: 25, Nets: sixteens(8, 2)},
		{Key: keyOf(9), Endpoint: end},
	}}
	checkRun(t, api.Conf{}, several(), want, 0, api.OK)
	checkRun(t, fullConf(), append([]api.Setting{{Kind: noPeers}}, several()...), want, 0, api.OK)
	want.Peers = append(confOf(1, 2).Peers, want.Peers...)
	checkRun(t, confOf(1, 2), several(), want, 0, api.OK)
	// The same settings may be done again.
	checkRun(t, want, several(), want, 0, api.OK)
	for _, c := range []api.Conf{{}, {Peers: []api.Peer{}}, {Key: long}, fullConf(), want} {
		checkRun(t, c, nil, c, 0, api.OK)
		checkRun(t, c, []api.Setting{}, c, 0, api.OK)
	}
}

// TestRunStart covers P14.2: at first no peer is set, whichever there are, and none is after the kinds that set none.
func TestRunStart(t *testing.T) {
	for n := range mostPeers + 1 {
		c := fullConf()
		c.Peers = c.Peers[:n]
		for _, kind := range peerKinds {
			checkNoRun(t, c, []api.Setting{plain(kind)}, 1, api.ErrIdle)
			checkNoRun(t, c, []api.Setting{setPort(1), plain(kind)}, 2, api.ErrIdle)
		}
	}
	for _, kind := range peerKinds {
		for _, none := range append(ownKinds, remove) {
			checkNoRun(t, api.Conf{}, []api.Setting{setPeer(1), plain(none), plain(kind)}, 3, api.ErrIdle)
			checkNoRun(t, confOf(1, 2), []api.Setting{setPeer(1), plain(none), plain(kind)}, 3, api.ErrIdle)
		}
		for _, one := range peerKinds[1:] {
			l := []api.Setting{setPeer(1), plain(one), plain(kind)}
			want, _, err := wantRun(api.Conf{}, l)
			checkRun(t, api.Conf{}, l, want, 0, err)
			checkRun(t, api.Conf{}, append(l, setPeer(2), setAlive(5)), confWith(want, api.Peer{Key: keyOf(2), Alive: 5}), 0, api.OK)
		}
	}
}

// confWith a peer more, which is the last one.
func confWith(c api.Conf, p api.Peer) api.Conf {
	c.Peers = slices.Concat(c.Peers, []api.Peer{p})
	return c
}

// TestRunWhere covers P14.2: each error of One, at each place, with the number of its setting, and also if later ones are wrong.
func TestRunWhere(t *testing.T) {
	good := slices.Concat(several(), several(), several(), several())[:mostLines-2]
	wrong := append(wrongSettings(), setKeyOf(9), setPeer(0))
	for place := range len(good) {
		ahead := good[:place]
		for _, s := range wrong {
			_, number, want := wantRun(api.Conf{}, append(slices.Clone(ahead), s))
			if number != 0 {
				list := slices.Concat(ahead, []api.Setting{s}, good[place:])
				checkNoRun(t, api.Conf{}, list, place+1, want)
				list = slices.Concat(ahead, []api.Setting{s, wrong[place%len(wrong)], {}})
				checkNoRun(t, api.Conf{}, list, place+1, want)
			}
		}
	}
	full := api.Conf{Key: keyOf(15), Peers: []api.Peer{{Key: keyOf(1), Nets: sixteens(0, mostNets)}}}
	for n := range mostPeers - 1 {
		var l []api.Setting
		for i := range mostPeers - 1 {
			l = append(l, setPeer(i+2))
		}
		checkNoRun(t, full, append(l, setPeer(n+2), setPeer(7)), mostPeers+1, api.ErrFull)
		checkNoRun(t, full, append(l[:n:n], setPeer(15)), n+1, api.ErrState)
		checkNoRun(t, full, append(l[:n:n], setKeyOf(1)), n+1, api.ErrState)
		checkNoRun(t, full, append(l[:n:n], setPeer(1), setNet(sixteen(20))), n+2, api.ErrFull)
	}
}

// TestRunCounts covers ErrSize of P14.2: it comes ahead of what is wrong with a setting.
func TestRunCounts(t *testing.T) {
	for n := range mostLines + 1 {
		list := make([]api.Setting, n)
		want := api.Conf{}
		for i := range list {
			list[i] = setPort(1000 + i)
			want.Port = 1000 + i
		}
		checkRun(t, api.Conf{}, list, want, 0, api.OK)
	}
	for _, n := range []int{mostLines + 1, mostLines + 2, 100, 255, 256, 257, 256 + mostLines, 65536, 65536 + 1, 1 << 20} {
		for _, s := range []api.Setting{setPort(1), {}, {Kind: remove}, setPort(-1), setPeer(1)} {
			checkNoRun(t, api.Conf{}, slices.Repeat([]api.Setting{s}, n), 0, api.ErrSize)
		}
	}
}

// TestRunOrder covers P14.2 and P14.3: what is wrong with the configuration comes first, with 0.
func TestRunOrder(t *testing.T) {
	for want, confs := range wrongConfs() {
		for _, c := range confs {
			for _, l := range [][]api.Setting{nil, {setPort(1)}, {{Kind: remove}}, {{}}, {{Kind: noPeers}}, {setKeyOf(0)}, several(), make([]api.Setting, mostLines+1)} {
				checkNoRun(t, c, l, 0, want)
			}
			for _, text := range []string{"", "listen_port=1", "what=1", "=", "remove=true", "replace_peers=true", strings.Repeat("a", mostText+1), strings.Repeat("\n", mostLines)} {
				checkNoText(t, c, text, 0, want)
			}
		}
	}
}

// TestRunReplaces covers P14.2: what was full has room again after a removal, in each order of the settings.
func TestRunReplaces(t *testing.T) {
	want := fullConf()
	want.Peers = append(want.Peers[1:], api.Peer{Key: keyOf(7)})
	checkRun(t, fullConf(), []api.Setting{setPeer(1), {Kind: remove}, setPeer(7)}, want, 0, api.OK)
	checkNoRun(t, fullConf(), []api.Setting{setPeer(1), setPeer(7), {Kind: remove}}, 2, api.ErrFull)
	// The key of a peer that is removed may be the one of the configuration, and the other way about.
	want = confOf(2)
	want.Key = keyOf(1)
	checkRun(t, confOf(1, 2), []api.Setting{setPeer(1), {Kind: remove}, setKeyOf(1)}, want, 0, api.OK)
	checkRun(t, confOf(2), []api.Setting{setKeyOf(1), setPeer(15)}, confWith(want, api.Peer{Key: keyOf(15)}), 0, api.OK)
	checkNoRun(t, confOf(2), []api.Setting{setPeer(15), setKeyOf(1)}, 1, api.ErrState)
	// A peer that comes back has nothing of what it had.
	checkRun(t, confOf(1), []api.Setting{setPeer(1), {Kind: remove}, setPeer(1)}, api.Conf{Key: keyOf(15), Port: 51820, Peers: []api.Peer{{Key: keyOf(1)}}}, 0, api.OK)
	// Nets that another peer takes make room.
	full := api.Conf{Peers: []api.Peer{{Key: keyOf(1), Nets: sixteens(1, mostNets)}, {Key: keyOf(2)}}}
	moved := api.Conf{Peers: []api.Peer{{Key: keyOf(1), Nets: append(sixteens(2, mostNets-1), sixteen(30))}, {Key: keyOf(2), Nets: sixteens(1, 1)}}}
	checkRun(t, full, []api.Setting{setPeer(2), setNet(sixteen(1)), setPeer(1), setNet(sixteen(30))}, moved, 0, api.OK)
	checkNoRun(t, full, []api.Setting{setPeer(2), setPeer(1), setNet(sixteen(30)), setNet(sixteen(1))}, 3, api.ErrFull)
}

// TestText covers P14.3 with texts that are written out.
func TestText(t *testing.T) {
	text := "private_key=" + long + "\nlisten_port=51820\npublic_key=" + keyOf(2) + "\npreshared_key=" + keyOf(3) + "\nendpoint=1.2.3.4:5\npersistent_keepalive_interval=25\n" +
		"allowed_ip=10.1.0.0/16\nallowed_ip=0.0.0.0/0\npublic_key=" + keyOf(1) + "\nallowed_ip=10.1.0.0/16\npreshared_key=" + zeros
	want := api.Conf{Key: long, Port: 51820, Peers: []api.Peer{
		{Key: keyOf(1), Nets: sixteens(1, 1)},
		{Key: keyOf(2), Shared: keyOf(3), Endpoint: "1.2.3.4:5", Alive: 25, Nets: []api.Net{{}}},
	}}
	checkText(t, api.Conf{}, text, want, 0, api.OK)
	want.Peers = want.Peers[:1]
	checkText(t, api.Conf{}, text+"\npublic_key="+keyOf(2)+"\nremove=true", want, 0, api.OK)
	want.Peers[0].Nets = nil
	checkText(t, api.Conf{}, text+"\nreplace_allowed_ips=true\npublic_key="+keyOf(2)+"\nremove=true", want, 0, api.OK)
	want.Peers = nil
	checkText(t, api.Conf{}, text+"\nreplace_peers=true", want, 0, api.OK)
	for _, c := range []api.Conf{{}, {Port: 5}, fullConf()} {
		checkText(t, c, "", c, 0, api.OK)
	}
}

// TestTextErrors covers P14.3: what is wrong with the text comes ahead of what is wrong with a setting, whichever line has it.
func TestTextErrors(t *testing.T) {
	for _, c := range []api.Conf{{}, fullConf()} {
		checkNoText(t, c, "listen_port=1\nwhat=6", 2, api.ErrKind)
		checkNoText(t, c, "listen_port=1\nlisten_port=65536", 2, api.ErrForm)
		checkNoText(t, c, "listen_port=1\n", 2, api.ErrForm)
		checkNoText(t, c, "\n", 1, api.ErrForm)
		checkNoText(t, c, "=true", 1, api.ErrSize)
		checkNoText(t, c, "remove=true", 1, api.ErrIdle)
		checkNoText(t, c, "listen_port=1\nremove=true", 2, api.ErrIdle)
		checkNoText(t, c, "remove=true\nwhat=6", 2, api.ErrKind)
		checkNoText(t, c, "remove=true\nwhat=6\n=", 3, api.ErrSize)
		checkNoText(t, c, "remove=true\nremove=true\nremove=false", 3, api.ErrForm)
		checkNoText(t, c, "remove=true\n"+strings.Repeat("listen_port=1\n", mostLines-1), 0, api.ErrSize)
		checkNoText(t, c, "remove=true\n"+strings.Repeat("a", mostText), 0, api.ErrSize)
		checkNoText(t, c, strings.Repeat("listen_port=1\n", mostLines-1)+"remove=true", mostLines, api.ErrIdle)
		checkNoText(t, c, strings.Repeat("remove=true\n", mostLines-1)+"remove=false", mostLines, api.ErrForm)
	}
	checkNoText(t, api.Conf{}, "public_key="+keyOf(15)+"\nprivate_key="+keyOf(15), 2, api.ErrState)
	checkNoText(t, fullConf(), "public_key="+keyOf(15)+"\nprivate_key="+keyOf(15), 1, api.ErrState)
	checkNoText(t, fullConf(), "public_key="+keyOf(7), 1, api.ErrFull)
	full := strings.Repeat("listen_port=1\n", mostLines-1) + "listen_port=7"
	checkText(t, api.Conf{}, full, api.Conf{Port: 7}, 0, api.OK)
}

// TestTextChanged covers P14.3: a text with any byte at any place, or without one.
func TestTextChanged(t *testing.T) {
	text, err := batch.Print([]api.Setting{setPort(5), setPeer(1), setNet(sixteen(1)), setPeer(2), setNet(sixteen(1)), {Kind: remove}})
	if err != api.OK {
		t.Fatalf("Print returns %d", err)
	}
	for place := range len(text) {
		for c := range 256 {
			checkTextModel(t, confOf(1, 3), text[:place]+string([]byte{byte(c)})+text[place+1:])
		}
		checkTextModel(t, confOf(1, 3), text[:place]+text[place+1:])
		checkTextModel(t, confOf(1, 3), text[:place])
		checkTextModel(t, confOf(1, 3), text[place:])
	}
}

// checkTextModel: Text returns what the model says.
func checkTextModel(t *testing.T, c api.Conf, s string) {
	t.Helper()
	want, wrong, err := wantText(c, s)
	checkText(t, c, s, want, wrong, err)
}

// randomSetting is right more often than not, and often meets what there is.
func randomSetting(r *rand.Rand) api.Setting {
	switch r.Intn(24) {
	case 0:
		return setKeyOf(r.Intn(12))
	case 1:
		return setPort(r.Intn(mostNumber + 1))
	case 2:
		if r.Intn(3) == 0 {
			return api.Setting{Kind: noPeers}
		}
		return api.Setting{Kind: noNets}
	case 3:
		return api.Setting{Kind: remove}
	case 4:
		return setShared([]string{"", long, keyOf(7)}[r.Intn(3)])
	case 5:
		return setEndpoint([]string{end, farEnd}[r.Intn(2)])
	case 6:
		return setAlive(r.Intn(mostNumber + 1))
	case 7, 8, 9, 10, 11, 12, 13:
		return setPeer(r.Intn(10))
	}
	bits := []int{0, 8, 12, 16, 16, 16, 32}[r.Intn(7)]
	return setNet(api.Net{Addr: (0x0a000000 + uint32(r.Intn(24))<<16) & uint32(uint64(math.MaxUint32)<<(32-bits)), Bits: bits})
}

// randomList of settings, of which few are errors.
func randomList(r *rand.Rand, n int) []api.Setting {
	l := []api.Setting{setPeer(r.Intn(10))}
	wrong := wrongSettings()
	for len(l) < n {
		s := randomSetting(r)
		if r.Intn(200) == 0 {
			s = wrong[r.Intn(len(wrong))]
		}
		l = append(l, s)
	}
	return l
}

// TestRandomOne covers P14.1 with random settings one after the other, of which those with an error change nothing.
func TestRandomOne(t *testing.T) {
	seen := map[api.Errno]int{}
	for seed := range 60 {
		r := rand.New(rand.NewSource(int64(seed)))
		c, at := api.Conf{}, ""
		for _, s := range randomList(r, 400) {
			_, _, err := wantOne(c, at, s)
			next, now := checkModel(t, c, at, s)
			seen[err]++
			if err == api.OK {
				c, at = next, now
			}
			if r.Intn(30) == 0 {
				at = keyOf(r.Intn(10))
			}
		}
	}
	for _, err := range []api.Errno{api.OK, api.ErrKind, api.ErrForm, api.ErrRange, api.ErrFull, api.ErrIdle, api.ErrState} {
		if seen[err] < 10 {
			t.Errorf("the error %d is met %d times", err, seen[err])
		}
	}
}

// TestRandomRun covers P14.2 and P14.3 with random lists.
func TestRandomRun(t *testing.T) {
	r := rand.New(rand.NewSource(14))
	seen := map[api.Errno]int{}
	c := api.Conf{}
	for range 4000 {
		l := randomList(r, 1+r.Intn(mostLines+1))
		want, wrong, err := wantRun(c, l)
		checkRun(t, c, l, want, wrong, err)
		seen[err]++
		if err == api.OK {
			c = want
		}
		if wrong > 1 {
			// All that is ahead of the first error is right.
			want, _, _ = wantRun(c, l[:wrong-1])
			checkRun(t, c, l[:wrong-1], want, 0, api.OK)
		}
	}
	for _, err := range []api.Errno{api.OK, api.ErrSize, api.ErrFull, api.ErrIdle, api.ErrState} {
		if seen[err] < 10 {
			t.Errorf("the error %d is met %d times", err, seen[err])
		}
	}
}

// TestSteps covers P14.2: Run is One after One, each with the key that the one ahead of it returned.
func TestSteps(t *testing.T) {
	r := rand.New(rand.NewSource(41))
	for range 500 {
		l := randomList(r, 1+r.Intn(mostLines))
		c, at, err := fullConf(), "", api.OK
		for i, s := range l {
			next, now, wrong := One(c, at, s)
			if err = wrong; err != api.OK {
				checkNoRun(t, fullConf(), l, i+1, err)
				break
			}
			c, at = next, now
		}
		if err == api.OK {
			checkRun(t, fullConf(), l, c, 0, api.OK)
		}
	}
}

// spoil a result to the end of the capacity of its lists, so that whatever shares their memory shows it.
func spoil(c api.Conf) {
	for i := range c.Peers {
		spoilNets(c.Peers[i].Nets)
	}
	for i := range c.Peers[:cap(c.Peers)] {
		c.Peers[:cap(c.Peers)][i] = api.Peer{Key: "spoilt"}
	}
}

// spoilNets likewise.
func spoilNets(nets []api.Net) {
	for i := range nets[:cap(nets)] {
		nets[:cap(nets)][i] = api.Net{Addr: 9, Bits: 99}
	}
}

// checkMemory of what a call makes of a configuration: nothing is shared with the argument, with the result of the same call once more, or between two lists of one result.
func checkMemory(t *testing.T, name string, c api.Conf, call func(api.Conf) api.Conf) {
	t.Helper()
	arg := roomy(c)
	first, second := call(arg), call(arg)
	want := cloneOf(second)
	if !sameConf(first, want) {
		t.Errorf("%s: the same call returns %v and then %v", name, first, want)
	}
	spoil(first)
	checkUntouched(t, arg, c)
	if !sameConf(second, want) {
		t.Errorf("%s: a result is %v after another one was changed, was %v", name, second, want)
	}
	for i := range second.Peers {
		got := call(arg)
		spoilNets(got.Peers[i].Nets)
		for j, p := range got.Peers {
			if j != i && !samePeer(p, want.Peers[j]) {
				t.Errorf("%s: peer %d is %v after the nets of peer %d were changed, was %v", name, j, p, i, want.Peers[j])
			}
		}
	}
	checkUntouched(t, arg, c)
	spoil(arg)
	if !sameConf(second, want) {
		t.Errorf("%s: a result is %v after the argument was changed, was %v", name, second, want)
	}
}

// someConfs that are right.
func someConfs() []api.Conf {
	nets := api.Conf{Peers: []api.Peer{{Key: keyOf(1), Nets: sixteens(0, mostNets)}, {Key: keyOf(2)}, {Key: keyOf(3), Nets: sixteens(20, 1)}}}
	return []api.Conf{{}, {Key: long, Port: 5}, confOf(1), confOf(1, 3), fullConf(), nets}
}

// TestMemoryOfOne covers P14.1 and the document's rules on memory, unused capacity included.
func TestMemoryOfOne(t *testing.T) {
	for i, c := range someConfs() {
		settings := []api.Setting{setPeer(1), setPeer(2), setPeer(7), setNet(sixteen(3)), setNet(sixteen(10)), setNet(sixteen(20)), setNet(sixteen(30))}
		for kind := ownKey; kind <= allowedNet; kind++ {
			settings = append(settings, plain(kind))
		}
		for _, s := range settings {
			for _, at := range []string{"", keyOf(1), keyOf(2), keyOf(3)} {
				checkMemory(t, "One of configuration "+strconv.Itoa(i)+" and kind "+strconv.Itoa(s.Kind), c, func(c api.Conf) api.Conf {
					got, _, _ := One(c, at, s)
					return got
				})
			}
		}
	}
}

// TestMemoryOfRun covers P14.2, P14.3 and the document's rules on memory, also where there is no setting.
func TestMemoryOfRun(t *testing.T) {
	r := rand.New(rand.NewSource(4))
	lists := [][]api.Setting{nil, {setPort(1)}, {setPeer(1), setNet(sixteen(3)), setPeer(3), setNet(sixteen(3)), setNet(sixteen(10)), setPeer(1), setNet(sixteen(40))}, several(), {{Kind: remove}}}
	for range 50 {
		lists = append(lists, randomList(r, 20))
	}
	for i, c := range someConfs() {
		for _, l := range lists {
			checkMemory(t, "Run of configuration "+strconv.Itoa(i), c, func(c api.Conf) api.Conf {
				got, _, _ := Run(c, l)
				return got
			})
			text, err := batch.Print(l)
			if err != api.OK {
				continue
			}
			checkMemory(t, "Text of configuration "+strconv.Itoa(i), c, func(c api.Conf) api.Conf {
				got, _, _ := Text(c, text)
				return got
			})
		}
	}
}

// TestSharedArgument covers the rules on memory where two peers have parts of one list, each with the other one's nets as its unused capacity.
func TestSharedArgument(t *testing.T) {
	all := sixteens(0, 9)
	c := api.Conf{Peers: []api.Peer{{Key: keyOf(1), Nets: all[:3]}, {Key: keyOf(2), Nets: all[3:6]}, {Key: keyOf(3), Nets: all[6:9]}}}
	before := cloneOf(c)
	for n := 1; n <= 3; n++ {
		for i := range 12 {
			want, _, wantErr := wantOne(before, keyOf(n), setNet(sixteen(i)))
			got, _, err := One(c, keyOf(n), setNet(sixteen(i)))
			if !sameConf(got, want) || err != wantErr {
				t.Errorf("One of the peer %d and the net %d = %v, %d, want %v, %d", n, i, got, err, want, wantErr)
			}
			if !sameConf(c, before) || !slices.Equal(all, sixteens(0, 9)) {
				t.Fatalf("the argument is %v afterwards, was %v", c, before)
			}
		}
	}
}
