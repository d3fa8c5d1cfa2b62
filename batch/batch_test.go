package batch

import (
	"math"
	"math/rand"
	"net/netip"
	"regexp"
	"slices"
	"strconv"
	"strings"
	"testing"

	"cattlecreep/api"
)

// The numbers of the kinds, and the limits: a port and an interval are at most 65535, and a text has at most 3000 bytes and 60 lines.
const (
	ownKey     = 1
	port       = 2
	noPeers    = 3
	peerKey    = 4
	remove     = 5
	shared     = 6
	endpoint   = 7
	alive      = 8
	noNets     = 9
	allowedNet = 10

	mostNumber = 65535
	mostText   = 3000
	mostLines  = 60
)

const (
	digits = "0123456789abcdef"
	key    = digits + digits + digits + digits
	zeros  = "0000000000000000000000000000000000000000000000000000000000000000"
)

// keys of the lines of each kind.
var keys = map[int]string{
	ownKey: "private_key", port: "listen_port", noPeers: "replace_peers", peerKey: "public_key", remove: "remove",
	shared: "preshared_key", endpoint: "endpoint", alive: "persistent_keepalive_interval", noNets: "replace_allowed_ips", allowedNet: "allowed_ip",
}

// kinds of settings, in order.
var kinds = []int{ownKey, port, noPeers, peerKey, remove, shared, endpoint, alive, noNets, allowedNet}

// textKinds, numberKinds and trueKinds have the field Text, the field N, and none.
var (
	textKinds   = []int{ownKey, peerKey, shared, endpoint}
	numberKinds = []int{port, alive}
	trueKinds   = []int{noPeers, remove, noNets}
)

// noKinds: numbers that are no kinds, among them those of which a part would be one.
var noKinds = []int{
	0, -1, -2, -9, -10, -11, -255, -252, 11, 12, 13, 16, 20, 100, 255, 256, 257, 258, 266, 1<<16 + 1, 1<<32 + 1, 1<<32 + 2, 1<<32 + 10,
	math.MinInt, math.MinInt + 1, math.MinInt + 2, math.MinInt + 10, math.MaxInt,
}

// badNumbers are out of the range, though the last bytes of some would be in it.
var badNumbers = []int{-1, -2, -65535, -65536, mostNumber + 1, mostNumber + 2, 1 << 17, 1 << 32, 1<<32 + 5, math.MinInt, math.MinInt + 5, math.MaxInt}

// endpoints, and what is none.
var (
	endpoints    = []string{"1.2.3.4:5", "0.0.0.0:1", "255.255.255.255:65535", "10.0.0.1:80", "10.20.30.40:1000", "127.0.0.1:51820"}
	badEndpoints = []string{
		"", ":", ":80", "10.0.0.1", "10.0.0.1:", "10.0.0.1:0", "10.0.0.1:00", "10.0.0.1:080", "10.0.0.1:65536", "10.0.0.1:100000", "10.0.0.1:-1", "10.0.0.1:+1",
		"10.0.0:80", "10.0.0.0.1:80", "10.0.0.256:80", "10.0.0.01:80", "10.0.0.1:80 ", " 10.0.0.1:80", "10.0.0.1::80", "10.0.0.1:80:80", "10.0.0.1/80", "[::1]:80",
		"[::ffff:1.2.3.4]:80", "1.2.3.4:5\n", "1.2.3.4:5\x00", "host:80", "true", "80", key, zeros,
	}
)

// What texts look like; isLine leaves the lengths open.
var (
	isLine   = regexp.MustCompile(`\A[a-z_]+=[!-~]*\z`)
	isKey    = regexp.MustCompile(`\A[0-9a-f]{64}\z`)
	isNumber = regexp.MustCompile(`\A(0|[1-9][0-9]*)\z`)
	isZeros  = regexp.MustCompile(`\A0{64}\z`)
)

// isEnd: is a text an endpoint, by the standard library?
func isEnd(s string) bool {
	end, err := netip.ParseAddrPort(s)
	return err == nil && end.Addr().Is4() && end.Port() > 0 && end.String() == s
}

// isNet: is a text a net, by the standard library?
func isNet(s string) bool {
	prefix, err := netip.ParsePrefix(s)
	return err == nil && prefix.Addr().Is4() && prefix.Masked() == prefix && prefix.String() == s
}

// prefixOf a net, for the standard library.
func prefixOf(n api.Net) netip.Prefix {
	return netip.PrefixFrom(netip.AddrFrom4([4]byte{byte(n.Addr >> 24), byte(n.Addr >> 16), byte(n.Addr >> 8), byte(n.Addr)}), n.Bits)
}

// keyError is that of P1.3.
func keyError(s string) api.Errno {
	switch {
	case len(s) != 64:
		return api.ErrSize
	case !isKey.MatchString(s):
		return api.ErrForm
	}
	return api.OK
}

// wantCheck is what Check is to return, by the words of the chapter.
func wantCheck(s api.Setting) api.Errno {
	if keys[s.Kind] == "" {
		return api.ErrKind
	}
	if s.Text != "" && !slices.Contains(textKinds, s.Kind) || s.N != 0 && !slices.Contains(numberKinds, s.Kind) || s.Net != (api.Net{}) && s.Kind != allowedNet {
		return api.ErrForm
	}
	switch {
	case s.Kind == shared && s.Text == "":
		return api.OK
	case s.Kind == shared && isZeros.MatchString(s.Text):
		return api.ErrForm
	case s.Kind == ownKey || s.Kind == peerKey || s.Kind == shared:
		return keyError(s.Text)
	case s.Kind == endpoint && !isEnd(s.Text):
		return api.ErrForm
	case s.Kind == allowedNet && (s.Net.Bits < 0 || s.Net.Bits > 32):
		return api.ErrRange
	case s.Kind == allowedNet && prefixOf(s.Net).Masked() != prefixOf(s.Net):
		return api.ErrForm
	case slices.Contains(numberKinds, s.Kind) && (s.N < 0 || s.N > mostNumber):
		return api.ErrRange
	}
	return api.OK
}

// wantLine is what Line is to return.
func wantLine(s api.Setting) (api.Line, api.Errno) {
	if err := wantCheck(s); err != api.OK {
		return api.Line{}, err
	}
	l := api.Line{Key: keys[s.Kind], Value: "true"}
	switch {
	case s.Kind == shared && s.Text == "":
		l.Value = zeros
	case slices.Contains(textKinds, s.Kind):
		l.Value = s.Text
	case slices.Contains(numberKinds, s.Kind):
		l.Value = strconv.Itoa(s.N)
	case s.Kind == allowedNet:
		l.Value = prefixOf(s.Net).String()
	}
	return l, api.OK
}

// wantRead is what Read is to return: of each value it tells by itself whether Line writes it.
func wantRead(l api.Line) (api.Setting, api.Errno) {
	s, right := api.Setting{}, false
	for _, kind := range kinds {
		if keys[kind] == l.Key {
			s.Kind = kind
		}
	}
	switch s.Kind {
	case 0:
		return api.Setting{}, api.ErrKind
	case noPeers, remove, noNets:
		right = l.Value == "true"
	case ownKey, peerKey:
		s.Text, right = l.Value, isKey.MatchString(l.Value)
	case shared:
		s.Text, right = l.Value, isKey.MatchString(l.Value)
		if isZeros.MatchString(l.Value) {
			s.Text = ""
		}
	case endpoint:
		s.Text, right = l.Value, isEnd(l.Value)
	case port, alive:
		n, err := strconv.Atoi(l.Value)
		s.N, right = n, err == nil && isNumber.MatchString(l.Value) && n <= mostNumber
	case allowedNet:
		if right = isNet(l.Value); right {
			prefix := netip.MustParsePrefix(l.Value)
			for _, part := range prefix.Addr().As4() {
				s.Net.Addr = s.Net.Addr*256 + uint32(part)
			}
			s.Net.Bits = prefix.Bits()
		}
	}
	if !right {
		return api.Setting{}, api.ErrForm
	}
	return s, api.OK
}

// wantParse is what Parse is to return: first all lines are looked at as lines, and only then as settings.
func wantParse(s string) ([]api.Setting, int, api.Errno) {
	var texts []string
	if s != "" {
		texts = strings.Split(s, "\n")
	}
	if len(s) > mostText || len(texts) > mostLines {
		return nil, 0, api.ErrSize
	}
	for i, text := range texts {
		name, value, found := strings.Cut(text, "=")
		switch {
		case found && (name == "" || len(name) > 30 || len(value) > 70):
			return nil, i + 1, api.ErrSize
		case !isLine.MatchString(text):
			return nil, i + 1, api.ErrForm
		}
	}
	var list []api.Setting
	for i, text := range texts {
		name, value, _ := strings.Cut(text, "=")
		setting, err := wantRead(api.Line{Key: name, Value: value})
		if err != api.OK {
			return nil, i + 1, err
		}
		list = append(list, setting)
	}
	return list, 0, api.OK
}

// textOf the lines of settings that are right, without any limit.
func textOf(l []api.Setting) string {
	texts := make([]string, len(l))
	for i, s := range l {
		x, _ := wantLine(s)
		texts[i] = x.Key + "=" + x.Value
	}
	return strings.Join(texts, "\n")
}

// checkBoth: nothing is wrong with a setting, and it and its line become each other.
func checkBoth(t *testing.T, s api.Setting, l api.Line) {
	t.Helper()
	if err := Check(s); err != api.OK {
		t.Errorf("Check(%v) = %d, want 0", s, err)
	}
	if got, err := Line(s); err != api.OK || got != l {
		t.Errorf("Line(%v) = %q, %d, want %q, 0", s, got, err, l)
	}
	if got, err := Read(l); err != api.OK || got != s {
		t.Errorf("Read(%q) = %v, %d, want %v, 0", l, got, err, s)
	}
}

// checkRight: likewise, with the test's own line.
func checkRight(t *testing.T, s api.Setting) {
	t.Helper()
	l, err := wantLine(s)
	if err != api.OK {
		t.Fatalf("the test's own answer for %v is %d, want 0", s, err)
	}
	checkBoth(t, s, l)
}

// checkWrong: Check, Line and Print have an error, and nothing comes with it.
func checkWrong(t *testing.T, s api.Setting, want api.Errno) {
	t.Helper()
	if own := wantCheck(s); own != want {
		t.Fatalf("the test's own answer for %v is %d, want %d", s, own, want)
	}
	if err := Check(s); err != want {
		t.Errorf("Check(%v) = %d, want %d", s, err, want)
	}
	if l, err := Line(s); err != want || l != (api.Line{}) {
		t.Errorf("Line(%v) = %q, %d, want none, %d", s, l, err, want)
	}
	if text, err := Print([]api.Setting{s}); err != want || text != "" {
		t.Errorf("Print of %v = %q, %d, want none, %d", s, text, err, want)
	}
}

// checkSetting: a setting is right or wrong as the test's own answer says.
func checkSetting(t *testing.T, s api.Setting) {
	t.Helper()
	if err := wantCheck(s); err != api.OK {
		checkWrong(t, s, err)
	} else {
		checkRight(t, s)
	}
}

// checkRead: Read returns what it is to return.
func checkRead(t *testing.T, l api.Line) {
	t.Helper()
	want, wantErr := wantRead(l)
	if got, err := Read(l); err != wantErr || got != want {
		t.Errorf("Read(%q) = %v, %d, want %v, %d", l, got, err, want, wantErr)
	}
}

// checkRefused: Read has an error, and nothing comes with it.
func checkRefused(t *testing.T, l api.Line, want api.Errno) {
	t.Helper()
	if _, own := wantRead(l); own != want {
		t.Fatalf("the test's own answer for %q is %d, want %d", l, own, want)
	}
	checkRead(t, l)
}

// checkParse: Parse returns what it is to return.
func checkParse(t *testing.T, s string) {
	t.Helper()
	want, wantAt, wantErr := wantParse(s)
	if got, at, err := Parse(s); err != wantErr || at != wantAt || !slices.Equal(got, want) {
		t.Errorf("Parse(%q) = %v, %d, %d, want %v, %d, %d", s, got, at, err, want, wantAt, wantErr)
	}
}

// checkNoParse: Parse has an error and the number of a line, and nothing comes with them.
func checkNoParse(t *testing.T, s string, wrong int, want api.Errno) {
	t.Helper()
	if _, at, own := wantParse(s); own != want || at != wrong {
		t.Fatalf("the test's own answer for %q is %d, %d, want %d, %d", s, at, own, wrong, want)
	}
	checkParse(t, s)
}

// checkNoPrint: Print has an error, and nothing comes with it.
func checkNoPrint(t *testing.T, l []api.Setting, want api.Errno) {
	t.Helper()
	if s, err := Print(l); err != want || s != "" {
		t.Errorf("Print(%v) = %q, %d, want none, %d", l, s, err, want)
	}
}

// checkText: settings and a text become each other.
func checkText(t *testing.T, l []api.Setting, s string) {
	t.Helper()
	if got, err := Print(l); err != api.OK || got != s {
		t.Errorf("Print(%v) = %q, %d, want %q, 0", l, got, err, s)
	}
	if got, at, err := Parse(s); err != api.OK || at != 0 || !slices.Equal(got, l) {
		t.Errorf("Parse(%q) = %v, %d, %d, want %v, 0, 0", s, got, at, err, l)
	}
}

// plain setting of a kind, with a field that is not empty or zero if the kind has one.
func plain(kind int) api.Setting {
	s := api.Setting{Kind: kind}
	switch {
	case kind == endpoint:
		s.Text = "10.0.0.1:80"
	case slices.Contains(textKinds, kind):
		s.Text = key
	case slices.Contains(numberKinds, kind):
		s.N = 51820
	case kind == allowedNet:
		s.Net = api.Net{Addr: 0x0a020000, Bits: 16}
	}
	return s
}

// someSettings that are right: each kind, with edge values of its field.
func someSettings() []api.Setting {
	var list []api.Setting
	for _, kind := range kinds {
		list = append(list, plain(kind))
	}
	for _, kind := range numberKinds {
		for _, n := range []int{0, 1, 9, 10, 255, 256, 9999, 10000, mostNumber - 1, mostNumber} {
			list = append(list, api.Setting{Kind: kind, N: n})
		}
	}
	for _, s := range endpoints {
		list = append(list, api.Setting{Kind: endpoint, Text: s})
	}
	for _, n := range []api.Net{{}, {Addr: 0x0a010203, Bits: 32}, {Addr: 0xffffffff, Bits: 32}, {Addr: 0x80000000, Bits: 1}, {Addr: 0, Bits: 32}} {
		list = append(list, api.Setting{Kind: allowedNet, Net: n})
	}
	return append(list, api.Setting{Kind: shared}, api.Setting{Kind: ownKey, Text: zeros}, api.Setting{Kind: peerKey, Text: zeros})
}

// TestExamples covers P12.1 to P12.3 for each kind, with lines that are written out.
func TestExamples(t *testing.T) {
	for _, c := range []struct {
		s          api.Setting
		key, value string
	}{
		{api.Setting{Kind: api.OwnKey, Text: key}, "private_key", key},
		{api.Setting{Kind: api.Port, N: 51820}, "listen_port", "51820"},
		{api.Setting{Kind: api.Port}, "listen_port", "0"},
		{api.Setting{Kind: api.NoPeers}, "replace_peers", "true"},
		{api.Setting{Kind: api.PeerKey, Text: key}, "public_key", key},
		{api.Setting{Kind: api.Remove}, "remove", "true"},
		{api.Setting{Kind: api.Shared, Text: key}, "preshared_key", key},
		{api.Setting{Kind: api.Shared}, "preshared_key", strings.Repeat("0", 64)},
		{api.Setting{Kind: api.Endpoint, Text: "10.0.0.2:2000"}, "endpoint", "10.0.0.2:2000"},
		{api.Setting{Kind: api.Alive, N: 25}, "persistent_keepalive_interval", "25"},
		{api.Setting{Kind: api.Alive, N: 65535}, "persistent_keepalive_interval", "65535"},
		{api.Setting{Kind: api.NoNets}, "replace_allowed_ips", "true"},
		{api.Setting{Kind: api.AllowedNet, Net: api.Net{Addr: 0x0a020000, Bits: 16}}, "allowed_ip", "10.2.0.0/16"},
		{api.Setting{Kind: api.AllowedNet}, "allowed_ip", "0.0.0.0/0"},
		{api.Setting{Kind: api.AllowedNet, Net: api.Net{Addr: 0xc0a80164, Bits: 32}}, "allowed_ip", "192.168.1.100/32"},
	} {
		checkBoth(t, c.s, api.Line{Key: c.key, Value: c.value})
		checkRight(t, c.s)
	}
}

// TestKinds covers ErrKind of P12.1: it comes ahead of all else.
func TestKinds(t *testing.T) {
	for _, kind := range noKinds {
		checkWrong(t, api.Setting{Kind: kind}, api.ErrKind)
		for _, s := range someSettings() {
			s.Kind = kind
			checkWrong(t, s, api.ErrKind)
		}
		checkWrong(t, api.Setting{Kind: kind, Text: "x", N: -1, Net: api.Net{Addr: 1, Bits: 33}}, api.ErrKind)
	}
}

// TestOtherFields covers ErrForm of P12.1 for fields that a kind does not have: it comes ahead of what is wrong with its own field.
func TestOtherFields(t *testing.T) {
	texts := []string{"x", "0", "true", " ", "\x00", key, zeros, "10.0.0.1:80"}
	numbers := []int{1, -1, mostNumber, mostNumber + 1, 256, 1 << 32, math.MinInt, math.MaxInt}
	nets := []api.Net{{Addr: 1}, {Bits: 1}, {Bits: -1}, {Bits: 33}, {Addr: 0x0a020000, Bits: 16}, {Addr: math.MaxUint32, Bits: 32}, {Addr: 1 << 31}, {Bits: 1 << 32}}
	// The last of these is wrong by its own field, if the kind has one.
	for _, s := range append(someSettings(), api.Setting{Kind: ownKey}, api.Setting{Kind: peerKey, Text: "x"}, api.Setting{Kind: shared, Text: "x"},
		api.Setting{Kind: endpoint}, api.Setting{Kind: port, N: -1}, api.Setting{Kind: alive, N: 65536}, api.Setting{Kind: allowedNet, Net: api.Net{Bits: 33}}) {
		for _, text := range texts {
			if other := s; !slices.Contains(textKinds, s.Kind) {
				other.Text = text
				checkWrong(t, other, api.ErrForm)
			}
		}
		for _, n := range numbers {
			if other := s; !slices.Contains(numberKinds, s.Kind) {
				other.N = n
				checkWrong(t, other, api.ErrForm)
			}
		}
		for _, n := range nets {
			if other := s; s.Kind != allowedNet {
				other.Net = n
				checkWrong(t, other, api.ErrForm)
			}
		}
	}
}

// TestNoFields covers P12.1: a field that is empty or zero where the kind wants it otherwise.
func TestNoFields(t *testing.T) {
	for _, kind := range kinds {
		s := api.Setting{Kind: kind}
		switch kind {
		case ownKey, peerKey:
			checkWrong(t, s, api.ErrSize)
		case endpoint:
			checkWrong(t, s, api.ErrForm)
		default:
			checkRight(t, s)
		}
	}
}

// TestKeys covers P12.1 to P12.3 for the texts that are keys: each length, and each byte at each place.
func TestKeys(t *testing.T) {
	for _, kind := range []int{ownKey, peerKey, shared} {
		for _, n := range []int{1, 2, 31, 32, 62, 63, 65, 66, 127, 128, 256 + 64, 65536, 65536 + 64, 1 << 20} {
			for _, c := range []string{"0", "a", "A", " ", "\xff"} {
				s := api.Setting{Kind: kind, Text: strings.Repeat(c, n)}
				checkWrong(t, s, api.ErrSize)
				checkRefused(t, api.Line{Key: keys[kind], Value: s.Text}, api.ErrForm)
			}
		}
		for place := range 64 {
			for c := range 256 {
				for _, from := range []string{key, zeros} {
					s := api.Setting{Kind: kind, Text: from[:place] + string([]byte{byte(c)}) + from[place+1:]}
					checkSetting(t, s)
					checkRead(t, api.Line{Key: keys[kind], Value: s.Text})
				}
			}
		}
		checkWrong(t, api.Setting{Kind: kind, Text: strings.ToUpper(key)}, api.ErrForm)
		checkWrong(t, api.Setting{Kind: kind, Text: strings.Repeat("é", 32)}, api.ErrForm)
		checkRefused(t, api.Line{Key: keys[kind]}, api.ErrForm)
	}
}

// TestShared covers P12.1 to P12.3 for what stands for no shared key: a setting has it empty, and a line has 64 zeros. Other keys may be 64 zeros.
func TestShared(t *testing.T) {
	checkBoth(t, api.Setting{Kind: shared}, api.Line{Key: "preshared_key", Value: zeros})
	checkWrong(t, api.Setting{Kind: shared, Text: zeros}, api.ErrForm)
	checkWrong(t, api.Setting{Kind: shared, Text: zeros[1:]}, api.ErrSize)
	checkWrong(t, api.Setting{Kind: shared, Text: zeros + "0"}, api.ErrSize)
	checkRefused(t, api.Line{Key: "preshared_key"}, api.ErrForm)
	checkBoth(t, api.Setting{Kind: ownKey, Text: zeros}, api.Line{Key: "private_key", Value: zeros})
	checkBoth(t, api.Setting{Kind: peerKey, Text: zeros}, api.Line{Key: "public_key", Value: zeros})
	for place := range 64 {
		text := zeros[:place] + "1" + zeros[place+1:]
		checkBoth(t, api.Setting{Kind: shared, Text: text}, api.Line{Key: "preshared_key", Value: text})
	}
}

// TestEndpoints covers P12.1 to P12.3 for endpoints.
func TestEndpoints(t *testing.T) {
	for _, text := range endpoints {
		checkBoth(t, api.Setting{Kind: endpoint, Text: text}, api.Line{Key: "endpoint", Value: text})
	}
	for _, text := range badEndpoints {
		checkWrong(t, api.Setting{Kind: endpoint, Text: text}, api.ErrForm)
		checkRefused(t, api.Line{Key: "endpoint", Value: text}, api.ErrForm)
	}
	for n := range mostNumber + 300 {
		checkSetting(t, api.Setting{Kind: endpoint, Text: "1.2.3.4:" + strconv.Itoa(n)})
	}
}

// TestNumbers covers P12.1 to P12.3 for each port and each interval, and ErrRange beyond them.
func TestNumbers(t *testing.T) {
	for _, kind := range numberKinds {
		for n := range mostNumber + 1 {
			checkBoth(t, api.Setting{Kind: kind, N: n}, api.Line{Key: keys[kind], Value: strconv.Itoa(n)})
		}
		for _, n := range badNumbers {
			checkWrong(t, api.Setting{Kind: kind, N: n}, api.ErrRange)
			checkRefused(t, api.Line{Key: keys[kind], Value: strconv.Itoa(n)}, api.ErrForm)
		}
		for _, value := range []string{
			"", "00", "01", "007", "-0", "+0", "+1", "-1", " 1", "1 ", "1\n", "1.0", "1e3", "0x1", "1_000", "65536", "65537", "70000", "99999", "100000", "000001", "065535",
			"655350", "18446744073709551616", "18446744073709551623", "4294967301", "a", "true", "١", "１", "\x00", "1\x00", key, zeros, strings.Repeat("9", 1<<16),
		} {
			checkRefused(t, api.Line{Key: keys[kind], Value: value}, api.ErrForm)
		}
	}
}

// TestNets covers P12.1 to P12.3 for nets of each number of bits, and ErrRange and ErrForm in their order.
func TestNets(t *testing.T) {
	for bits := -40; bits < 80; bits++ {
		for place := range 32 {
			for _, a := range []uint32{0, 1 << place, 0xffffffff << place, 0x0a010203 << place} {
				checkSetting(t, api.Setting{Kind: allowedNet, Net: api.Net{Addr: a, Bits: bits}})
			}
		}
	}
	for _, bits := range []int{-1, -16, -32, 33, 34, 48, 64, 255, 256, 256 + 16, 1<<32 + 8, math.MinInt, math.MinInt + 16, math.MaxInt} {
		for _, a := range []uint32{0, 1, 0x0a020000, math.MaxUint32} {
			checkWrong(t, api.Setting{Kind: allowedNet, Net: api.Net{Addr: a, Bits: bits}}, api.ErrRange)
		}
	}
	for bits := range 32 {
		checkWrong(t, api.Setting{Kind: allowedNet, Net: api.Net{Addr: 1, Bits: bits}}, api.ErrForm)
	}
	for _, value := range []string{
		"", "/", "10.2.0.0", "10.2.0.0/", "10.2.0.0/15/", "/16", "10.2.0.0/33", "10.2.0.0/016", "10.2.0.0/00", "10.2.0.0/-1", "10.2.0.0/+16", "10.2.0.1/16", "10.3.0.0/15",
		"10.2.0/16", "10.2/16", "10.02.0.0/16", "10.2.0.0.0/16", "10.256.0.0/16", " 10.2.0.0/16", "10.2.0.0/16 ", "10.2.0.0/16\n", "10.2.0.0:16", "0.0.0.0", "0.0.0.0/00",
		"0.0.0.1/0", "::/0", "::ffff:10.2.0.0/112", "true", "0", "10.2.0.0/255.255.0.0", "10.2.0.0/272",
	} {
		checkRefused(t, api.Line{Key: "allowed_ip", Value: value}, api.ErrForm)
	}
}

// TestTrue covers P12.2 and P12.3 for the kinds without a field: no other value is theirs.
func TestTrue(t *testing.T) {
	for _, kind := range trueKinds {
		checkBoth(t, api.Setting{Kind: kind}, api.Line{Key: keys[kind], Value: "true"})
		for _, value := range []string{"", "t", "tru", "truee", "True", "TRUE", " true", "true ", "true\n", "true\x00", "false", "1", "0", "yes", "truetrue", "trve", "\"true\"", key, zeros} {
			checkRefused(t, api.Line{Key: keys[kind], Value: value}, api.ErrForm)
		}
	}
}

// TestReadKinds covers ErrKind of P12.3: it comes ahead of what is wrong with the value.
func TestReadKinds(t *testing.T) {
	names := []string{
		"", "what", "key", "port", "peers", "privatekey", "private-key", "Private_key", "PRIVATE_KEY", "own_key", "peer_key", "listen", "shared", "alive", "allowed_ips",
		"replace_allowed_ip", "replace_peer", "persistent_keepalive", "persistent_keepalive_interva", "true", "a", "_", " ", "\x00", "1", "10", "protocol_version", "fwmark",
		strings.Repeat("a", 31), strings.Repeat("a", 1<<16),
	}
	for _, name := range keys {
		names = append(names, name+"s", name+" ", name+"\n", name+"\x00", name+"=", "_"+name, " "+name, name[1:], name[:len(name)-1], strings.ToUpper(name), name+name)
	}
	for _, name := range names {
		for _, value := range []string{"", "true", "0", "7", key, zeros, "1.2.3.4:5", "10.2.0.0/16", " ", "\n", "\xff", strings.Repeat("a", 71)} {
			checkRefused(t, api.Line{Key: name, Value: value}, api.ErrKind)
		}
	}
}

// TestReadValues covers P12.3: the values of each kind as those of each other one.
func TestReadValues(t *testing.T) {
	for _, s := range someSettings() {
		l, _ := wantLine(s)
		for _, kind := range kinds {
			checkRead(t, api.Line{Key: keys[kind], Value: l.Value})
		}
	}
	checkRefused(t, api.Line{Key: "endpoint", Value: "10.2.0.0/16"}, api.ErrForm)
	checkRefused(t, api.Line{Key: "allowed_ip", Value: "10.0.0.1:80"}, api.ErrForm)
	checkRefused(t, api.Line{Key: "remove", Value: "7"}, api.ErrForm)
	checkRefused(t, api.Line{Key: "listen_port", Value: "true"}, api.ErrForm)
}

// TestReadChanged covers P12.3 for right lines with one byte changed, put in or left out.
func TestReadChanged(t *testing.T) {
	for _, s := range someSettings() {
		l, _ := wantLine(s)
		for place := range len(l.Value) + 1 {
			for c := range 256 {
				checkRead(t, api.Line{Key: l.Key, Value: l.Value[:place] + string([]byte{byte(c)}) + l.Value[place:]})
				if place < len(l.Value) {
					checkRead(t, api.Line{Key: l.Key, Value: l.Value[:place] + string([]byte{byte(c)}) + l.Value[place+1:]})
				}
			}
			if place < len(l.Value) {
				checkRead(t, api.Line{Key: l.Key, Value: l.Value[:place] + l.Value[place+1:]})
			}
		}
	}
}

// TestTexts covers P12.4 and P12.5 with texts that are written out.
func TestTexts(t *testing.T) {
	checkText(t, nil, "")
	checkText(t, []api.Setting{{Kind: port, N: 51820}}, "listen_port=51820")
	checkText(t, []api.Setting{{Kind: noPeers}, {Kind: endpoint, Text: "1.2.3.4:5"}}, "replace_peers=true\nendpoint=1.2.3.4:5")
	checkText(t, []api.Setting{{Kind: noNets}, {Kind: allowedNet}}, "replace_allowed_ips=true\nallowed_ip=0.0.0.0/0")
	checkText(t, []api.Setting{{Kind: remove}, {Kind: remove}, {Kind: shared}, {Kind: remove}}, "remove=true\nremove=true\npreshared_key="+zeros+"\nremove=true")
	checkText(t, []api.Setting{
		{Kind: ownKey, Text: key}, {Kind: peerKey, Text: zeros}, {Kind: shared, Text: key}, {Kind: alive, N: 25}, {Kind: alive},
	}, "private_key="+key+"\npublic_key="+zeros+"\npreshared_key="+key+"\npersistent_keepalive_interval=25\npersistent_keepalive_interval=0")
	if got, err := Print([]api.Setting{}); err != api.OK || got != "" {
		t.Errorf("Print of no settings = %q, %d, want none, 0", got, err)
	}
}

// TestParseOrder covers P12.4: whatever is wrong for line.Split comes ahead of what is wrong for Read, also on an earlier line.
func TestParseOrder(t *testing.T) {
	checkNoParse(t, "what=7\nremove", 2, api.ErrForm)
	checkNoParse(t, "what=7\n=true", 2, api.ErrSize)
	checkNoParse(t, "what=7\nremove=true\nA=b\n=", 3, api.ErrForm)
	checkNoParse(t, "remove=false\nremove=true\nremove="+strings.Repeat("t", 71), 3, api.ErrSize)
	checkNoParse(t, "remove=false\nremove=tr ue", 2, api.ErrForm)
	checkNoParse(t, "what=7\n", 2, api.ErrForm)
	checkNoParse(t, "what=7\nremove=false", 1, api.ErrKind)
	checkNoParse(t, "remove=false\nwhat=7", 1, api.ErrForm)
	checkNoParse(t, "remove=true\nremove=true\nwhat=7\nlisten_port=x", 3, api.ErrKind)
	checkNoParse(t, "remove=true\nlisten_port=65536\nwhat=7", 2, api.ErrForm)
	checkNoParse(t, "remove=true\nREMOVE=true", 2, api.ErrForm)
	checkNoParse(t, "private_key="+key[1:], 1, api.ErrForm)
	checkNoParse(t, "private_key="+key+key, 1, api.ErrSize)
}

// TestParseLines covers P12.4: the errors of line.Split alone, with their numbers.
func TestParseLines(t *testing.T) {
	checkNoParse(t, "\n", 1, api.ErrForm)
	checkNoParse(t, "remove", 1, api.ErrForm)
	checkNoParse(t, "remove=true\n", 2, api.ErrForm)
	checkNoParse(t, "\nremove=true", 1, api.ErrForm)
	checkNoParse(t, "remove=true\r\nremove=true", 1, api.ErrForm)
	checkNoParse(t, "remove =true", 1, api.ErrForm)
	checkNoParse(t, "=true", 1, api.ErrSize)
	checkNoParse(t, strings.Repeat("a", 31)+"=true", 1, api.ErrSize)
	checkNoParse(t, strings.Repeat("remove=true\n", mostLines), 0, api.ErrSize)
	checkNoParse(t, strings.Repeat("what=7\n", mostLines)+"what=7", 0, api.ErrSize)
	checkNoParse(t, strings.Repeat("\n", mostLines), 0, api.ErrSize)
	checkNoParse(t, strings.Repeat(" ", mostText+1), 0, api.ErrSize)
	checkNoParse(t, strings.Repeat(" ", mostText), 1, api.ErrForm)
	checkNoParse(t, strings.Repeat("x", 1<<20), 0, api.ErrSize)
}

// TestParseWhere covers P12.4: each line is wrong in turn, and then also the ones after it, in another way.
func TestParseWhere(t *testing.T) {
	for _, c := range []struct {
		text, later string
		want        api.Errno
	}{
		{"what=7", "remove=false", api.ErrKind}, {"remove=false", "what=7", api.ErrForm}, {"listen_port=07", "what=7", api.ErrForm}, {"allowed_ip=1.2.3.4/8", "what=7", api.ErrForm},
		{"a=", "remove=", api.ErrKind}, {"private_key=", "a=", api.ErrForm}, {"preshared_key=", "a=", api.ErrForm},
		{"remove", "=", api.ErrForm}, {"=", "remove", api.ErrSize},
	} {
		for n := 1; n <= mostLines; n++ {
			for i := range n {
				lines := slices.Repeat([]string{"remove=true"}, n)
				lines[i] = c.text
				checkNoParse(t, strings.Join(lines, "\n"), i+1, c.want)
				for j := i + 1; j < n; j++ {
					lines[j] = c.later
				}
				checkNoParse(t, strings.Join(lines, "\n"), i+1, c.want)
			}
		}
	}
}

// TestCounts covers P12.4 and P12.5 for each number of settings, and the ErrSize of too many ones: it comes after what is wrong with one.
func TestCounts(t *testing.T) {
	some := []api.Setting{{Kind: remove}, {Kind: port, N: 7}, {Kind: noNets}, {Kind: allowedNet}, {Kind: endpoint, Text: "1.2.3.4:5"}}
	for n := range 2 * mostLines {
		settings := make([]api.Setting, n)
		for i := range settings {
			settings[i] = some[i*i%len(some)]
		}
		if n <= mostLines {
			checkText(t, settings, textOf(settings))
			continue
		}
		checkNoParse(t, textOf(settings), 0, api.ErrSize)
		checkNoPrint(t, settings, api.ErrSize)
		for _, i := range []int{0, mostLines - 1, n - 1} {
			wrong := slices.Clone(settings)
			wrong[i] = api.Setting{Kind: 11}
			checkNoPrint(t, wrong, api.ErrKind)
			wrong[i] = api.Setting{Kind: alive, N: -1}
			checkNoPrint(t, wrong, api.ErrRange)
			wrong[i] = api.Setting{Kind: remove, N: 1}
			checkNoPrint(t, wrong, api.ErrForm)
		}
	}
	for _, n := range []int{255, 256, 257, 256 + mostLines, 65536, 65536 + 1, 65536 + mostLines} {
		checkNoPrint(t, slices.Repeat([]api.Setting{{Kind: remove}}, n), api.ErrSize)
		checkNoPrint(t, make([]api.Setting, n), api.ErrKind)
	}
}

// TestPrintWhere covers P12.5: each setting is wrong in turn, and the first one that is wrong counts.
func TestPrintWhere(t *testing.T) {
	wrongs := []struct {
		s    api.Setting
		want api.Errno
	}{
		{api.Setting{}, api.ErrKind}, {api.Setting{Kind: remove, Text: "x"}, api.ErrForm}, {api.Setting{Kind: ownKey, Text: "x"}, api.ErrSize},
		{api.Setting{Kind: port, N: 65536}, api.ErrRange}, {api.Setting{Kind: shared, Text: zeros}, api.ErrForm}, {api.Setting{Kind: allowedNet, Net: api.Net{Bits: -1}}, api.ErrRange},
	}
	for n := 1; n <= mostLines; n++ {
		for i := range n {
			for k, c := range wrongs {
				settings := slices.Repeat([]api.Setting{plain(peerKey)}, n)
				settings[i] = c.s
				checkNoPrint(t, settings, c.want)
				for j := i + 1; j < n; j++ {
					settings[j] = wrongs[(k+1)%len(wrongs)].s
				}
				checkNoPrint(t, settings, c.want)
			}
		}
	}
}

// longEnd is an endpoint of 9 to 21 bytes.
func longEnd(n int) string {
	text := ""
	// Each number has one digit, and as many of the others as are left.
	more := n - len("1.2.3.4:5")
	for i, most := range []int{3, 3, 3, 3, 5} {
		size := min(1+more, most)
		text += "12345"[:size] + "...: "[i:i+1]
		more -= size - 1
	}
	return text[:n]
}

// TestSizes covers the last ErrSize of P12.5, and the same limit of P12.4: each length of a text around 3000 bytes.
func TestSizes(t *testing.T) {
	const ends = 9
	for size := mostText - 20; size <= mostText+10; size++ {
		settings := slices.Repeat([]api.Setting{plain(peerKey)}, 36)
		// The line feed after the last line is none.
		rest := size + 1 - 36*len("public_key="+key+"\n")
		for i := range ends {
			n := rest/(ends-i) - len("endpoint=\n")
			settings = append(settings, api.Setting{Kind: endpoint, Text: longEnd(n)})
			rest -= n + len("endpoint=\n")
		}
		s := textOf(settings)
		if len(s) != size {
			t.Fatalf("the test's own text has %d bytes, want %d", len(s), size)
		}
		if size <= mostText {
			checkText(t, settings, s)
			continue
		}
		checkNoPrint(t, settings, api.ErrSize)
		checkNoParse(t, s, 0, api.ErrSize)
		// A setting that is wrong comes first, also the last one.
		checkNoPrint(t, append(settings, api.Setting{}), api.ErrKind)
	}
	checkNoPrint(t, slices.Repeat([]api.Setting{plain(ownKey)}, mostLines), api.ErrSize)
	checkNoPrint(t, append(slices.Repeat([]api.Setting{plain(ownKey)}, mostLines), api.Setting{Kind: alive, N: -1}), api.ErrRange)
}

// randomSetting that is right.
func randomSetting(r *rand.Rand) api.Setting {
	s := api.Setting{Kind: kinds[r.Intn(len(kinds))]}
	switch {
	case s.Kind == shared && r.Intn(3) == 0:
	case s.Kind == endpoint:
		s.Text = netip.AddrPortFrom(prefixOf(api.Net{Addr: r.Uint32()}).Addr(), uint16(1+r.Intn(mostNumber))).String()
	case slices.Contains(textKinds, s.Kind):
		for range 64 {
			at := r.Intn(len(digits))
			s.Text += digits[at : at+1]
		}
	case slices.Contains(numberKinds, s.Kind):
		s.N = r.Intn(mostNumber + 1)
	case s.Kind == allowedNet:
		s.Net.Bits = r.Intn(33)
		s.Net.Addr = uint32(uint64(r.Uint32()) >> (32 - s.Net.Bits) << (32 - s.Net.Bits))
	}
	return s
}

// TestRandom covers P12.1 to P12.5 for random settings, and P12.4 for texts with a byte changed, put in or left out.
func TestRandom(t *testing.T) {
	r := rand.New(rand.NewSource(12))
	for range 400 {
		settings := make([]api.Setting, 1+r.Intn(30))
		for i := range settings {
			settings[i] = randomSetting(r)
			checkRight(t, settings[i])
		}
		s := textOf(settings)
		checkText(t, settings, s)
		for range 10 {
			at, c := r.Intn(len(s)), string([]byte{byte(r.Intn(256))})
			checkParse(t, s[:at]+c+s[at:])
			checkParse(t, s[:at]+c+s[at+1:])
			checkParse(t, s[:at]+s[at+1:])
			checkParse(t, s[:at]+"\n"+s[at:])
		}
	}
}

// TestPrintMemory covers the rules of memory for P12.5: its argument stays as it is, the unused room included.
func TestPrintMemory(t *testing.T) {
	for _, settings := range [][]api.Setting{
		{}, {{Kind: remove}}, {{Kind: shared}, {Kind: port, N: 7}, {Kind: shared, Text: key}}, {{Kind: remove}, {}}, {{Kind: shared, Text: zeros}, {Kind: remove}},
		someSettings(), slices.Repeat([]api.Setting{{Kind: remove}}, mostLines+1), make([]api.Setting, mostLines+1),
	} {
		roomy := append(slices.Clone(settings), slices.Repeat([]api.Setting{{Kind: noPeers}}, 20)...)[:len(settings)]
		before := slices.Clone(roomy[:cap(roomy)])
		Print(roomy)
		if !slices.Equal(roomy[:cap(roomy)], before) {
			t.Errorf("Print(%v) changes its argument", settings)
		}
	}
}

// TestParseMemory covers the rules of memory for P12.4: no two results share memory.
func TestParseMemory(t *testing.T) {
	for _, s := range []string{"", "remove=true", "remove=true\nlisten_port=7\npreshared_key=" + zeros, "remove=true\nwhat=7", "=", strings.Repeat("remove=true\n", mostLines-1) + "remove=true"} {
		one, _, _ := Parse(s)
		two, _, _ := Parse(s)
		kept := slices.Clone(two)
		one = one[:cap(one)]
		for i := range one {
			one[i] = api.Setting{Kind: -1, Text: "spoiled", N: -1}
		}
		if !slices.Equal(two, kept) {
			t.Errorf("two results of Parse(%q) share memory", s)
		}
		checkParse(t, s)
	}
}
