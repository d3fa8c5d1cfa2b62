package trie

import (
	"cmp"
	"fmt"
	"maps"
	"math"
	"math/rand"
	"reflect"
	"slices"
	"testing"

	"cattlecreep/api"
)

// set of nets with owners: what a tree stands for.
type set map[api.Net]string

// bitOf an address: the one at a place, counted from the most significant bit.
func bitOf(a uint32, at int) uint32 {
	return a >> (31 - at) & 1
}

// startOf an address: its first n bits, one by one, with zeros after them.
func startOf(a uint32, n int) uint32 {
	start := uint32(0)
	for at := range n {
		start |= bitOf(a, at) << (31 - at)
	}
	return start
}

// netOf so many first bits of an address.
func netOf(a uint32, n int) api.Net {
	return api.Net{Addr: startOf(a, n), Bits: n}
}

// netErr of a net, as P7.1 says it.
func netErr(n api.Net) api.Errno {
	switch {
	case n.Bits < 0 || n.Bits > 32:
		return api.ErrRange
	case startOf(n.Addr, n.Bits) != n.Addr:
		return api.ErrForm
	}
	return api.OK
}

// top of a set that is not empty: of the nets that contain all, the one with the most bits.
func top(s set) api.Net {
	var one api.Net
	for n := range s {
		one = n
	}
	for count := one.Bits; ; count-- {
		wide := netOf(one.Addr, count)
		all := true
		for n := range s {
			all = all && n.Bits >= count && startOf(n.Addr, count) == wide.Addr
		}
		if all {
			return wide
		}
	}
}

// treeOf a set, by the words of the chapter.
func treeOf(s set) []api.Node {
	if len(s) == 0 {
		return nil
	}
	first := top(s)
	zeros, ones := set{}, set{}
	for n, owner := range s {
		switch {
		case n == first:
		case bitOf(n.Addr, first.Bits) == 0:
			zeros[n] = owner
		default:
			ones[n] = owner
		}
	}
	l := append(treeOf(zeros), treeOf(ones)...)
	return append([]api.Node{{Net: first, Owner: s[first], Size: 1 + len(l)}}, l...)
}

// wantCheck of any list, as P8.1 says it.
func wantCheck(l []api.Node) api.Errno {
	s := set{}
	for _, node := range l {
		if err := netErr(node.Net); err != api.OK {
			return err
		}
		if node.Owner != "" {
			s[node.Net] = node.Owner
		}
	}
	if !slices.Equal(l, treeOf(s)) {
		return api.ErrState
	}
	return api.OK
}

// wantFind of a set: of the nets that contain an address, the owner of the one with the most bits.
func wantFind(s set, a uint32) (string, api.Errno) {
	for count := 32; count >= 0; count-- {
		if owner, ok := s[netOf(a, count)]; ok {
			return owner, api.OK
		}
	}
	return "", api.ErrRoute
}

// with a net of another owner, a copy of a set.
func (s set) with(n api.Net, owner string) set {
	c := maps.Clone(s)
	c[n] = owner
	return c
}

// without the nets that a function selects, a copy of a set.
func (s set) without(selects func(api.Net, string) bool) set {
	c := maps.Clone(s)
	maps.DeleteFunc(c, selects)
	return c
}

// list as an argument, with something behind it that is not to be touched.
func list(l []api.Node) []api.Node {
	spare := make([]api.Node, len(l)+3)
	for i := copy(spare, l); i < len(spare); i++ {
		spare[i] = api.Node{Net: api.Net{Addr: 0xdeadbeef, Bits: -7}, Owner: "spare", Size: -7}
	}
	return spare[:len(l)]
}

// checkSame: two lists have the same nodes.
func checkSame(t *testing.T, what string, got, want []api.Node) {
	t.Helper()
	if !slices.Equal(got, want) {
		t.Errorf("%s = %v, want %v", what, got, want)
	}
}

// checkList: what a function returned for a list.
func checkList(t *testing.T, got []api.Node, err api.Errno, want []api.Node, wantErr api.Errno, format string, args ...any) {
	t.Helper()
	if !slices.Equal(got, want) || err != wantErr {
		t.Errorf("%s = %v, %d, want %v, %d", fmt.Sprintf(format, args...), got, err, want, wantErr)
	}
}

// checkOwner: what a function returned for an owner.
func checkOwner(t *testing.T, got string, err api.Errno, want string, wantErr api.Errno, format string, args ...any) {
	t.Helper()
	if got != want || err != wantErr {
		t.Errorf("%s = %q, %d, want %q, %d", fmt.Sprintf(format, args...), got, err, want, wantErr)
	}
}

// checkPut of a list, a net and an owner.
func checkPut(t *testing.T, l []api.Node, n api.Net, owner string, want []api.Node, wantErr api.Errno) {
	t.Helper()
	got, err := Put(l, n, owner)
	checkList(t, got, err, want, wantErr, "Put(%v, %v, %q)", l, n, owner)
}

// checkGet of a list and a net.
func checkGet(t *testing.T, l []api.Node, n api.Net, want string, wantErr api.Errno) {
	t.Helper()
	got, err := Get(l, n)
	checkOwner(t, got, err, want, wantErr, "Get(%v, %v)", l, n)
}

// checkDrop of a list and a net.
func checkDrop(t *testing.T, l []api.Node, n api.Net, want []api.Node, wantErr api.Errno) {
	t.Helper()
	got, err := Drop(l, n)
	checkList(t, got, err, want, wantErr, "Drop(%v, %v)", l, n)
}

// checkDropOwner of a list and an owner.
func checkDropOwner(t *testing.T, l []api.Node, owner string, want []api.Node, wantErr api.Errno) {
	t.Helper()
	got, err := DropOwner(l, owner)
	checkList(t, got, err, want, wantErr, "DropOwner(%v, %q)", l, owner)
}

// checkFind of a list and an address.
func checkFind(t *testing.T, l []api.Node, a uint32, want string, wantErr api.Errno) {
	t.Helper()
	got, err := Find(l, a)
	checkOwner(t, got, err, want, wantErr, "Find(%v, %#x)", l, a)
}

// checkAll of a list.
func checkAll(t *testing.T, l []api.Node, want []api.Node, wantErr api.Errno) {
	t.Helper()
	got, err := All(l)
	checkList(t, got, err, want, wantErr, "All(%v)", l)
}

// checkCheck of a list.
func checkCheck(t *testing.T, l []api.Node, want api.Errno) {
	t.Helper()
	if err := Check(l); err != want {
		t.Errorf("Check(%v) = %d, want %d", l, err, want)
	}
}

// checkRefused: every function refuses a list, whatever else is wrong.
func checkRefused(t *testing.T, l []api.Node, want api.Errno) {
	t.Helper()
	checkCheck(t, l, want)
	for _, n := range []api.Net{{}, {Addr: 0x0a010000, Bits: 16}, {Addr: 1, Bits: 31}, {Bits: 33}, {Bits: -1}} {
		checkPut(t, l, n, "a", nil, want)
		checkPut(t, l, n, "", nil, want)
		checkGet(t, l, n, "", want)
		checkDrop(t, l, n, nil, want)
	}
	for _, owner := range []string{"", "a", "nobody"} {
		checkDropOwner(t, l, owner, nil, want)
	}
	for _, a := range []uint32{0, 0x0a010000, math.MaxUint32} {
		checkFind(t, l, a, "", want)
	}
	checkAll(t, l, nil, want)
}

// checkSet: every function, for the tree of a set and one more net, owner and address.
func checkSet(t *testing.T, s set, n api.Net, owner string, a uint32) {
	t.Helper()
	tree := treeOf(s)
	l := list(tree)
	checkCheck(t, l, api.OK)
	checkPut(t, l, n, owner, treeOf(s.with(n, owner)), api.OK)
	if old, ok := s[n]; ok {
		checkGet(t, l, n, old, api.OK)
		checkDrop(t, l, n, treeOf(s.without(func(m api.Net, _ string) bool { return m == n })), api.OK)
	} else {
		checkGet(t, l, n, "", api.ErrNone)
		checkDrop(t, l, n, nil, api.ErrNone)
	}
	checkDropOwner(t, l, owner, treeOf(s.without(func(_ api.Net, o string) bool { return o == owner })), api.OK)
	found, err := wantFind(s, a)
	checkFind(t, l, a, found, err)
	checkAll(t, l, wantAll(tree), api.OK)
	checkSame(t, "the list and what is behind it, afterwards,", l[:cap(l)], list(tree)[:cap(l)])
}

// wantAll of a tree: its nodes with owners.
func wantAll(tree []api.Node) []api.Node {
	var l []api.Node
	for _, node := range tree {
		if node.Owner != "" {
			l = append(l, api.Node{Net: node.Net, Owner: node.Owner, Size: 1})
		}
	}
	return l
}

// randomSet has at most so many nets, many of them near each other, and few owners.
func randomSet(random *rand.Rand, most int) set {
	s, a := set{}, random.Uint32()
	for range random.Intn(most + 1) {
		if random.Intn(3) == 0 {
			a = random.Uint32()
		} else {
			a ^= 1 << random.Intn(32)
		}
		s[netOf(a, random.Intn(33))] = randomOwner(random)
	}
	return s
}

// randomOwner is one of a few.
func randomOwner(random *rand.Rand) string {
	return []string{"a", "b", "c", "ab", "\x00", "A"}[random.Intn(6)]
}

// randomNet is one of a set, one near to it, or any one.
func randomNet(random *rand.Rand, s set) api.Net {
	nets := slices.SortedFunc(maps.Keys(s), func(n, m api.Net) int {
		return cmp.Or(cmp.Compare(n.Addr, m.Addr), cmp.Compare(n.Bits, m.Bits))
	})
	if len(nets) == 0 || random.Intn(4) == 0 {
		return netOf(random.Uint32(), random.Intn(33))
	}
	n := nets[random.Intn(len(nets))]
	switch random.Intn(3) {
	case 0:
		return netOf(n.Addr, random.Intn(33))
	case 1:
		return netOf(n.Addr^1<<random.Intn(32), random.Intn(33))
	}
	return n
}

// Nets of the trees that are written out.
var (
	whole  = api.Net{}
	ten    = api.Net{Addr: 0x0a000000, Bits: 8}
	tens   = api.Net{Addr: 0x0a000000, Bits: 15}
	tenOne = api.Net{Addr: 0x0a010000, Bits: 16}
	tenTwo = api.Net{Addr: 0x0a020000, Bits: 16}
	tenNil = api.Net{Addr: 0x0a000000, Bits: 16}
	host   = api.Net{Addr: 0x0a010203, Bits: 32}
	last   = api.Net{Addr: math.MaxUint32, Bits: 32}
)

// example of the chapter: a fork and two nets.
func example() []api.Node {
	return []api.Node{{Net: tens, Size: 3}, {Net: tenNil, Owner: "a", Size: 1}, {Net: tenOne, Owner: "b", Size: 1}}
}

// nested: nets within each other and beside each other, and one fork.
func nested() []api.Node {
	return []api.Node{
		{Net: whole, Owner: "all", Size: 7},
		{Net: ten, Owner: "ten", Size: 5},
		{Net: api.Net{Addr: 0x0a000000, Bits: 14}, Size: 4},
		{Net: tenOne, Owner: "one", Size: 2},
		{Net: host, Owner: "host", Size: 1},
		{Net: tenTwo, Owner: "ten", Size: 1},
		{Net: last, Owner: "last", Size: 1},
	}
}

// TestModel: the trees that are written out are those of the words of the chapter, so that the other tests may lean on them.
func TestModel(t *testing.T) {
	checkSame(t, "the tree of the example", treeOf(set{tenNil: "a", tenOne: "b"}), example())
	checkSame(t, "the nested tree", treeOf(set{whole: "all", ten: "ten", tenOne: "one", host: "host", tenTwo: "ten", last: "last"}), nested())
}

// TestCheckTrees covers P8.1 where there is no error.
func TestCheckTrees(t *testing.T) {
	checkCheck(t, nil, api.OK)
	checkCheck(t, []api.Node{}, api.OK)
	checkCheck(t, example(), api.OK)
	checkCheck(t, nested(), api.OK)
	for _, a := range []uint32{0, 0x0a010203, math.MaxUint32} {
		for count := 0; count <= 32; count++ {
			checkCheck(t, []api.Node{{Net: netOf(a, count), Owner: "a", Size: 1}}, api.OK)
		}
	}
}

// TestCheckState covers ErrState of P8.1 by cases written out; the nets are all valid.
func TestCheckState(t *testing.T) {
	one := api.Node{Net: tenNil, Owner: "a", Size: 1}
	two := api.Node{Net: tenOne, Owner: "b", Size: 1}
	fork := api.Node{Net: tens, Size: 3}
	for _, l := range [][]api.Node{
		{{}},
		{{Size: 1}},
		{{Net: tenNil, Size: 1}},
		{{Net: tenNil, Owner: "a"}},
		{{Net: tenNil, Owner: "a", Size: -1}},
		{{Net: tenNil, Owner: "a", Size: 2}},
		{{Net: tenNil, Owner: "a", Size: math.MaxInt}},
		// Without a fork, or with one that is in the wrong place, too wide, too narrow or there twice.
		{one, two},
		{two, one},
		{fork, two, one},
		{one, fork, two},
		{one, two, fork},
		{{Net: api.Net{Addr: 0x0a000000, Bits: 14}, Size: 3}, one, two},
		{{Net: whole, Size: 3}, one, two},
		{{Net: tenNil, Size: 3}, one, two},
		{{Net: tens, Size: 4}, fork, one, two},
		{{Net: ten, Size: 4}, fork, one, two},
		// A fork with one net, or with none.
		{{Net: tens, Size: 2}, one},
		{{Net: tens, Size: 2}, two},
		{fork, one, {Net: tenOne, Size: 1}},
		{fork, {Net: tenNil, Size: 1}, two},
		// The same net twice, with the same owner, with another one, and with none.
		{one, one},
		{{Net: tenNil, Owner: "a", Size: 2}, one},
		{{Net: tenNil, Owner: "b", Size: 2}, one},
		{{Net: tenNil, Size: 2}, one},
		{{Net: tenNil, Owner: "a", Size: 2}, {Net: tenNil, Size: 1}},
		{{Net: host, Owner: "a", Size: 2}, {Net: host, Owner: "a", Size: 1}},
		{{Net: last, Owner: "a", Size: 2}, {Net: last, Owner: "b", Size: 1}},
		// Sizes that count too few, too many, or from the end.
		{{Net: tens, Size: 2}, one, two},
		{{Net: tens, Size: 4}, one, two},
		{{Net: tens, Size: 1}, one, two},
		{fork, {Net: tenNil, Owner: "a", Size: 2}, two},
		{fork, one, {Net: tenOne, Owner: "b", Size: 0}},
		// A narrow net ahead of a wide one.
		{{Net: host, Owner: "a", Size: 2}, {Net: tenOne, Owner: "b", Size: 1}},
		{{Net: tenOne, Owner: "b", Size: 1}, {Net: host, Owner: "a", Size: 2}},
		{{Net: tenOne, Owner: "b", Size: 1}, {Net: host, Owner: "a", Size: 1}},
		// Two trees, one after the other.
		append(example(), api.Node{Net: last, Owner: "c", Size: 1}),
		append(example(), example()...),
		// Parts of a tree that are none.
		example()[:2],
		example()[1:],
		nested()[1:],
		nested()[:6],
	} {
		checkRefused(t, l, api.ErrState)
	}
}

// TestCheckNets covers P8.1: the error of the first net that is invalid comes ahead of all others, with or without an owner.
func TestCheckNets(t *testing.T) {
	outside := []api.Net{{Bits: 33}, {Bits: -1}, {Addr: 1, Bits: 40}, {Addr: 0x0a000000, Bits: math.MinInt}, {Bits: math.MaxInt}, {Bits: 1 << 32}}
	form := []api.Net{{Addr: 1}, {Addr: 0x0a010000, Bits: 15}, {Addr: math.MaxUint32, Bits: 31}, {Addr: 1, Bits: 31}}
	for i, n := range append(outside, form...) {
		want := api.ErrRange
		if i >= len(outside) {
			want = api.ErrForm
		}
		for _, owner := range []string{"", "a"} {
			wrong := api.Node{Net: n, Owner: owner, Size: 1}
			checkRefused(t, []api.Node{wrong}, want)
			checkRefused(t, append(example(), wrong), want)
			checkRefused(t, append([]api.Node{wrong}, example()...), want)
			// What is wrong with the list as a whole comes later.
			checkRefused(t, append(example()[1:], wrong), want)
			checkRefused(t, append([]api.Node{{Size: 5}}, wrong), want)
			checkRefused(t, []api.Node{wrong, {Net: outside[0]}, {Net: form[0]}}, want)
			checkRefused(t, []api.Node{wrong, {Net: form[0]}, {Net: outside[0]}}, want)
			for at := range nested() {
				l := nested()
				l[at].Net = n
				checkRefused(t, l, want)
			}
		}
	}
}

// TestEveryShortList covers P8.1 for each list of up to three nodes, of few nets, owners and sizes.
func TestEveryShortList(t *testing.T) {
	var nodes []api.Node
	for _, n := range []api.Net{{}, {Bits: 1}, {Addr: 1 << 31, Bits: 1}, {Addr: 1 << 30, Bits: 2}, {Addr: 1 << 31}, {Bits: 33}} {
		for _, owner := range []string{"", "a"} {
			for size := range 4 {
				nodes = append(nodes, api.Node{Net: n, Owner: owner, Size: size})
			}
		}
	}
	for _, x := range nodes {
		for _, y := range nodes {
			for _, z := range nodes {
				checkCheck(t, []api.Node{x, y, z}, wantCheck([]api.Node{x, y, z}))
			}
			checkCheck(t, []api.Node{x, y}, wantCheck([]api.Node{x, y}))
		}
		checkCheck(t, []api.Node{x}, wantCheck([]api.Node{x}))
	}
}

// TestChangedTrees covers P8.1: trees with one or two nodes changed, put in, left out or swapped.
func TestChangedTrees(t *testing.T) {
	random := rand.New(rand.NewSource(8))
	counts := map[api.Errno]int{}
	for range 20000 {
		l := treeOf(randomSet(random, 8))
		for range 1 + random.Intn(2) {
			l = changed(random, l)
		}
		want := wantCheck(l)
		counts[want]++
		checkCheck(t, l, want)
		if want != api.OK {
			checkAll(t, l, nil, want)
		}
	}
	for _, err := range []api.Errno{api.OK, api.ErrState, api.ErrForm, api.ErrRange} {
		if counts[err] < 100 {
			t.Errorf("only %d lists with %d", counts[err], err)
		}
	}
}

// changed list: one small thing is another one.
func changed(random *rand.Rand, l []api.Node) []api.Node {
	if len(l) == 0 {
		return []api.Node{{Net: netOf(random.Uint32(), random.Intn(33)), Owner: "new", Size: random.Intn(2)}}
	}
	i, j := random.Intn(len(l)), random.Intn(len(l))
	switch random.Intn(9) {
	case 0:
		l[i].Size += random.Intn(3) - 1
	case 1:
		l[i].Owner = ""
	case 2:
		l[i].Owner = "new"
	case 3:
		l[i].Net.Bits += random.Intn(3) - 1
	case 4:
		l[i].Net.Addr ^= 1 << random.Intn(32)
	case 5:
		l[i], l[j] = l[j], l[i]
	case 6:
		l = slices.Delete(l, i, i+1)
	case 7:
		l = slices.Insert(l, i, l[j])
	case 8:
		l[i].Net = api.Net{Addr: l[i].Net.Addr, Bits: 33 + random.Intn(2)}
	}
	return l
}

// TestPut covers P8.2 by cases written out.
func TestPut(t *testing.T) {
	checkPut(t, nil, tenNil, "a", []api.Node{{Net: tenNil, Owner: "a", Size: 1}}, api.OK)
	checkPut(t, nil, whole, "a", []api.Node{{Net: whole, Owner: "a", Size: 1}}, api.OK)
	checkPut(t, nil, last, "a", []api.Node{{Net: last, Owner: "a", Size: 1}}, api.OK)
	checkPut(t, example()[1:2], tenOne, "b", example(), api.OK)
	checkPut(t, example()[2:], tenNil, "a", example(), api.OK)
	// The same once more, another owner, and an owner for a fork.
	checkPut(t, example(), tenNil, "a", example(), api.OK)
	want := example()
	want[1].Owner = "c"
	checkPut(t, example(), tenNil, "c", want, api.OK)
	want = example()
	want[0].Owner = "c"
	checkPut(t, example(), tens, "c", want, api.OK)
	// Above, below and beside all others.
	checkPut(t, example(), ten, "c", append([]api.Node{{Net: ten, Owner: "c", Size: 4}}, example()...), api.OK)
	checkPut(t, example(), host, "c", []api.Node{
		{Net: tens, Size: 4}, {Net: tenNil, Owner: "a", Size: 1}, {Net: tenOne, Owner: "b", Size: 2}, {Net: host, Owner: "c", Size: 1},
	}, api.OK)
	checkPut(t, example(), last, "c", slices.Concat([]api.Node{{Net: whole, Size: 5}}, example(), []api.Node{{Net: last, Owner: "c", Size: 1}}), api.OK)
}

// TestPutErrors covers the errors of P8.2 and their order: what is wrong with the net is said ahead of an empty owner.
func TestPutErrors(t *testing.T) {
	for _, l := range [][]api.Node{nil, example(), nested()} {
		for _, owner := range []string{"", "a"} {
			checkPut(t, l, api.Net{Bits: 33}, owner, nil, api.ErrRange)
			checkPut(t, l, api.Net{Bits: -1}, owner, nil, api.ErrRange)
			checkPut(t, l, api.Net{Addr: 1, Bits: 33}, owner, nil, api.ErrRange)
			checkPut(t, l, api.Net{Addr: 1, Bits: 31}, owner, nil, api.ErrForm)
			checkPut(t, l, api.Net{Addr: 1}, owner, nil, api.ErrForm)
		}
		for _, n := range []api.Net{whole, ten, tens, tenOne, host, last} {
			checkPut(t, l, n, "", nil, api.ErrForm)
		}
	}
}

// TestGet covers P8.3: exactly a net, and neither a wider one, nor a narrower one, nor a fork.
func TestGet(t *testing.T) {
	for _, node := range nested() {
		if node.Owner == "" {
			checkGet(t, nested(), node.Net, "", api.ErrNone)
			continue
		}
		checkGet(t, nested(), node.Net, node.Owner, api.OK)
	}
	checkGet(t, example(), tens, "", api.ErrNone)
	checkGet(t, example(), ten, "", api.ErrNone)
	checkGet(t, example(), whole, "", api.ErrNone)
	checkGet(t, example(), host, "", api.ErrNone)
	checkGet(t, nested(), api.Net{Addr: 0x0a010203, Bits: 32}, "host", api.OK)
	checkGet(t, nested(), api.Net{Addr: 0x0a010202, Bits: 32}, "", api.ErrNone)
	checkGet(t, nested(), api.Net{Addr: 0x0a010202, Bits: 31}, "", api.ErrNone)
	checkGet(t, nil, whole, "", api.ErrNone)
	checkGet(t, []api.Node{}, tenOne, "", api.ErrNone)
}

// TestDrop covers P8.4: forks go with their nets, and stay or come where nets with owners need them.
func TestDrop(t *testing.T) {
	checkDrop(t, example(), tenNil, example()[2:], api.OK)
	checkDrop(t, example(), tenOne, example()[1:2], api.OK)
	checkDrop(t, example()[1:2], tenNil, nil, api.OK)
	// A net with nets of both bits below it becomes a fork, and one with nets of one bit goes.
	l := example()
	l[0].Owner = "c"
	checkDrop(t, l, tens, example(), api.OK)
	checkDrop(t, nested(), whole, treeOf(set{ten: "ten", tenOne: "one", host: "host", tenTwo: "ten", last: "last"}), api.OK)
	checkDrop(t, nested(), tenOne, treeOf(set{whole: "all", ten: "ten", host: "host", tenTwo: "ten", last: "last"}), api.OK)
	checkDrop(t, nested(), ten, treeOf(set{whole: "all", tenOne: "one", host: "host", tenTwo: "ten", last: "last"}), api.OK)
	checkDrop(t, nested(), tenTwo, []api.Node{
		{Net: whole, Owner: "all", Size: 5}, {Net: ten, Owner: "ten", Size: 3}, {Net: tenOne, Owner: "one", Size: 2}, {Net: host, Owner: "host", Size: 1}, {Net: last, Owner: "last", Size: 1},
	}, api.OK)
}

// TestGetAndDropErrors covers the errors of P8.3 and P8.4.
func TestGetAndDropErrors(t *testing.T) {
	for _, l := range [][]api.Node{nil, example(), nested()} {
		for _, c := range []struct {
			n    api.Net
			want api.Errno
		}{
			{api.Net{Bits: 33}, api.ErrRange},
			{api.Net{Bits: -1}, api.ErrRange},
			{api.Net{Addr: 1, Bits: 33}, api.ErrRange},
			{api.Net{Addr: 0x0a000000, Bits: math.MinInt}, api.ErrRange},
			{api.Net{Addr: 1, Bits: 31}, api.ErrForm},
			{api.Net{Addr: 0x0a000000}, api.ErrForm},
			{api.Net{Addr: 0x0a010000, Bits: 15}, api.ErrForm},
			{api.Net{Addr: 0x0b000000, Bits: 8}, api.ErrNone},
			{api.Net{Addr: 0x0a000000, Bits: 14}, api.ErrNone},
			{api.Net{Bits: 32}, api.ErrNone},
		} {
			checkGet(t, l, c.n, "", c.want)
			checkDrop(t, l, c.n, nil, c.want)
		}
	}
}

// TestDropOwner covers P8.5: all nets of an owner, and none of another one. Nobody has an empty name, so it takes nothing away.
func TestDropOwner(t *testing.T) {
	checkDropOwner(t, nested(), "ten", []api.Node{
		{Net: whole, Owner: "all", Size: 4}, {Net: tenOne, Owner: "one", Size: 2}, {Net: host, Owner: "host", Size: 1}, {Net: last, Owner: "last", Size: 1},
	}, api.OK)
	checkDropOwner(t, example(), "a", example()[2:], api.OK)
	for _, owner := range []string{"", "te", "tenn", "TEN", "ten\x00", "nobody"} {
		checkDropOwner(t, nested(), owner, nested(), api.OK)
		checkDropOwner(t, nil, owner, nil, api.OK)
	}
	l := example()
	for i := range l {
		l[i].Owner = "a"
	}
	checkDropOwner(t, l, "a", nil, api.OK)
}

// TestFind covers P8.6 by cases written out: the most bits win, and a fork is nobody's.
func TestFind(t *testing.T) {
	for _, c := range []struct {
		a    uint32
		want string
	}{
		{0, "all"}, {0x09ffffff, "all"}, {0x0a000000, "ten"}, {0x0a00ffff, "ten"}, {0x0a010000, "one"}, {0x0a010202, "one"}, {0x0a010203, "host"}, {0x0a010204, "one"}, {0x0a01ffff, "one"},
		{0x0a020000, "ten"}, {0x0a030000, "ten"}, {0x0affffff, "ten"}, {0x0b000000, "all"}, {math.MaxUint32 - 1, "all"}, {math.MaxUint32, "last"},
	} {
		checkFind(t, nested(), c.a, c.want, api.OK)
	}
	checkFind(t, example(), 0x0a000000, "a", api.OK)
	checkFind(t, example(), 0x0a01ffff, "b", api.OK)
	for _, a := range []uint32{0, 0x09ffffff, 0x0a020000, 0x0affffff, math.MaxUint32} {
		checkFind(t, example(), a, "", api.ErrRoute)
		checkFind(t, nil, a, "", api.ErrRoute)
	}
	// The fork has the address, but neither of its nets does.
	fork, _ := Put([]api.Node{{Net: tenOne, Owner: "a", Size: 1}}, tenTwo, "b")
	checkFind(t, fork, 0x0a000001, "", api.ErrRoute)
	checkFind(t, fork, 0x0a030001, "", api.ErrRoute)
}

// TestAll covers P8.7 by cases written out.
func TestAll(t *testing.T) {
	checkAll(t, nil, nil, api.OK)
	checkAll(t, []api.Node{}, nil, api.OK)
	checkAll(t, example(), example()[1:], api.OK)
	checkAll(t, nested(), []api.Node{
		{Net: whole, Owner: "all", Size: 1}, {Net: ten, Owner: "ten", Size: 1}, {Net: tenOne, Owner: "one", Size: 1}, {Net: host, Owner: "host", Size: 1}, {Net: tenTwo, Owner: "ten", Size: 1}, {Net: last, Owner: "last", Size: 1},
	}, api.OK)
}

// TestEverySmallSet covers P8.1 to P8.7 for each set of the fifteen nets of up to three bits.
func TestEverySmallSet(t *testing.T) {
	var nets []api.Net
	for count := range 4 {
		for x := range 1 << count {
			nets = append(nets, api.Net{Addr: uint32(x << 29 << (3 - count)), Bits: count})
		}
	}
	random := rand.New(rand.NewSource(9))
	for chosen := range 1 << len(nets) {
		s := set{}
		for i, n := range nets {
			if chosen>>i&1 == 1 {
				s[n] = string("abc"[i%3])
			}
		}
		checkSet(t, s, nets[random.Intn(len(nets))], string("abcd"[random.Intn(4)]), random.Uint32())
	}
}

// TestManySets covers P8.1 to P8.7 for nets all over the range.
func TestManySets(t *testing.T) {
	random := rand.New(rand.NewSource(10))
	for range 10000 {
		s := randomSet(random, 12)
		n := randomNet(random, s)
		a := randomNet(random, s).Addr ^ uint32(random.Intn(3))
		checkSet(t, s, n, randomOwner(random), a)
	}
}

// TestChain covers P8.1 to P8.7 for the deepest tree: all 33 nets that have one address.
func TestChain(t *testing.T) {
	for _, a := range []uint32{0, 0x0a010203, 0x55555555, math.MaxUint32} {
		s := set{}
		for count := 0; count <= 32; count++ {
			s[netOf(a, count)] = fmt.Sprint(count)
		}
		for count := 0; count <= 32; count++ {
			checkSet(t, s, netOf(a, count), fmt.Sprint(32-count), a)
			checkFind(t, treeOf(s), a^1<<min(count, 31), fmt.Sprint(31-min(count, 31)), api.OK)
		}
	}
}

// TestRuns covers P8.2, P8.4 and P8.5: a tree that is changed step by step is the one of its set at each step, however it came about.
func TestRuns(t *testing.T) {
	random := rand.New(rand.NewSource(11))
	for range 40 {
		s, l := set{}, []api.Node(nil)
		for range 100 {
			n, owner := randomNet(random, s), randomOwner(random)
			next, err := l, api.OK
			switch random.Intn(8) {
			case 0:
				s = s.without(func(_ api.Net, o string) bool { return o == owner })
				next, err = DropOwner(l, owner)
			case 1, 2:
				if s[n] != "" {
					next, err = Drop(l, n)
				}
				delete(s, n)
			default:
				s[n] = owner
				next, err = Put(l, n, owner)
			}
			checkList(t, next, err, treeOf(s), api.OK, "the tree after a step")
			l = next
		}
	}
}

// TestBigTree covers P8.1 to P8.7 for many nets.
func TestBigTree(t *testing.T) {
	random := rand.New(rand.NewSource(12))
	s := set{}
	for range 5000 {
		s[netOf(random.Uint32(), random.Intn(33))] = randomOwner(random)
	}
	for range 5 {
		checkSet(t, s, randomNet(random, s), randomOwner(random), random.Uint32())
	}
}

// spoil a result to the end of its capacity, so that whatever shares its memory shows it.
func spoil(l []api.Node) {
	for i := range l[:cap(l)] {
		l[:cap(l)][i] = api.Node{Net: api.Net{Addr: 9, Bits: 9}, Owner: "spoilt", Size: 9}
	}
}

// TestResultsAreNew covers P8.2, P8.4, P8.5 and P8.7 and the document's rules on memory, unused capacity included, and determinism.
func TestResultsAreNew(t *testing.T) {
	for name, call := range map[string]func([]api.Node) ([]api.Node, api.Errno){
		"Put of a new net":        func(l []api.Node) ([]api.Node, api.Errno) { return Put(l, tenNil, "new") },
		"Put of the first net":    func(l []api.Node) ([]api.Node, api.Errno) { return Put(l, whole, "new") },
		"Put of the same":         func(l []api.Node) ([]api.Node, api.Errno) { return Put(l, last, "last") },
		"Drop":                    func(l []api.Node) ([]api.Node, api.Errno) { return Drop(l, tenOne) },
		"DropOwner":               func(l []api.Node) ([]api.Node, api.Errno) { return DropOwner(l, "ten") },
		"DropOwner of nobody":     func(l []api.Node) ([]api.Node, api.Errno) { return DropOwner(l, "nobody") },
		"DropOwner without owner": func(l []api.Node) ([]api.Node, api.Errno) { return DropOwner(l, "") },
		"All":                     All,
	} {
		for _, tree := range [][]api.Node{nested(), treeOf(set{whole: "all", tenOne: "one", last: "last"}), treeOf(set{tenOne: "one"})} {
			l := list(tree)
			first, err := call(l)
			second, again := call(l)
			if !reflect.DeepEqual(first, second) || err != again {
				t.Errorf("%s: %v, %d, and then %v, %d", name, first, err, second, again)
			}
			kept := slices.Clone(second)
			spoil(first)
			checkSame(t, name+": the list and what is behind it, afterwards,", l[:cap(l)], list(tree)[:cap(l)])
			checkSame(t, name+": another result, afterwards,", second, kept)
			spoil(l)
			checkSame(t, name+": the result, afterwards,", second, kept)
		}
	}
}
