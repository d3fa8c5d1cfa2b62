package window

import (
	"math"
	"math/rand"
	"testing"

	"cattlecreep/api"
)

// The limits as numbers: MaxCounter is 2^40 and Window is 64.
const (
	lastCounter = 1 << 40
	windowSize  = 64
	allBits     = math.MaxUint64
)

// edgeCounters are those around the ends of the range and of a window.
var edgeCounters = []int{
	0, 1, 2, 31, 32, 61, 62, 63, 64, 65, 66, 127, 128, 129, 1000,
	1<<31 - 1, 1 << 31, 1 << 32, lastCounter - 65, lastCounter - 64, lastCounter - 63, lastCounter - 1, lastCounter,
}

// outside are no counters.
var outside = []int{-1, -2, -63, -64, -65, math.MinInt, math.MinInt + 1, lastCounter + 1, lastCounter + 64, math.MaxInt - 1, math.MaxInt}

// some: a state in which a counter came.
func some(last int, bits uint64) api.Seen {
	return api.Seen{Some: true, Last: last, Bits: bits}
}

// checkHas of a state and a counter.
func checkHas(t *testing.T, s api.Seen, n int, want bool, wantErr api.Errno) {
	t.Helper()
	if got, err := Has(s, n); got != want || err != wantErr {
		t.Errorf("Has(%v, %d) = %v, %d, want %v, %d", s, n, got, err, want, wantErr)
	}
}

// checkTake of a state and a counter.
func checkTake(t *testing.T, s api.Seen, n int, want api.Seen, wantErr api.Errno) {
	t.Helper()
	if got, err := Take(s, n); got != want || err != wantErr {
		t.Errorf("Take(%v, %d) = %v, %d, want %v, %d", s, n, got, err, want, wantErr)
	}
}

// checkRefused: all three functions refuse a state, the two with a counter whatever it is.
func checkRefused(t *testing.T, s api.Seen, want api.Errno) {
	t.Helper()
	if err := Check(s); err != want {
		t.Errorf("Check(%v) = %d, want %d", s, err, want)
	}
	for _, n := range append([]int{0, 1, 3, 100, lastCounter}, outside...) {
		checkHas(t, s, n, false, want)
		checkTake(t, s, n, api.Seen{}, want)
	}
}

// TestNothingCame covers P5.1 to P5.3 for states without a counter.
func TestNothingCame(t *testing.T) {
	if err := Check(api.Seen{}); err != api.OK {
		t.Errorf("Check of no counter = %d, want 0", err)
	}
	for _, n := range edgeCounters {
		checkHas(t, api.Seen{}, n, false, api.OK)
		checkTake(t, api.Seen{}, n, some(n, 1), api.OK)
	}
	for _, n := range outside {
		checkHas(t, api.Seen{}, n, false, api.ErrRange)
		checkTake(t, api.Seen{}, n, api.Seen{}, api.ErrRange)
	}
}

// TestNothingCameButFields covers the errors of P5.1 for states without a counter: a Last outside its range is ErrState there.
func TestNothingCameButFields(t *testing.T) {
	for _, last := range append([]int{1, 5, 64, lastCounter}, outside...) {
		for _, bits := range []uint64{0, 1, 2, allBits} {
			checkRefused(t, api.Seen{Last: last, Bits: bits}, api.ErrState)
		}
	}
	for bit := range windowSize {
		checkRefused(t, api.Seen{Bits: 1 << bit}, api.ErrState)
	}
}

// TestLastOutside covers the errors of P5.1: ErrRange for Last comes before ErrState for Bits.
func TestLastOutside(t *testing.T) {
	for _, last := range outside {
		for _, bits := range []uint64{0, 1, 2, 5, 1 << 63, allBits - 1, allBits} {
			checkRefused(t, some(last, bits), api.ErrRange)
		}
	}
}

// TestEveryBit covers P5.1 for each single bit beside bit 0, and each Last around the size of a window: bit i is allowed up to Last.
func TestEveryBit(t *testing.T) {
	for _, last := range append([]int{lastCounter - 1, lastCounter}, upTo(70)...) {
		for bit := range windowSize {
			s := some(last, 1|1<<bit)
			if bit > last {
				checkRefused(t, s, api.ErrState)
			} else if err := Check(s); err != api.OK {
				t.Errorf("Check(%v) = %d, want 0", s, err)
			}
			checkRefused(t, some(last, (1|1<<bit)&^1), api.ErrState)
		}
		checkRefused(t, some(last, 0), api.ErrState)
		checkRefused(t, some(last, allBits-1), api.ErrState)
	}
}

// upTo: the numbers from 0 to n.
func upTo(n int) []int {
	l := make([]int, n+1)
	for i := range l {
		l[i] = i
	}
	return l
}

// TestFullWindow covers P5.1 to P5.3 for states whose bits are all set, as far as they may be.
func TestFullWindow(t *testing.T) {
	for _, last := range edgeCounters {
		s := some(last, allBits)
		if last < windowSize-1 {
			checkRefused(t, s, api.ErrState)
			s.Bits = 1<<(last+1) - 1
		}
		if err := Check(s); err != api.OK {
			t.Errorf("Check(%v) = %d, want 0", s, err)
		}
		for n := max(last-200, 0); n <= last; n++ {
			checkHas(t, s, n, true, api.OK)
			checkTake(t, s, n, api.Seen{}, api.ErrOld)
		}
	}
}

// TestCounterOutside covers the errors of P5.2 and P5.3 for a counter.
func TestCounterOutside(t *testing.T) {
	for _, s := range []api.Seen{some(0, 1), some(5, 5), some(63, allBits), some(64, allBits), some(lastCounter, 1), some(lastCounter, allBits)} {
		for _, n := range outside {
			checkHas(t, s, n, false, api.ErrRange)
			checkTake(t, s, n, api.Seen{}, api.ErrRange)
		}
	}
}

// TestChapterExample covers P5.3 with the example of the chapter.
func TestChapterExample(t *testing.T) {
	checkTake(t, api.Seen{}, 3, some(3, 1), api.OK)
	checkTake(t, some(3, 1), 5, some(5, 5), api.OK)
	checkTake(t, some(5, 5), 3, api.Seen{}, api.ErrOld)
	checkTake(t, some(5, 5), 5, api.Seen{}, api.ErrOld)
	checkTake(t, some(5, 5), 4, some(5, 7), api.OK)
	checkTake(t, some(5, 5), 0, some(5, 37), api.OK)
}

// TestEdgeOfWindow covers P5.2 and P5.3: 63 behind Last is the last one that may still come, and 64 behind is too late, though none of them came.
func TestEdgeOfWindow(t *testing.T) {
	for _, last := range []int{64, 65, 128, 1000, 1 << 32, lastCounter - 1, lastCounter} {
		s := some(last, 1)
		for behind := 1; behind < windowSize; behind++ {
			checkHas(t, s, last-behind, false, api.OK)
			checkTake(t, s, last-behind, some(last, 1|1<<behind), api.OK)
		}
		for _, n := range []int{last, last - 64, last - min(65, last), last - min(128, last), 0} {
			checkHas(t, s, n, true, api.OK)
			checkTake(t, s, n, api.Seen{}, api.ErrOld)
		}
	}
}

// TestStepsAhead covers P5.3 for each step ahead: what came moves with Last, and leaves the window at its end.
func TestStepsAhead(t *testing.T) {
	for _, last := range []int{63, 100, 1 << 32, lastCounter - 200} {
		for _, bits := range []uint64{1, 5, 1<<63 | 1, allBits} {
			for step := 1; step <= 200; step++ {
				want := uint64(1)
				for i := range windowSize - min(step, windowSize) {
					want |= (bits >> i & 1) << (i + step)
				}
				checkHas(t, some(last, bits), last+step, false, api.OK)
				checkTake(t, some(last, bits), last+step, some(last+step, want), api.OK)
			}
			checkTake(t, some(last, bits), lastCounter, some(lastCounter, 1), api.OK)
		}
	}
	checkTake(t, some(0, 1), lastCounter, some(lastCounter, 1), api.OK)
	checkTake(t, some(lastCounter-1, allBits), lastCounter, some(lastCounter, allBits), api.OK)
}

// received is a model of a state: all counters that came, however long ago.
type received map[int]bool

// last one that came.
func (r received) last() int {
	last := -1
	for n := range r {
		last = max(last, n)
	}
	return last
}

// state that describes what came, by the words of the chapter.
func (r received) state() api.Seen {
	last := r.last()
	if last < 0 {
		return api.Seen{}
	}
	s := some(last, 0)
	for i := range windowSize {
		if r[last-i] {
			s.Bits |= 1 << i
		}
	}
	return s
}

// TestAgainstModel covers P5.1 to P5.3 for long runs of counters that are reordered, repeated, late and far ahead.
func TestAgainstModel(t *testing.T) {
	random := rand.New(rand.NewSource(5))
	for _, spread := range []int{3, 40, 64, 70, 200} {
		for _, start := range []int{0, 50, 1 << 32, lastCounter - 600} {
			came, s := received{}, api.Seen{}
			for i := range 500 {
				n := min(max(start+i+random.Intn(2*spread)-spread, 0), lastCounter)
				old := came[n] || n <= came.last()-windowSize
				checkHas(t, s, n, old, api.OK)
				if old {
					checkTake(t, s, n, api.Seen{}, api.ErrOld)
					continue
				}
				came[n] = true
				checkTake(t, s, n, came.state(), api.OK)
				s = came.state()
				if err := Check(s); err != api.OK {
					t.Errorf("Check(%v) = %d, want 0", s, err)
				}
			}
		}
	}
}

// TestEveryOrder covers P5.3: the order in which counters within a window come does not show in the state.
func TestEveryOrder(t *testing.T) {
	random := rand.New(rand.NewSource(6))
	for range 200 {
		s := api.Seen{}
		for _, n := range random.Perm(windowSize) {
			next, err := Take(s, n+7)
			if err != api.OK {
				t.Fatalf("Take(%v, %d) = %d, want 0", s, n+7, err)
			}
			s = next
		}
		if want := some(70, allBits); s != want {
			t.Errorf("the state is %v, want %v", s, want)
		}
	}
}
