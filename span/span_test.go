package span_test

import (
	"hanaper/api"
	"hanaper/span"
	"math"
	"math/big"
	"math/rand"
	"testing"
)

const (
	mostDays  = 1048576
	mostClock = 1099511627776
	units     = "dwmy" // as they grow
)

// daysOf is how many days a unit has, 0 of a byte that is none.
func daysOf(unit byte) int {
	return map[byte]int{'d': 1, 'w': 7, 'm': 30, 'y': 365}[unit]
}

// daysTo holds Days against what the document asks; beside an error that is 0.
func daysTo(t *testing.T, n int, unit byte, want int, err api.Errno) {
	t.Helper()
	if got, e := span.Days(n, unit); got != want || e != err {
		t.Errorf("Days(%d, %q): %d, %d, not %d, %d", n, unit, got, e, want, err)
	}
}

// reckonDays is Days, reckoned by the tests themselves with numbers that don't wrap round.
func reckonDays(n int, unit byte) (int, api.Errno) {
	each := daysOf(unit)
	if n < 0 || each == 0 {
		return 0, api.ErrArg
	}
	all := new(big.Int).Mul(big.NewInt(int64(n)), big.NewInt(int64(each)))
	if all.Cmp(big.NewInt(mostDays)) > 0 {
		return 0, api.ErrTime
	}
	return int(all.Int64()), api.OK
}

// days holds Days against the tests' own reckoning.
func days(t *testing.T, n int, unit byte) {
	t.Helper()
	want, e := reckonDays(n, unit)
	daysTo(t, n, unit, want, e)
}

// wrapping are the numbers whose product with each has, in so many bits, just wrapped round: once, twice, and so on.
func wrapping(each int, bits uint) []int {
	var l []int
	for m := range each {
		// The first number whose product is not below m times 2 to the power of bits.
		n := new(big.Int).Lsh(big.NewInt(int64(m)), bits)
		n.Add(n, big.NewInt(int64(each-1)))
		n.Div(n, big.NewInt(int64(each)))
		if n.IsInt64() {
			l = append(l, int(n.Int64()))
		}
	}
	return l
}

// edges are ints about 0, about both limits and about all powers of 2, the least and the greatest one.
func edges() []int {
	l := []int{math.MinInt, math.MinInt + 1, math.MaxInt, math.MaxInt - 1, mostClock - mostDays, mostClock - mostDays - 1, mostClock - mostDays + 1}
	for shift := range 63 {
		for near := -2; near <= 2; near++ {
			l = append(l, 1<<shift+near, -1<<shift+near)
		}
	}
	return l
}

// thrownInt is an int of any length, below 0 half of the times.
func thrownInt(d *rand.Rand) int {
	return int(d.Uint64()) >> d.Intn(64)
}

// P15.1.

func TestLimits(t *testing.T) {
	if api.MaxDays != mostDays || api.MaxClock != mostClock {
		t.Fatalf("MaxDays is %d, MaxClock %d", api.MaxDays, api.MaxClock)
	}
}

func TestDaysByHand(t *testing.T) {
	for _, c := range []struct {
		unit              byte
		one, two, hundred int
		most, then        int
	}{
		{'d', 1, 2, 100, 1048576, 1048576},
		{'w', 7, 14, 700, 149796, 1048572},
		{'m', 30, 60, 3000, 34952, 1048560},
		{'y', 365, 730, 36500, 2872, 1048280},
	} {
		daysTo(t, -1, c.unit, 0, api.ErrArg)
		daysTo(t, 0, c.unit, 0, api.OK)
		daysTo(t, 1, c.unit, c.one, api.OK)
		daysTo(t, 2, c.unit, c.two, api.OK)
		daysTo(t, 100, c.unit, c.hundred, api.OK)
		daysTo(t, c.most-1, c.unit, c.then-c.one, api.OK)
		daysTo(t, c.most, c.unit, c.then, api.OK)
		daysTo(t, c.most+1, c.unit, 0, api.ErrTime)
		daysTo(t, math.MaxInt, c.unit, 0, api.ErrTime)
		daysTo(t, math.MinInt, c.unit, 0, api.ErrArg)
	}
}

// All bytes, the units and those that are none; each with numbers that are right, too great, and below 0, so that a byte that is no unit, and a number below 0, come ahead of what is too great.
func TestDaysOfAllBytes(t *testing.T) {
	count := 0
	for unit := range 256 {
		for _, n := range append(edges(), 3, 2872, 2873, 34952, 34953, 149796, 149797) {
			days(t, n, byte(unit))
		}
		if _, e := span.Days(1, byte(unit)); e == api.OK {
			count++
		}
	}
	if count != len(units) {
		t.Errorf("%d bytes are units", count)
	}
	for _, unit := range []byte{0, 'D', 'W', 'M', 'Y', 'c', 'e', 'v', 'x', 'l', 'n', 'z', 'h', ' ', '0', 'd' + 128, 255} {
		daysTo(t, 1, unit, 0, api.ErrArg)
		daysTo(t, -1, unit, 0, api.ErrArg)
		daysTo(t, mostDays+1, unit, 0, api.ErrArg)
		daysTo(t, math.MaxInt, unit, 0, api.ErrArg)
	}
}

func TestDaysOfAllNumbers(t *testing.T) {
	for _, unit := range []byte(units) {
		for n := range mostDays + 20 {
			days(t, n, unit)
		}
		for n := range 1000 {
			daysTo(t, -1-n, unit, 0, api.ErrArg)
		}
	}
}

func TestDaysThatWrapRound(t *testing.T) {
	for _, unit := range []byte(units) {
		for _, bits := range []uint{16, 20, 21, 31, 32, 40, 62, 63, 64} {
			for _, n := range wrapping(daysOf(unit), bits) {
				for near := -1; near <= 3; near++ {
					days(t, n+near, unit)
				}
			}
		}
	}
	// These products are 3, 14 and 509, where nothing above 64 bits is kept, and 0, where nothing above 32 bits is.
	for n, unit := range map[int]byte{5270498306774157605: 'w', 614891469123651721: 'm', 50539024859478225: 'y', 1 << 32: 'd'} {
		daysTo(t, n, unit, 0, api.ErrTime)
	}
}

func TestDaysOfThrownNumbers(t *testing.T) {
	d := rand.New(rand.NewSource(151))
	for range 200000 {
		days(t, thrownInt(d), units[d.Intn(len(units))])
		days(t, thrownInt(d), byte(d.Intn(256)))
	}
}

// P15.3.

// within is whether n is from least to most.
func within(n, least, most int) bool {
	return n >= least && n <= most
}

// sum is a and b together, and whether that is at most MaxClock.
func sum(a, b int) (int, bool) {
	all := new(big.Int).Add(big.NewInt(int64(a)), big.NewInt(int64(b)))
	if all.Cmp(big.NewInt(mostClock)) > 0 {
		return 0, false
	}
	return int(all.Int64()), true
}

func afterTo(t *testing.T, tick, days, want int, ok bool) {
	t.Helper()
	if got, is := span.After(tick, days); got != want || is != ok {
		t.Errorf("After(%d, %d): %d, %t, not %d, %t", tick, days, got, is, want, ok)
	}
}

func addTo(t *testing.T, clock, n, want int, err api.Errno) {
	t.Helper()
	if got, e := span.Add(clock, n); got != want || e != err {
		t.Errorf("Add(%d, %d): %d, %d, not %d, %d", clock, n, got, e, want, err)
	}
}

// ticks holds After and Add against the tests' own reckoning, and what P15.4 says: no clock goes back.
func ticks(t *testing.T, a, b int) {
	t.Helper()
	all, fits := sum(a, b)
	if within(a, 0, mostClock) && within(b, 0, mostDays) && fits {
		afterTo(t, a, b, all, true)
	} else {
		afterTo(t, a, b, 0, false)
	}
	switch {
	case !within(a, 0, mostClock) || b <= 0:
		addTo(t, a, b, 0, api.ErrArg)
	case !fits:
		addTo(t, a, b, 0, api.ErrTime)
	default:
		addTo(t, a, b, all, api.OK)
	}
	if clock, e := span.Add(a, b); e == api.OK && (clock <= a || clock > mostClock) {
		t.Errorf("Add(%d, %d): the clock goes to %d", a, b, clock)
	}
	if tick, ok := span.After(a, b); ok && (tick < a || tick < b || tick > mostClock) {
		t.Errorf("After(%d, %d): the tick %d", a, b, tick)
	}
}

func TestAfterByHand(t *testing.T) {
	for _, c := range []struct {
		tick, days, want int
		ok               bool
	}{
		{0, 0, 0, true},
		{10, 730, 740, true},
		{0, 1, 1, true},
		{1, 0, 1, true},
		{0, mostDays, mostDays, true},
		{0, mostDays + 1, 0, false},
		{5, mostDays, mostDays + 5, true},
		{5, mostDays + 1, 0, false},
		{mostClock, 0, mostClock, true},
		{mostClock, 1, 0, false},
		{mostClock, mostDays, 0, false},
		{mostClock, mostDays + 1, 0, false},
		{mostClock - 1, 0, mostClock - 1, true},
		{mostClock - 1, 1, mostClock, true},
		{mostClock - 1, 2, 0, false},
		{mostClock - mostDays, mostDays, mostClock, true},
		{mostClock - mostDays, mostDays - 1, mostClock - 1, true},
		{mostClock - mostDays + 1, mostDays, 0, false},
		{mostClock - mostDays - 1, mostDays, mostClock - 1, true},
		{mostClock - mostDays - 1, mostDays + 1, 0, false},
		{mostClock + 1, 0, 0, false},
		{mostClock + 1, -1, 0, false},
		{-1, 0, 0, false},
		{-1, 1, 0, false},
		{-1, 2, 0, false},
		{0, -1, 0, false},
		{1, -1, 0, false},
		{5, -1, 0, false},
		{-1, -1, 0, false},
		{math.MaxInt, 1, 0, false},
		{math.MaxInt, mostDays, 0, false},
		{1, math.MaxInt, 0, false},
		{math.MaxInt, math.MaxInt, 0, false},
		{math.MinInt, 0, 0, false},
		{math.MinInt, math.MinInt, 0, false},
		{math.MinInt, math.MaxInt, 0, false},
		{0, math.MinInt, 0, false},
	} {
		afterTo(t, c.tick, c.days, c.want, c.ok)
		ticks(t, c.tick, c.days)
	}
}

func TestAddByHand(t *testing.T) {
	for _, c := range []struct {
		clock, n, want int
		err            api.Errno
	}{
		{0, 1, 1, api.OK},
		{5, 7, 12, api.OK},
		{0, 0, 0, api.ErrArg},
		{0, -1, 0, api.ErrArg},
		{5, 0, 0, api.ErrArg},
		{5, -1, 0, api.ErrArg},
		{5, -5, 0, api.ErrArg},
		{-1, 1, 0, api.ErrArg},
		{-1, 2, 0, api.ErrArg},
		{-1, 0, 0, api.ErrArg},
		{0, mostDays, mostDays, api.OK},
		{0, mostDays + 1, mostDays + 1, api.OK},
		{3, mostDays + 1, mostDays + 4, api.OK},
		{0, mostClock - 1, mostClock - 1, api.OK},
		{0, mostClock, mostClock, api.OK},
		{0, mostClock + 1, 0, api.ErrTime},
		{1, mostClock - 1, mostClock, api.OK},
		{1, mostClock, 0, api.ErrTime},
		{mostClock - 1, 1, mostClock, api.OK},
		{mostClock - 1, 2, 0, api.ErrTime},
		{mostClock, 1, 0, api.ErrTime},
		{mostClock, 0, 0, api.ErrArg},
		{mostClock, -1, 0, api.ErrArg},
		{mostClock + 1, 1, 0, api.ErrArg},
		{mostClock + 1, 0, 0, api.ErrArg},
		{mostClock + 1, -1, 0, api.ErrArg},
		{mostClock + 1, mostClock, 0, api.ErrArg},
		{-1, mostClock + 2, 0, api.ErrArg},
		{0, math.MaxInt, 0, api.ErrTime},
		{1, math.MaxInt, 0, api.ErrTime},
		{mostClock, math.MaxInt, 0, api.ErrTime},
		{math.MaxInt, 1, 0, api.ErrArg},
		{math.MaxInt, math.MaxInt, 0, api.ErrArg},
		{math.MinInt, math.MaxInt, 0, api.ErrArg},
		{math.MinInt, math.MinInt, 0, api.ErrArg},
		{0, math.MinInt, 0, api.ErrArg},
		{mostClock, math.MinInt, 0, api.ErrArg},
	} {
		addTo(t, c.clock, c.n, c.want, c.err)
		ticks(t, c.clock, c.n)
	}
}

// All edges at both places.
func TestTicksOfAllEdges(t *testing.T) {
	for _, a := range edges() {
		for _, b := range edges() {
			ticks(t, a, b)
		}
		for near := -2; near <= 2; near++ {
			ticks(t, a, mostClock-a+near)
			ticks(t, mostClock-a+near, a)
		}
	}
}

func TestTicksOfThrownNumbers(t *testing.T) {
	d := rand.New(rand.NewSource(153))
	for range 200000 {
		a, b := d.Intn(mostClock+1), d.Intn(mostDays+1)
		ticks(t, a, b)
		ticks(t, mostClock-b/2, d.Intn(b+1))
		ticks(t, a, d.Intn(mostClock+1))
		ticks(t, thrownInt(d), thrownInt(d))
		ticks(t, a, thrownInt(d))
		ticks(t, thrownInt(d), b)
	}
}

// Rules that hold everywhere, 4: the same is answered again, whatever was asked between.
func TestAgain(t *testing.T) {
	for range 3 {
		daysTo(t, 3, 'w', 21, api.OK)
		daysTo(t, 3, 'x', 0, api.ErrArg)
		daysTo(t, 2873, 'y', 0, api.ErrTime)
		textTo(t, 730, "2y")
		textTo(t, -1, "")
		parseTo(t, "3w", 21, api.OK)
		parseTo(t, "03w", 0, api.ErrText)
		parseTo(t, "2873y", 0, api.ErrTime)
		afterTo(t, 10, 730, 740, true)
		afterTo(t, 10, -1, 0, false)
		addTo(t, 10, 730, 740, api.OK)
		addTo(t, 10, 0, 0, api.ErrArg)
	}
}
