package store_test

import (
	"hanaper/api"
	"hanaper/store"
	"math"
	"math/rand"
	"testing"
)

// P13.1: how a disk is parted.

// bounds are the least and the most of a config's numbers, in its order.
func bounds() [4][2]int { return [4][2]int{{2, 400}, {1, 64}, {0, 16}, {1, 800}} }

func config(l [4]int) api.Config { return api.Config{Log: l[0], Files: l[1], Slots: l[2], Data: l[3]} }

// parted holds a config against a reckoning that adds nothing to what is out of its bounds, and tells whether it may be.
func parted(t *testing.T, l [4]int) bool {
	t.Helper()
	ok, sum := true, 1
	for i, b := range bounds() {
		ok = ok && b[0] <= l[i] && l[i] <= b[1]
		if ok {
			sum += l[i]
		}
	}
	ok = ok && sum < 1025
	if ok {
		is(t, config(l), api.OK, sum, 1+l[0]+l[1], l[2], 1+l[0]+l[1]+l[2], l[3])
	} else {
		is(t, config(l), api.ErrArg, 0, 0, 0, 0, 0)
	}
	return ok
}

// is holds all that is told of a config against what the test says.
func is(t *testing.T, c api.Config, e api.Errno, sum, slots, slotCount, data, dataCount int) {
	t.Helper()
	if got := store.Check(c); got != e {
		t.Errorf("Check(%+v): %d, not %d", c, got, e)
	}
	if got := store.Size(c); got != sum {
		t.Errorf("Size(%+v): %d, not %d", c, got, sum)
	}
	if from, n := store.Slots(c); from != slots || n != slotCount {
		t.Errorf("Slots(%+v): %d, %d, not %d, %d", c, from, n, slots, slotCount)
	}
	if from, n := store.Data(c); from != data || n != dataCount {
		t.Errorf("Data(%+v): %d, %d, not %d, %d", c, from, n, data, dataCount)
	}
}

func TestPartedByHand(t *testing.T) {
	is(t, api.Config{Log: 6, Files: 2, Slots: 0, Data: 4}, api.OK, 13, 9, 0, 9, 4)
	is(t, api.Config{Log: 2, Files: 1, Slots: 0, Data: 1}, api.OK, 5, 4, 0, 4, 1)
	is(t, api.Config{Log: 8, Files: 3, Slots: 1, Data: 6}, api.OK, 19, 12, 1, 13, 6)
	is(t, api.Config{Log: 60, Files: 9, Slots: 4, Data: 40}, api.OK, 114, 70, 4, 74, 40)
	is(t, api.Config{Log: 400, Files: 64, Slots: 16, Data: 543}, api.OK, 1024, 465, 16, 481, 543)
	is(t, api.Config{Log: 143, Files: 64, Slots: 16, Data: 800}, api.OK, 1024, 208, 16, 224, 800)
	is(t, api.Config{Log: 400, Files: 1, Slots: 0, Data: 622}, api.OK, 1024, 402, 0, 402, 622)
	is(t, api.Config{Log: 222, Files: 1, Slots: 0, Data: 800}, api.OK, 1024, 224, 0, 224, 800)
	for _, c := range []api.Config{
		{}, {Log: 400, Files: 64, Slots: 16, Data: 544}, {Log: 144, Files: 64, Slots: 16, Data: 800}, {Log: 143, Files: 64, Slots: 17, Data: 800},
		{Log: 400, Files: 1, Slots: 0, Data: 623}, {Log: 400, Files: 2, Slots: 0, Data: 622}, {Log: 400, Files: 1, Slots: 1, Data: 622}, {Log: 223, Files: 1, Slots: 0, Data: 800},
		{Log: 400, Files: 64, Slots: 16, Data: 800}, {Log: 1, Files: 2, Slots: 0, Data: 4}, {Log: 0, Files: 2, Slots: 0, Data: 4}, {Log: 401, Files: 2, Slots: 0, Data: 4},
		{Log: 6, Files: 0, Slots: 0, Data: 4}, {Log: 6, Files: 65, Slots: 0, Data: 4}, {Log: 6, Files: 2, Slots: -1, Data: 4}, {Log: 6, Files: 2, Slots: 17, Data: 4},
		{Log: 6, Files: 2, Slots: 0, Data: 0}, {Log: 6, Files: 2, Slots: 0, Data: 801}, {Log: -6, Files: -2, Slots: -1, Data: -4},
		{Log: math.MaxInt, Files: math.MaxInt, Slots: 1, Data: 20}, {Log: math.MinInt, Files: math.MinInt, Slots: 0, Data: 20}, {Log: math.MaxInt, Files: 1, Slots: 0, Data: math.MinInt},
	} {
		is(t, c, api.ErrArg, 0, 0, 0, 0, 0)
	}
}

// Each number at and about its bounds, and far beyond them, all with all: several are wrong at once.
func TestPartedAtEdges(t *testing.T) {
	var edges [4][]int
	for i, b := range bounds() {
		edges[i] = []int{math.MinInt, -1, b[0] - 1, b[0], b[0] + 1, (b[0] + b[1]) / 2, b[1] - 1, b[1], b[1] + 1, 1 << 32, 1<<32 + b[0], math.MaxInt}
	}
	count := 0
	for _, log := range edges[0] {
		for _, files := range edges[1] {
			for _, slots := range edges[2] {
				for _, data := range edges[3] {
					if parted(t, [4]int{log, files, slots, data}) {
						count++
					}
				}
			}
		}
	}
	if count < 100 {
		t.Errorf("%d configs might be", count)
	}
}

// Each number in all its ways, the others being small, and being what leaves few sectors.
func TestEachNumber(t *testing.T) {
	for _, rest := range [][4]int{{2, 1, 0, 1}, {6, 2, 3, 4}, {222, 1, 0, 800}, {143, 64, 16, 800}, {400, 64, 16, 543}, {300, 30, 8, 680}} {
		for i, b := range bounds() {
			for n := -3; n <= b[1]+300; n++ {
				l := rest
				l[i] = n
				parted(t, l)
			}
		}
	}
}

func TestThrownConfigs(t *testing.T) {
	d := rand.New(rand.NewSource(131))
	var count [2]int
	for range 20000 {
		var l [4]int
		for i, b := range bounds() {
			l[i] = b[0] + d.Intn(b[1]-b[0]+1)
		}
		if d.Intn(3) == 0 {
			l[d.Intn(4)] = d.Intn(1000) - 20
		}
		if d.Intn(3) == 0 { // about as many sectors as there may be
			l[3] = 1023 - l[0] - l[1] - l[2] + d.Intn(5) - 2
		}
		if d.Intn(10) == 0 {
			l[d.Intn(4)] = int(d.Uint64())
		}
		if parted(t, l) {
			count[1]++
		} else {
			count[0]++
		}
	}
	if count[0] < 2000 || count[1] < 2000 {
		t.Errorf("configs that may not be, and that may: %v", count)
	}
}
