package slot_test

import (
	"bytes"
	"fmt"
	"hanaper/api"
	"hanaper/disk"
	"hanaper/slot"
	"math/rand"
	"slices"
	"testing"
)

// P14.3: what a crash leaves. What these tests ask hangs on no reckoning of what is done to the disk act by act: only on what it is behind a crash.

// deed is a Put, or (clear) a Clear.
type deed struct {
	i     int
	body  []byte
	clear bool
}

func (x deed) does(s *slot.Slots) api.Errno {
	if x.clear {
		return s.Clear(x.i)
	}
	return s.Put(x.i, x.body)
}

// sector is what the slot's sector is to be behind it.
func (x deed) sector() []byte {
	if x.clear {
		return zero()
	}
	return sealed(4, x.body)
}

// trial is deeds, one behind the other, on a disk of these sectors, from the second one on slots.
type trial struct {
	t     *testing.T
	tells string
	old   [][]byte
	n     int
	deeds []deed
}

const first = 1 // the trials' slot 0

// was is all sectors behind the first k of its deeds.
func (c *trial) was(k int) [][]byte {
	all := slices.Clone(c.old)
	for _, x := range c.deeds[:k] {
		all[first+x.i] = x.sector()
	}
	return all
}

// begun is the disk behind fuse acts of all deeds, and how many of these were answered OK, up to the first one that was not.
func (c *trial) begun(fuse int) (*disk.Disk, int) {
	c.t.Helper()
	d := disked(c.t, c.old)
	s, e := slot.New(d, first, c.n)
	if e != api.OK {
		c.t.Fatalf("%s: New: error %d", c.tells, e)
	}
	d.Fuse(fuse)
	for k, x := range c.deeds {
		if e := x.does(s); e == api.ErrDead {
			return d, k
		} else if e != api.OK {
			c.t.Fatalf("%s: deed %d: error %d", c.tells, k, e)
		}
	}
	return d, len(c.deeds)
}

// whole asks that d, on which nothing is pending, is as it was behind k deeds, or as behind the next one; it tells which.
func (c *trial) whole(d *disk.Disk, k int, how string) int {
	c.t.Helper()
	image := d.Image()
	if len(d.Pending()) > 0 {
		c.t.Fatalf("%s, %s: pending %v", c.tells, how, d.Pending())
	}
	for _, behind := range []int{min(k+1, len(c.deeds)), k} {
		if slices.EqualFunc(image, c.was(behind), bytes.Equal) {
			c.told(d, behind, how)
			return behind
		}
	}
	c.t.Fatalf("%s, %s: %d deeds were answered: %s", c.tells, how, k, unlike(image, c.was(k)))
	return 0
}

// told asks that Slots that are made anew tell what stands there behind k deeds.
func (c *trial) told(d *disk.Disk, k int, how string) {
	c.t.Helper()
	s, e := slot.New(d, first, c.n)
	if e != api.OK {
		c.t.Fatalf("%s, %s: New: error %d", c.tells, how, e)
	}
	used, e := s.Used()
	for i, sector := range c.was(k)[first : first+c.n] {
		want, f := has(sector)
		if b, g := s.Get(i); g != f || !bytes.Equal(b, want) || e != api.OK || used[i] == nought(sector) {
			c.t.Fatalf("%s, %s: slot %d: %s, error %d; Used %v, error %d", c.tells, how, i, short(b), g, used, e)
		}
	}
}

// keeps are ways to keep k pending sectors: none, all, and some thrown; of few, all that there are.
func keeps(r *rand.Rand, k int) [][]bool {
	var l [][]bool
	if k <= 4 {
		for bits := range 1 << k {
			keep := make([]bool, k)
			for i := range k {
				keep[i] = bits>>i&1 == 1
			}
			l = append(l, keep)
		}
		return append(l, nil)
	}
	return append(l, nil, slices.Repeat([]bool{true}, k), thrownKeep(r, k), thrownKeep(r, k), thrownKeep(r, k))
}

func thrownKeep(r *rand.Rand, k int) []bool {
	keep := make([]bool, k)
	for i := range keep {
		keep[i] = r.Intn(2) == 0
	}
	return keep
}

// trials are deeds on few sectors.
func trials(t *testing.T) []*trial {
	put := func(i, n, seed int) deed { return deed{i: i, body: full(n, seed)} }
	wipe := func(i int) deed { return deed{i: i, clear: true} }
	used := parted(6, first, 4)
	used[first+1] = sealed(4, full(40, 1))
	used[first+2] = full(size, 90)
	used[first+3] = sealed(5, full(40, 1))
	return []*trial{
		{t, "a Put", parted(5, first, 3), 3, []deed{put(1, 40, 1)}},
		{t, "a Put of no byte", parted(5, first, 3), 3, []deed{put(0, 0, 1)}},
		{t, "a Put over another", used, 4, []deed{put(1, 60, 2)}},
		{t, "a Put over the same", used, 4, []deed{put(1, 40, 1)}},
		{t, "a Put over what is spoilt", used, 4, []deed{put(2, most, 2)}},
		{t, "a Clear", used, 4, []deed{wipe(1)}},
		{t, "a Clear of what is spoilt", used, 4, []deed{wipe(2)}},
		{t, "a Clear of another kind", used, 4, []deed{wipe(3)}},
		{t, "a Clear of an empty one", used, 4, []deed{wipe(0)}},
		{t, "a Put, and a Clear", parted(5, first, 3), 3, []deed{put(2, 40, 1), wipe(2)}},
		{t, "one Clear behind several Puts", parted(5, first, 3), 3, []deed{put(1, 40, 1), put(1, 50, 2), put(1, 30, 3), put(1, most, 4), wipe(1)}},
		{t, "the same bytes in three slots", parted(5, first, 3), 3, []deed{put(0, 40, 1), put(1, 40, 1), put(2, 40, 1), wipe(1)}},
		{t, "all, and all cleared", used, 4, []deed{put(0, 9, 1), wipe(1), put(3, 9, 2), wipe(2), wipe(0), put(0, 9, 3), wipe(3), wipe(0), wipe(0)}},
		{t, "one sector", zeros(2), 1, []deed{put(0, 9, 1), put(0, 9, 2), wipe(0), put(0, 9, 3)}},
	}
}

// A crash at each act.
func TestCrashes(t *testing.T) {
	r := rand.New(rand.NewSource(143))
	for _, c := range trials(t) {
		ways := make([]int, len(c.deeds)+1)
		for fuse, k := 0, -1; k < len(c.deeds); fuse++ {
			var begun *disk.Disk
			begun, k = c.begun(fuse)
			for _, keep := range keeps(r, len(begun.Pending())) {
				d, _ := c.begun(fuse)
				d.Crash(keep)
				ways[c.whole(d, k, fmt.Sprint(fuse, " acts, kept ", keep))]++
			}
		}
		for k, n := range ways {
			if n == 0 && c.tells != "a Put over the same" && c.tells != "a Clear of an empty one" && k > 0 && !slices.EqualFunc(c.was(k), c.was(k-1), bytes.Equal) {
				t.Errorf("%s: never as behind %d deeds", c.tells, k)
			}
		}
	}
}

// stands is in which sectors of an image the bytes stand.
func stands(image [][]byte, body []byte) (l []int) {
	for i, s := range image {
		if bytes.Contains(s, body) {
			l = append(l, i)
		}
	}
	return l
}

// Behind a Clear that is OK, and any crash, the slot is zero, and its bytes stand in those sectors alone that had them otherwise.
func TestCleared(t *testing.T) {
	r := rand.New(rand.NewSource(144))
	key := []byte("the key of one subject")
	others := [][]byte{full(size, 1), full(size, 2), sealed(5, key), zero(), zero(), full(size, 3), slices.Concat(key, full(size, 4))[:size], full(size, 5)}
	for _, had := range [][]byte{sealed(4, key), sealed(4, append(full(200, 1), key...)), sealed(9, key), slices.Concat(full(100, 1), key, zero())[:size]} {
		for fuse := range 6 {
			for _, more := range []bool{false, true} {
				d := disked(t, others)
				s, _ := slot.New(d, 2, 4)
				s.Put(1, []byte("another one"))
				s.Put(1, append(key, 7))
				d.Write(3, had)
				if more {
					d.Flush()
					d.Write(5, zero())
				}
				d.Fuse(fuse)
				if e := s.Clear(1); (e == api.OK) != (fuse >= 2) {
					t.Fatalf("Clear with fuse %d: error %d", fuse, e)
				}
				for range 3 {
					d.Crash(thrownKeep(r, len(d.Pending())))
					if fuse < 2 {
						s.Clear(1)
					}
					if l := stands(d.Image(), key); !slices.Equal(l, []int{2, 6}) {
						t.Fatalf("fuse %d: the bytes stand in %v", fuse, l)
					}
					if !nought(d.Image()[3]) {
						t.Fatalf("fuse %d: the slot is %s", fuse, short(d.Image()[3]))
					}
				}
			}
		}
	}
}

// Zeros that a Clear left pending, or other hands did, may be lost: a Clear behind them that is OK leaves none of that, though nothing is there to be read. (Fuse gives a dead disk its power again, without a crash.)
func TestZerosThatArePending(t *testing.T) {
	for _, lost := range []func(b *bench){
		func(b *bench) { b.setFuse(1); b.clear(1); b.setFuse(-1) },
		func(b *bench) { b.lay(2, zero()) },
		func(b *bench) { b.lay(2, full(size, 1)); b.lay(2, zero()) },
	} {
		for fuse := -1; fuse < 3; fuse++ {
			b := start(t, parted(5, 1, 3), 1, 3)
			b.put(1, full(30, 1))
			lost(b)
			if got, e := b.s.Get(1); got != nil || e != api.ErrNone {
				t.Errorf("Get of zeros that are pending: %s, error %d", short(got), e)
			}
			b.setFuse(fuse)
			e := b.clear(1)
			b.crash()
			if now := b.d.Image()[2]; e == api.OK && !nought(now) || (e == api.OK) != (fuse < 0 || fuse == 2) {
				t.Errorf("fuse %d: behind Clear, error %d, the slot is %s", fuse, e, short(now))
			}
		}
	}
}

// maybe is what may stand in each slot: in the first place what does, if no power goes.
type maybe [][][]byte

// after is what may stand there behind a deed that was answered e.
func (m maybe) after(x deed, e api.Errno) {
	if e == api.OK {
		m[x.i] = [][]byte{x.sector()}
	} else {
		m[x.i] = append(m[x.i], x.sector())
	}
}

// holds asks that each slot is one of what it may be, and all other sectors are as they were; from then on it is that.
func (m maybe) holds(t *testing.T, image, old [][]byte, how string) {
	t.Helper()
	for i, s := range image {
		k := i - first
		if k < 0 || k >= len(m) {
			if !bytes.Equal(s, old[i]) {
				t.Fatalf("%s: sector %d is %s", how, i, short(s))
			}
			continue
		}
		if !slices.ContainsFunc(m[k], func(b []byte) bool { return bytes.Equal(b, s) }) {
			t.Fatalf("%s: slot %d is %s", how, k, short(s))
		}
		m[k] = [][]byte{s}
	}
}

// Crash upon crash: rows of deeds, in which the power goes again and again.
func TestCrashUponCrash(t *testing.T) {
	for seed := range 500 {
		r := rand.New(rand.NewSource(int64(seed)))
		n := 1 + r.Intn(16)
		old := parted(n+2, first, n)
		d := disked(t, old)
		s, _ := slot.New(d, first, n)
		m := make(maybe, n)
		for i := range m {
			m[i] = [][]byte{zero()}
		}
		for step := range 40 {
			d.Fuse(r.Intn(9))
			for !d.Dead() {
				x := deed{i: r.Intn(n), body: thrown(r, r.Intn(most+1)), clear: r.Intn(3) == 0}
				m.after(x, x.does(s))
				if r.Intn(8) == 0 {
					break
				}
			}
			d.Crash(thrownKeep(r, len(d.Pending())))
			m.holds(t, d.Image(), old, fmt.Sprint("row ", seed, ", step ", step))
			if r.Intn(2) == 0 {
				s, _ = slot.New(d, first, n)
			}
		}
	}
}

// A Clear that is done again, till it is OK, whatever the power does meanwhile.
func TestClearTillItIsDone(t *testing.T) {
	for one := range 3 {
		for two := range 3 {
			for bits := range 4 {
				b := start(t, parted(5, 1, 3), 1, 3)
				b.put(2, full(33, 3))
				b.setFuse(one)
				done := b.clear(2) == api.OK
				b.crash(bits&1 == 1)
				b.setFuse(two)
				done = b.clear(2) == api.OK || done
				b.crash(bits&2 == 2)
				if s := b.d.Image()[3]; done && !nought(s) {
					t.Errorf("fuses %d and %d: %s", one, two, short(s))
				}
				b.clear(2)
				b.crash()
				if s := b.d.Image()[3]; !nought(s) {
					t.Errorf("fuses %d and %d, and once more: %s", one, two, short(s))
				}
			}
		}
	}
}
