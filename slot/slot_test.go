package slot_test

import (
	"bytes"
	"hanaper/api"
	"hanaper/disk"
	"hanaper/sect"
	"hanaper/slot"
	"math"
	"math/rand"
	"slices"
	"testing"
)

// P14.1: New.

// mayBe is whether there may be n slots from from on, on a disk of so many sectors: it goes from sector to sector.
func mayBe(sectors, from, n int) bool {
	if n < 0 || n > 16 || from < 0 || from > sectors {
		return false
	}
	for ; n > 0; n-- {
		if from >= sectors {
			return false
		}
		from++
	}
	return true
}

// news holds New against what the document asks, and that it does nothing.
func news(t *testing.T, d *disk.Disk, from, n int) {
	t.Helper()
	acts, pending := d.Acts(), d.Pending()
	s, e := slot.New(d, from, n)
	want := api.ErrArg
	if mayBe(d.Size(), from, n) {
		want = api.OK
	}
	if e != want || (s != nil) != (want == api.OK) {
		t.Errorf("New of %d sectors, %d, %d: %v, error %d, not %d", d.Size(), from, n, s != nil, e, want)
	}
	if d.Acts() != acts || !slices.Equal(d.Pending(), pending) {
		t.Errorf("New of %d sectors, %d, %d: %d acts", d.Size(), from, n, d.Acts()-acts)
	}
}

func TestNewByHand(t *testing.T) {
	for _, c := range []struct {
		sectors, from, n int
		want             api.Errno
	}{
		{1, 0, 0, api.OK},
		{1, 0, 1, api.OK},
		{1, 0, 2, api.ErrArg},
		{1, 1, 0, api.OK},
		{1, 1, 1, api.ErrArg},
		{6, 2, 3, api.OK},
		{6, 2, 4, api.OK},
		{6, 2, 5, api.ErrArg},
		{6, 5, 1, api.OK},
		{6, 5, 2, api.ErrArg},
		{6, 6, 0, api.OK},
		{6, 6, 1, api.ErrArg},
		{6, 7, 0, api.ErrArg},
		{6, -1, 0, api.ErrArg},
		{6, -1, 1, api.ErrArg},
		{6, -1, 7, api.ErrArg},
		{6, 0, -1, api.ErrArg},
		{6, 5, -1, api.ErrArg},
		{6, 7, -1, api.ErrArg},
		{15, 0, 16, api.ErrArg},
		{16, 0, 16, api.OK},
		{16, 1, 16, api.ErrArg},
		{17, 0, 17, api.ErrArg},
		{17, 1, 16, api.OK},
		{40, 0, 17, api.ErrArg},
		{40, 24, 16, api.OK},
		{40, 25, 16, api.ErrArg},
		{1024, 1008, 16, api.OK},
		{1024, 1009, 16, api.ErrArg},
		{1024, 1023, 1, api.OK},
		{1024, 0, 1024, api.ErrArg},
		{6, math.MaxInt, 1, api.ErrArg},
		{6, math.MaxInt, 16, api.ErrArg},
		{6, math.MaxInt - 15, 16, api.ErrArg},
		{6, 1, math.MaxInt, api.ErrArg},
		{6, math.MaxInt, math.MaxInt, api.ErrArg},
		{6, math.MinInt, 0, api.ErrArg},
		{6, math.MinInt, math.MinInt, api.ErrArg},
		{6, math.MaxInt, math.MinInt, api.ErrArg},
		{6, 0, math.MinInt, api.ErrArg},
		{6, -1 << 32, 3, api.ErrArg},
		{6, 1<<32 + 2, 3, api.ErrArg},
		{6, 2, 1<<32 + 3, api.ErrArg},
	} {
		d, _ := disk.New(c.sectors)
		s, e := slot.New(d, c.from, c.n)
		if e != c.want || (s != nil) != (e == api.OK) {
			t.Errorf("New of %d sectors, %d, %d: %v, error %d, not %d", c.sectors, c.from, c.n, s != nil, e, c.want)
		}
	}
}

func TestNewAtTheEdges(t *testing.T) {
	for _, sectors := range []int{1, 2, 6, 15, 16, 17, 18, 33, 1023, 1024} {
		d, _ := disk.New(sectors)
		for _, from := range append(far(sectors), sectors-15, sectors-16, sectors-17) {
			for _, n := range append(far(16), 2, 3, 14, 18) {
				news(t, d, from, n)
			}
		}
	}
}

// All of a few sectors.
func TestNewOfFew(t *testing.T) {
	for sectors := 1; sectors <= 20; sectors++ {
		d, _ := disk.New(sectors)
		for from := -2; from <= sectors+2; from++ {
			for n := -2; n <= 19; n++ {
				news(t, d, from, n)
			}
		}
	}
}

func TestNewThrown(t *testing.T) {
	r := rand.New(rand.NewSource(141))
	for range 3000 {
		d, _ := disk.New(1 + r.Intn(1024))
		news(t, d, r.Intn(1100)-20, r.Intn(20)-1)
		news(t, d, d.Size()-r.Intn(20), r.Intn(18))
		news(t, d, int(r.Uint64()), r.Intn(18))
		news(t, d, r.Intn(1024), int(r.Uint64()))
	}
}

// A nil disk, and one that disk.New did not make, with what may be and with what is wrong besides.
func TestNewOfNobodysDisk(t *testing.T) {
	none, _ := disk.New(0)
	for what, d := range map[string]*disk.Disk{"nil": nil, "blank": {}, "new": new(disk.Disk), "refused": none} {
		for _, from := range far(1) {
			for _, n := range far(16) {
				if s, e := slot.New(d, from, n); s != nil || e != api.ErrNil {
					t.Errorf("%s: New of %d, %d: %v, error %d", what, from, n, s != nil, e)
				}
			}
		}
	}
}

// A disk that is dead, or has something pending, is asked nothing.
func TestNewOfADeadDisk(t *testing.T) {
	d := disked(t, others(20))
	d.Write(3, zero())
	for range 2 {
		for from := -1; from <= 21; from++ {
			for n := -1; n <= 17; n++ {
				news(t, d, from, n)
			}
		}
		d.Fuse(0)
	}
	s, e := slot.New(d, 3, 2)
	if e != api.OK || s.Put(0, nil) != api.ErrDead {
		t.Fatalf("New of a dead disk: error %d", e)
	}
	d.Crash(nil)
	if e := s.Put(0, []byte("a")); e != api.OK {
		t.Errorf("Put behind the crash: error %d", e)
	}
}

// The slots are the sectors from from on, in order, and no others.
func TestWhichSectors(t *testing.T) {
	for _, c := range []struct{ sectors, from, n int }{{1, 0, 1}, {6, 2, 3}, {16, 0, 16}, {18, 1, 16}, {18, 2, 16}, {9, 8, 1}, {9, 0, 1}, {1024, 1008, 16}, {300, 250, 16}} {
		b := start(t, parted(c.sectors, c.from, c.n), c.from, c.n)
		for i := range c.n {
			b.put(i, full(10+i, i))
			if s, _ := b.d.Read(c.from + i); !bytes.Equal(s, sealed(4, full(10+i, i))) {
				t.Errorf("slot %d of %v is %s", i, c, short(s))
			}
		}
		for i := c.n - 1; i >= 0; i-- {
			b.clear(i)
		}
	}
}

// A nil Slots, and one that New did not make.
func TestNobodysSlots(t *testing.T) {
	d, _ := disk.New(6)
	refused, _ := slot.New(d, 2, 17)
	ofNil, _ := slot.New(nil, 2, 3)
	for what, s := range map[string]*slot.Slots{"nil": nil, "blank": {}, "new": new(slot.Slots), "refused": refused, "of a nil disk": ofNil} {
		for range 2 { // what is done to it makes it none either
			for _, i := range far(3) {
				for _, body := range [][]byte{nil, {}, {1}, full(most, 1), full(most+1, 1), full(1<<16, 1)} {
					if e := s.Put(i, body); e != api.ErrNil {
						t.Errorf("%s: Put(%d, %s): error %d", what, i, short(body), e)
					}
				}
				if b, e := s.Get(i); b != nil || e != api.ErrNil {
					t.Errorf("%s: Get(%d): %v, error %d", what, i, b, e)
				}
				if e := s.Clear(i); e != api.ErrNil {
					t.Errorf("%s: Clear(%d): error %d", what, i, e)
				}
			}
			if l, e := s.Used(); l != nil || e != api.ErrNil {
				t.Errorf("%s: Used: %v, error %d", what, l, e)
			}
		}
	}
}

// P14.2: Put, Get, Clear, Used.

func TestExample(t *testing.T) {
	d, _ := disk.New(3)
	s, _ := slot.New(d, 1, 2)
	if e := s.Put(0, []byte("a")); e != api.OK {
		t.Fatalf("Put: error %d", e)
	}
	if b, e := s.Get(0); e != api.OK || string(b) != "a" {
		t.Fatalf("Get: %q, error %d", b, e)
	}
	if e := s.Clear(0); e != api.OK {
		t.Fatalf("Clear: error %d", e)
	}
	if b, e := s.Get(0); b != nil || e != api.ErrNone {
		t.Fatalf("Get behind Clear: %v, error %d", b, e)
	}
}

// A slot's sector, byte for byte, and all acts.
func TestByHand(t *testing.T) {
	d, _ := disk.New(4)
	s, _ := slot.New(d, 1, 2)
	rising := make([]byte, most)
	for i := range rising {
		rising[i] = byte(i)
	}
	if e := s.Put(1, rising); e != api.OK || d.Acts() != 2 || len(d.Pending()) > 0 {
		t.Fatalf("Put: error %d, %d acts, pending %v", e, d.Acts(), d.Pending())
	}
	want := slices.Concat([]byte{4, 0, 249}, rising, []byte{19, 128, 5, 136})
	if image := d.Image(); !bytes.Equal(image[2], want) || !nought(image[0]) || !nought(image[1]) || !nought(image[3]) {
		t.Fatalf("the image is %x", image)
	}
	if u, e := s.Used(); e != api.OK || !slices.Equal(u, []bool{false, true}) {
		t.Errorf("Used: %v, error %d", u, e)
	}
	if e := s.Clear(0); e != api.OK || d.Acts() != 2 {
		t.Errorf("Clear of an empty one: error %d, %d acts", e, d.Acts())
	}
	if e := s.Clear(1); e != api.OK || d.Acts() != 4 || len(d.Pending()) > 0 {
		t.Errorf("Clear: error %d, %d acts, pending %v", e, d.Acts(), d.Pending())
	}
	for i, s := range d.Image() {
		if !nought(s) {
			t.Errorf("behind Clear the sector %d is %x", i, s)
		}
	}
	if e := s.Clear(1); e != api.OK || d.Acts() != 4 {
		t.Errorf("Clear once more: error %d, %d acts", e, d.Acts())
	}
}

// The tests' own sealed sectors are those of sect.
func TestSealed(t *testing.T) {
	for n := range most + 1 {
		if s, e := sect.Put(4, full(n, n)); e != api.OK || !bytes.Equal(s, sealed(4, full(n, n))) {
			t.Fatalf("a sector of %d bytes is %s", n, short(s))
		}
	}
}

// All sizes, put over one another.
func TestAllSizes(t *testing.T) {
	b := start(t, parted(5, 1, 3), 1, 3)
	for n := range most + 1 {
		b.put(1, full(n, n))
		b.put(1, make([]byte, n))
		b.put(n%3, bytes.Repeat([]byte{255}, most-n))
	}
	b.put(1, nil)
	b.put(1, []byte{})
	b.clear(1)
	b.put(1, append(full(9, 1), 1, 2, 3)[:9]) // with room behind it, which is no part of it
}

// Each byte, as all that was put.
func TestEachByte(t *testing.T) {
	b := start(t, zeros(3), 1, 1)
	for v := range 256 {
		b.put(0, []byte{byte(v)})
	}
}

func TestTooLong(t *testing.T) {
	for _, c := range []struct{ from, n int }{{1, 3}, {0, 0}} {
		b := start(t, parted(6, c.from, c.n), c.from, c.n)
		if c.n > 0 {
			b.put(0, full(7, 7))
		}
		for _, n := range []int{most + 1, 251, 252, 253, 255, 256, 257, 256 + most, 511, 512, 65535, 65536, 65536 + most, 1 << 20} {
			for _, i := range far(c.n) { // one that is not there comes ahead of what is too long
				b.put(i, full(n, n))
			}
			b.put(0, make([]byte, n))
		}
	}
}

// Slots that are not there.
func TestNoSuchSlot(t *testing.T) {
	for _, c := range []struct{ sectors, from, n int }{{6, 0, 6}, {6, 2, 3}, {6, 5, 1}, {6, 0, 0}, {6, 3, 0}, {6, 6, 0}, {40, 7, 16}} {
		b := start(t, others(c.sectors), c.from, c.n)
		for range 2 {
			for _, i := range append(far(c.n), -c.from, -c.from-1, c.sectors-c.from, c.sectors-c.from-1, c.sectors) {
				if b.isSlot(i) {
					continue
				}
				b.put(i, full(5, i))
				b.clear(i)
				if got, e := b.s.Get(i); got != nil || e != api.ErrArg {
					t.Errorf("Get(%d) of %v: %v, error %d", i, c, got, e)
				}
			}
			b.setFuse(0) // that comes ahead of the disk's error
		}
	}
}

// spoilt are sectors that no Put leaves, and sealed ones of other kinds.
func spoilt() [][]byte {
	right := sealed(4, full(20, 3))
	long := sealed(4, full(most, 3))
	r := rand.New(rand.NewSource(142))
	l := [][]byte{
		full(size, 1),
		bytes.Repeat([]byte{255}, size),
		marked(zero()),
		marked(with(right, 0, 4)),      // of the kind 0
		marked(with(right, 2, 4)),      // bytes behind those that it says it has
		marked(with(right, 251, 1)),    // so at the end
		marked(with(right, 1, 1)),      // more than there may be
		marked(with(long, 2, 249^250)), // one more than there may be
		slices.Concat(right[128:], right[:128]),
	}
	for at := range size {
		one := with(zero(), at, byte(1+at%255))
		l = append(l, one, with(right, at, 1<<(at%8)), with(right, at, 255), with(long, at, byte(1+r.Intn(255))))
		l = append(l, with(with(right, at, byte(1+r.Intn(255))), (at+1+r.Intn(251))%size, byte(1+r.Intn(255))))
	}
	for kind := 1; kind < 256; kind++ {
		if kind != 4 {
			l = append(l, sealed(kind, full(kind%250, kind)), sealed(kind, nil))
		}
	}
	for range 100 {
		l = append(l, thrown(r, size))
	}
	return l
}

// Sectors that other hands laid: what is got of them, whether they are used, what Clear makes of them, and Put.
func TestSpoilt(t *testing.T) {
	b := start(t, parted(5, 1, 3), 1, 3)
	b.put(0, full(3, 1))
	for i, s := range spoilt() {
		if _, e := has(s); e != api.ErrBad {
			t.Fatalf("%d: %s is not spoilt: %d", i, short(s), e)
		}
		b.lay(2, s)
		if i%2 == 0 {
			b.flush()
		}
		if got, e := b.s.Get(1); got != nil || e != api.ErrBad {
			t.Errorf("Get of %s: %v, error %d", short(s), got, e)
		}
		if u, e := b.s.Used(); e != api.OK || !slices.Equal(u, []bool{true, true, false}) {
			t.Errorf("Used of %s: %v, error %d", short(s), u, e)
		}
		if i%3 == 0 {
			b.put(1, full(4, i))
			b.lay(2, s)
		}
		b.clear(1)
		was := b.acts
		b.clear(1)
		if b.acts != was {
			t.Errorf("Clear behind Clear of %s: %d acts", short(s), b.acts-was)
		}
	}
}

// Sealed sectors of the kind 4 that other hands laid are got.
func TestLaidByOthers(t *testing.T) {
	b := start(t, parted(5, 1, 3), 1, 3)
	for _, n := range []int{0, 1, 100, most - 1, most} {
		b.lay(3, sealed(4, full(n, n)))
		if got, e := b.s.Get(2); e != api.OK || !bytes.Equal(got, full(n, n)) {
			t.Errorf("Get of %d bytes: %s, error %d", n, short(got), e)
		}
		b.lay(3, zero())
		if got, e := b.s.Get(2); got != nil || e != api.ErrNone {
			t.Errorf("Get of none: %s, error %d", short(got), e)
		}
	}
}

// What a slot goes through.
func TestRowOfASlot(t *testing.T) {
	b := start(t, parted(8, 2, 4), 2, 4)
	for i := range 4 {
		b.put(i, []byte("once"))
		b.put(i, []byte("again"))
		b.put(i, []byte("again"))
		b.clear(i)
		b.clear(i)
		b.put(i, []byte("anew"))
	}
	b.crash()
	b.crash(true, true)
	for i := range 4 {
		if got, e := b.s.Get(i); e != api.OK || string(got) != "anew" {
			t.Errorf("Get(%d): %q, error %d", i, got, e)
		}
	}
	if again, e := slot.New(b.d, 2, 4); e != api.OK {
		t.Errorf("New: error %d", e)
	} else if got, e := again.Get(3); e != api.OK || string(got) != "anew" {
		t.Errorf("Get of other Slots of the same sectors: %q, error %d", got, e)
	}
}

// All, some, none.
func TestUsed(t *testing.T) {
	for _, n := range []int{0, 1, 2, 5, 16} {
		b := start(t, parted(n+2, 1, n), 1, n)
		for set := range min(1<<n, 64) {
			want := make([]bool, n)
			for i := range n {
				want[i] = set>>(i%6)&1 == 1
				if want[i] {
					b.put(i, full(i, set))
				} else {
					b.clear(i)
				}
			}
			if l, e := b.s.Used(); e != api.OK || !slices.Equal(l, want) {
				t.Errorf("Used of %d: %v, error %d, not %v", n, l, e, want)
			}
		}
	}
}

// What other hands left pending is flushed by a Put, and by a Clear that does something, and stays pending behind one that does nothing.
func TestPendingOfOthers(t *testing.T) {
	b := start(t, parted(8, 2, 3), 2, 3)
	b.lay(0, full(size, 1))
	b.lay(7, full(size, 2))
	b.clear(0)
	b.put(3, nil)
	b.put(0, full(most+1, 1))
	if l := b.d.Pending(); !slices.Equal(l, []int{0, 7}) {
		t.Errorf("pending: %v", l)
	}
	b.put(0, nil)
	if l := b.d.Pending(); len(l) > 0 {
		t.Errorf("pending behind Put: %v", l)
	}
	b.lay(0, full(size, 3))
	b.clear(0)
	if l := b.d.Pending(); len(l) > 0 {
		t.Errorf("pending behind Clear: %v", l)
	}
	b.lay(3, zero()) // zeros over zeros
	b.clear(1)
	if l := b.d.Pending(); !slices.Equal(l, []int{3}) {
		t.Errorf("pending behind Clear of an empty one: %v", l)
	}
}

// Two Slots that share sectors, and two of the same ones.
func TestTwoSlots(t *testing.T) {
	for _, from := range []int{1, 3, 5} {
		a := start(t, parted(10, 1, 8), 1, 4)
		s, e := slot.New(a.d, from, 4)
		if e != api.OK {
			t.Fatalf("New: error %d", e)
		}
		r := rand.New(rand.NewSource(int64(from)))
		for range 300 {
			a.s, s = s, a.s
			a.from, from = from, a.from
			a.anyhow(r)
		}
	}
}

// anyhow does something that r throws, and no power goes at it.
func (b *bench) anyhow(r *rand.Rand) {
	b.t.Helper()
	i := r.Intn(b.n+2) - 1
	switch r.Intn(8) {
	case 0, 1, 2:
		b.put(i, thrown(r, r.Intn(most+3)))
	case 3, 4:
		b.clear(i)
	case 5:
		b.lay(r.Intn(len(b.now)), zero())
	case 6:
		b.lay(r.Intn(len(b.now)), sealed(1+r.Intn(5), thrown(r, 9)))
	case 7:
		b.flush()
	}
}

// Rows of all that may be done, also while the power goes, and has gone.
func TestThrownRows(t *testing.T) {
	for seed := range 300 {
		r := rand.New(rand.NewSource(int64(seed)))
		sectors := 1 + r.Intn(20)
		from := r.Intn(sectors + 1)
		n := r.Intn(min(16, sectors-from) + 1)
		b := start(t, others(sectors), from, n)
		b.agree()
		for range 60 {
			switch r.Intn(12) {
			case 0:
				b.setFuse(r.Intn(8) - 1)
			case 1:
				b.crash(r.Intn(2) == 0, r.Intn(2) == 0, r.Intn(2) == 0)
			default:
				b.anyhow(r)
			}
		}
	}
}

// A dead disk: its error behind all others, of each function.
func TestDead(t *testing.T) {
	for _, n := range []int{0, 1, 3, 16} {
		b := start(t, others(n+2), 1, n)
		if n > 1 {
			b.put(0, full(9, 9))
			b.clear(1)
		}
		b.setFuse(0)
		for _, i := range far(n) {
			b.put(i, nil)
			b.put(i, full(most, 1))
			b.put(i, full(most+1, 1))
			b.clear(i)
		}
		if l, e := b.s.Used(); l != nil || (e == api.OK) != (n == 0) {
			t.Errorf("Used of %d: %v, error %d", n, l, e)
		}
		b.crash()
		b.put(0, full(most, 1))
		b.clear(n - 1)
	}
}

// The power goes at each act of each function.
func TestFuses(t *testing.T) {
	for fuse := range 4 {
		for _, s := range [][]byte{zero(), sealed(4, full(9, 9)), full(size, 1)} {
			for _, do := range []func(b *bench) api.Errno{
				func(b *bench) api.Errno { return b.put(1, full(30, 3)) },
				func(b *bench) api.Errno { return b.clear(1) },
			} {
				all := others(5)
				all[2] = s
				b := start(t, all, 1, 3)
				b.setFuse(fuse)
				e := do(b)
				if e == api.OK && fuse < 2 && !nought(s) || e != api.OK && fuse >= 2 {
					t.Errorf("fuse %d, of %s: error %d", fuse, short(s), e)
				}
				b.put(0, nil)
				b.clear(2)
				b.crash(true)
				b.clear(1)
			}
		}
	}
}

// Rules that hold everywhere, 3 and 4. (What is handed in to Put is held against, and written over, behind each one.)

// What was told may be written to, and stays as it was told.
func TestNothingIsShared(t *testing.T) {
	b := start(t, zeros(4), 1, 2)
	b.put(0, full(20, 1))
	got, _ := b.s.Get(0)
	again, _ := b.s.Get(0)
	used, _ := b.s.Used()
	usedAgain, _ := b.s.Used()
	for _, l := range [][]byte{again, again[:cap(again)]} {
		for i := range l {
			l[i] = 99
		}
	}
	usedAgain[0], usedAgain[1] = false, true
	b.agree()
	b.put(0, full(20, 2))
	b.put(1, full(20, 3))
	b.clear(0)
	if !bytes.Equal(got, full(20, 1)) || !slices.Equal(used, []bool{true, false}) {
		t.Errorf("what was told is %s, %v", short(got), used)
	}
	got[0] = 98
	b.agree()
}

// Two disks have nothing in common.
func TestTwoDisks(t *testing.T) {
	a, b := start(t, zeros(4), 1, 2), start(t, zeros(4), 1, 2)
	a.put(0, full(20, 1))
	b.agree()
	b.put(1, full(20, 2))
	a.agree()
	a.setFuse(1)
	a.clear(0)
	b.agree()
	b.clear(1)
	a.crash()
	a.agree()
}
