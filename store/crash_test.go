package store_test

import (
	"bytes"
	"fmt"
	"hanaper/api"
	"hanaper/disk"
	"hanaper/store"
	"math/rand"
	"slices"
	"testing"
)

// P13.5: all, or none. P13.6: what is free is zero. What these tests ask hangs on no reckoning of what is done to the disk act by act: only on what it is behind a crash.

// trial is a Do on a disk that is as r says.
type trial struct {
	t     *testing.T
	tells string
	r     *reckoned // ahead of it
	then  *reckoned // behind it
	l     []api.File
}

func trialOf(t *testing.T, tells string, r *reckoned, l ...api.File) *trial {
	t.Helper()
	if e := r.wants(l); e != api.OK {
		t.Fatalf("%s: error %d", tells, e)
	}
	then := r.copied()
	then.do(l)
	return &trial{t, tells, r, then, l}
}

// begun is the disk behind fuse acts of the Do, and whether that was answered OK.
func (c *trial) begun(fuse int) (*disk.Disk, bool) {
	c.t.Helper()
	d := fresh(c.r.image())
	s, e := store.Open(d, c.r.c)
	if e != api.OK {
		c.t.Fatalf("%s: Open: error %d", c.tells, e)
	}
	d.Fuse(fuse)
	e = s.Do(c.l...)
	if e != api.OK && e != api.ErrDead {
		c.t.Fatalf("%s: Do with fuse %d: error %d", c.tells, fuse, e)
	}
	want := c.r
	if e == api.OK {
		want = c.then
	}
	if l := s.List(); !slices.Equal(l, want.names()) {
		c.t.Fatalf("%s: List behind fuse %d: %v", c.tells, fuse, l)
	}
	return d, e == api.OK
}

// reopened does a crash with keep, and then fuse acts of an Open; it tells whether that was OK.
func (c *trial) reopened(d *disk.Disk, keep []bool, fuse int) bool {
	c.t.Helper()
	d.Crash(keep)
	d.Fuse(fuse)
	s, e := store.Open(d, c.r.c)
	if e != api.OK && e != api.ErrDead || (s != nil) != (e == api.OK) {
		c.t.Fatalf("%s: Open with fuse %d: error %d", c.tells, fuse, e)
	}
	return e == api.OK
}

// tells is whether a store tells just the files of r.
func tells(s *store.Store, r *reckoned) bool {
	places, data := r.free()
	n, m := s.Free()
	if !slices.Equal(s.List(), r.names()) || n != len(places) || m != len(data) {
		return false
	}
	for _, x := range r.rows {
		if b, e := s.Read(x.name); x.name != "" && (e != api.OK || !bytes.Equal(b, x.b)) {
			return false
		}
	}
	return true
}

// whole opens d, on which nothing is pending, and asks what the promises say; it tells whether the Do is done.
func (c *trial) whole(d *disk.Disk, answered bool, how string) bool {
	c.t.Helper()
	s, e := store.Open(d, c.r.c)
	if e != api.OK || len(d.Pending()) > 0 {
		c.t.Fatalf("%s, %s: Open: error %d; pending %v", c.tells, how, e, d.Pending())
	}
	done := tells(s, c.then)
	if !done && (answered || !tells(s, c.r)) {
		c.t.Fatalf("%s, %s: neither all nor none (answered %t)", c.tells, how, answered)
	}
	c.zeros(d, done, how)
	was := d.Acts()
	if s, e := store.Open(d, c.r.c); e != api.OK || d.Acts() != was || tells(s, c.then) != done && !tells(s, c.r) {
		c.t.Fatalf("%s, %s: opened once more: error %d, %d acts", c.tells, how, e, d.Acts()-was)
	}
	return done
}

// zeros asks that the log, and all data sectors that are free, are zero, and that the slots are as they were.
func (c *trial) zeros(d *disk.Disk, done bool, how string) {
	c.t.Helper()
	r := c.r
	if done {
		r = c.then
	}
	image := d.Image()
	zero := func(i int) {
		c.t.Helper()
		if !nought(image[i]) {
			c.t.Fatalf("%s, %s: sector %d is not zero", c.tells, how, i)
		}
	}
	log := 1 + r.c.Log
	slots := log + r.c.Files
	for i := range log {
		zero(i)
	}
	_, data := r.free()
	for _, i := range data {
		zero(slots + r.c.Slots + i)
	}
	for i, s := range r.slot {
		if !bytes.Equal(image[slots+i], s) {
			c.t.Fatalf("%s, %s: slot %d is another one", c.tells, how, i)
		}
	}
}

// thrownKeep is a list of some k bools, or one or two more, or fewer.
func thrownKeep(d *rand.Rand, k int) []bool {
	l := make([]bool, max(0, k+d.Intn(4)-1))
	for i := range l {
		l[i] = d.Intn(2) == 0
	}
	return l
}

// keeps are ways to keep k pending sectors: of few, all that there are; else all, none, each one alone, all but each one, and some thrown.
func keeps(d *rand.Rand, k int) [][]bool {
	var l [][]bool
	if k <= 3 {
		for bits := range 1 << k {
			var keep []bool
			for i := range k {
				keep = append(keep, bits>>i&1 == 1)
			}
			l = append(l, keep)
		}
		return l
	}
	l = append(l, nil, slices.Repeat([]bool{true}, k))
	for i := range k {
		one, but := make([]bool, k), slices.Repeat([]bool{true}, k)
		one[i], but[i] = true, false
		l = append(l, one, but)
	}
	return append(l, thrownKeep(d, k), thrownKeep(d, k), thrownKeep(d, k))
}

// laid are files on a disk of that config, by Dos that the reckoning does one by one.
func laid(t *testing.T, c api.Config, rows ...[]api.File) *reckoned {
	t.Helper()
	r := reckon(c)
	for i := range r.slot {
		r.slot[i] = full(size, 210+i)
	}
	for _, l := range rows {
		if e := r.wants(l); e != api.OK {
			t.Fatalf("laid: error %d", e)
		}
		r.do(l)
	}
	return r
}

// trials are Dos of each kind, on small disks.
func trials(t *testing.T) []*trial {
	c := api.Config{Log: 11, Files: 3, Slots: 2, Data: 7}
	none := laid(t, c)
	two := laid(t, c, []api.File{put("a", 300, 1), put("b", 200, 2)})
	crowded := laid(t, c, []api.File{put("a", 2*size, 1), put("b", 2*size+1, 2), put("c", 1, 3)}, []api.File{put("c", size+1, 3)})
	return []*trial{
		trialOf(t, "a new one", none, put("a", 300, 1)),
		trialOf(t, "an empty one", none, put("a", 0, 1)),
		trialOf(t, "three new ones", none, put("a", 1, 1), put("c", 257, 2), put("b", 0, 3)),
		trialOf(t, "bytes that are 0", none, api.File{Name: "a", B: make([]byte, 300)}),
		trialOf(t, "other bytes", two, put("a", 301, 7)),
		trialOf(t, "the same bytes", two, put("a", 300, 1)),
		trialOf(t, "one that grows", two, put("b", 700, 5)),
		trialOf(t, "one that shrinks", two, put("a", 10, 5)),
		trialOf(t, "one that becomes empty", two, put("a", 0, 5)),
		trialOf(t, "one that is gone", two, gone("a")),
		trialOf(t, "all gone", two, gone("b"), gone("a")),
		trialOf(t, "one for another", two, gone("a"), put("c", 400, 6)),
		trialOf(t, "new, changed and gone", two, put("c", 257, 5), put("a", 5, 6), gone("b")),
		trialOf(t, "one grows, one shrinks", two, put("b", 600, 5), put("a", 1, 6)),
		trialOf(t, "a full disk, let go", crowded, gone("a"), put("b", 1, 8), put("c", 0, 0)),
		trialOf(t, "nothing", two),
	}
}

// A crash at each act of a Do.
func TestCrashInDo(t *testing.T) {
	d := rand.New(rand.NewSource(136))
	for _, c := range trials(t) {
		ways := map[bool]int{}
		for fuse, answered := 0, false; !answered; fuse++ {
			var begun *disk.Disk
			begun, answered = c.begun(fuse)
			for _, keep := range keeps(d, len(begun.Pending())) {
				b, _ := c.begun(fuse)
				b.Crash(keep)
				ways[c.whole(b, answered, fmt.Sprint(fuse, " acts, kept ", keep))]++
			}
		}
		if same := slices.EqualFunc(c.r.image(), c.then.image(), bytes.Equal); !same && (ways[true] == 0 || ways[false] == 0) {
			t.Errorf("%s: all, or none: %v", c.tells, ways)
		}
	}
}

// A crash at each act of a Do, and one at each act of the Open behind it.
func TestCrashInOpen(t *testing.T) {
	d := rand.New(rand.NewSource(137))
	for _, c := range trials(t) {
		for first, answered := 0, false; !answered; first++ {
			var begun *disk.Disk
			begun, answered = c.begun(first)
			k := len(begun.Pending())
			for _, keep := range [][]bool{nil, slices.Repeat([]bool{true}, k), thrownKeep(d, k)} {
				for second, done := 0, false; !done; second++ {
					b, _ := c.begun(first)
					done = c.reopened(b, keep, second)
					m := len(b.Pending())
					for _, then := range [][]bool{nil, slices.Repeat([]bool{true}, m), thrownKeep(d, m), thrownKeep(d, m)} {
						b, _ := c.begun(first)
						c.reopened(b, keep, second)
						b.Crash(then)
						c.whole(b, answered, fmt.Sprint(first, " acts, kept ", keep, ", ", second, " acts of Open, kept ", then))
					}
				}
			}
		}
	}
}

// Crash upon crash in Open.
func TestCrashesInOpen(t *testing.T) {
	d := rand.New(rand.NewSource(138))
	for _, c := range trials(t) {
		for first, answered := 0, false; !answered; first++ {
			for range 20 {
				var b *disk.Disk
				b, answered = c.begun(first)
				how := fmt.Sprint(first, " acts")
				for range 1 + d.Intn(5) {
					fuse := d.Intn(20)
					c.reopened(b, thrownKeep(d, len(b.Pending())), fuse)
					how += fmt.Sprint(", ", fuse, " of an Open")
				}
				b.Crash(thrownKeep(d, len(b.Pending())))
				c.whole(b, answered, how)
			}
		}
	}
}

// Thrown Dos, one behind the other, the power going in many of them, and in the Opens behind: what was answered OK stays.
func TestThrownCrashes(t *testing.T) {
	d := rand.New(rand.NewSource(139))
	ways := map[string]int{}
	for _, config := range thrownConfigs() {
		for range 12 {
			c := &trial{t: t, tells: fmt.Sprintf("%+v", config), then: laid(t, config)}
			b := fresh(c.then.image())
			s, _ := store.Open(b, config)
			names, most := 2+d.Intn(7), 1+d.Intn(8)
			for range 60 {
				c.r, c.l = c.then, thrownList(d, c.then, names, most)
				want := c.r.wants(c.l)
				if want == api.OK {
					c.then = c.r.copied()
					c.then.do(c.l)
				}
				if d.Intn(3) > 0 {
					b.Fuse(d.Intn(1 + d.Intn(70)))
				}
				e := s.Do(c.l...)
				if e != want && (want != api.OK || e != api.ErrDead) {
					t.Fatalf("%s: Do of %s: error %d, not %d", c.tells, short(c.l), e, want)
				}
				for range d.Intn(3) {
					c.reopened(b, thrownKeep(d, len(b.Pending())), d.Intn(30))
				}
				b.Crash(thrownKeep(d, len(b.Pending())))
				done := c.whole(b, e == api.OK, short(c.l))
				ways[fmt.Sprint("answered ", e, ", done ", done)]++
				if !done {
					c.then = c.r
				}
				s, _ = store.Open(b, config)
			}
		}
	}
	for _, way := range []string{"answered 0, done true", "answered 8, done true", "answered 8, done false"} {
		if ways[way] < 100 {
			t.Errorf("%s: %d times; %v", way, ways[way], ways)
		}
	}
}

// The same of many sectors, up to what a log takes: at each few acts, and at the edges.
func TestCrashOfMany(t *testing.T) {
	d := rand.New(rand.NewSource(140))
	c := api.Config{Log: 300, Files: 4, Slots: 1, Data: 300}
	r := laid(t, c, []api.File{put("a", mostSize, 1), put("b", 40*size, 2)}, []api.File{put("b", 10, 2), put("c", 50*size, 3)})
	for _, l := range [][]api.File{{put("b", mostSize, 5), put("a", 17*size, 6)}, {gone("a"), put("c", 3, 5), put("d", mostSize-7, 6)}} {
		trial := trialOf(t, short(l), r, l...)
		for fuse, answered := 0, false; !answered; fuse += 1 + d.Intn(9) {
			var b *disk.Disk
			b, answered = trial.begun(fuse)
			for range d.Intn(3) {
				trial.reopened(b, thrownKeep(d, len(b.Pending())), d.Intn(400))
			}
			b.Crash(thrownKeep(d, len(b.Pending())))
			trial.whole(b, answered, fmt.Sprint(fuse, " acts"))
		}
	}
}

// P13.6: behind all that is let go, in whatever way, nothing of it is left on the disk.
func TestNothingIsLeft(t *testing.T) {
	secret := bytes.Repeat([]byte("secret"), 120)
	for _, last := range [][]api.File{{gone("a")}, {{Name: "a"}}, {put("a", 20, 1)}, {put("a", 700, 1)}, {put("a", 720, 2)}, {put("b", 3, 2), gone("a"), put("c", 9, 9)}} {
		b := start(t, api.Config{Log: 12, Files: 3, Slots: 1, Data: 12})
		b.does(api.OK, put("b", 257, 1), api.File{Name: "a", B: secret})
		b.does(api.OK, last...)
		for i, s := range b.d.Image() {
			if bytes.Contains(s, []byte("secret")) {
				t.Errorf("sector %d has bytes that were let go", i)
			}
		}
		b.open()
	}
}
