package wal_test

import (
	"bytes"
	"fmt"
	"hanaper/api"
	"hanaper/disk"
	"hanaper/wal"
	"math/rand"
	"slices"
	"testing"
)

// P10.4: all, or none. What these tests ask hangs on no reckoning of what Commit and Open do: only on what the disk is behind them.

// trial is a disk, with a Commit that is to be done on it.
type trial struct {
	n     int
	old   [][]byte // all sectors ahead of it
	l     []api.Patch
	t     *testing.T
	tells string
}

// fresh is a disk of these sectors, all safe.
func fresh(sectors [][]byte) *disk.Disk {
	d, _ := disk.New(len(sectors))
	for i, s := range sectors {
		if len(s) > 0 && !nought(s) {
			d.Write(i, s)
		}
	}
	d.Flush()
	return d
}

// begun is a trial's disk behind fuse acts of its Commit, and whether that was answered OK.
func (c *trial) begun(fuse int) (*disk.Disk, bool) {
	c.t.Helper()
	d := fresh(c.old)
	l, k, e := wal.Open(d, c.n)
	if k != 0 || e != api.OK {
		c.t.Fatalf("%s: Open: %d, error %d", c.tells, k, e)
	}
	d.Fuse(fuse)
	e = l.Commit(c.l...)
	if e != api.OK && e != api.ErrDead || (e == api.ErrDead) != l.Broken() {
		c.t.Fatalf("%s: Commit with fuse %d: error %d, Broken %t", c.tells, fuse, e, l.Broken())
	}
	return d, e == api.OK
}

// is is whether the patches' sectors of all are as they were, or (behind) as they were to be, and all others as they were.
func (c *trial) is(all [][]byte, behind bool) bool {
	want := slices.Clone(c.old)
	for _, v := range c.l {
		if behind {
			want[v.At] = v.B
		}
	}
	for i := c.n + 1; i < len(want); i++ {
		if !bytes.Equal(all[i], want[i]) && !(len(want[i]) == 0 && nought(all[i])) {
			return false
		}
	}
	return true
}

// whole opens d, on which nothing is pending, and asks what P10.4 says.
func (c *trial) whole(d *disk.Disk, answered bool, how string) {
	c.t.Helper()
	_, k, e := wal.Open(d, c.n)
	if e != api.OK || k != 0 && k != len(c.l) {
		c.t.Fatalf("%s, %s: Open: %d, error %d", c.tells, how, k, e)
	}
	all := d.Image()
	if len(d.Pending()) > 0 || !c.is(all, true) && (answered || k > 0 || !c.is(all, false)) {
		c.t.Fatalf("%s, %s: neither all nor none; %v are pending", c.tells, how, d.Pending())
	}
	for i, s := range all[:c.n+1] {
		if !nought(s) {
			c.t.Fatalf("%s, %s: sector %d of the log is not zero", c.tells, how, i)
		}
	}
	was := d.Acts()
	if _, k, e := wal.Open(d, c.n); k != 0 || e != api.OK || d.Acts() != was {
		c.t.Fatalf("%s, %s: opened once more: %d, error %d, %d acts", c.tells, how, k, e, d.Acts()-was)
	}
}

// keeps are ways to keep k pending sectors: of few, all that there are; else all, none, each one alone, all but each one, and some thrown.
func keeps(d *rand.Rand, k int) [][]bool {
	var l [][]bool
	if k <= 3 {
		for bits := range 1 << k {
			var keep []bool
			for i := range k {
				keep = append(keep, bits>>i&1 == 1)
			}
			l = append(l, keep)
		}
		return l
	}
	l = append(l, nil, slices.Repeat([]bool{true}, k))
	for i := range k {
		one, but := make([]bool, k), slices.Repeat([]bool{true}, k)
		one[i], but[i] = true, false
		l = append(l, one, but)
	}
	return append(l, thrownKeep(d, k), thrownKeep(d, k), thrownKeep(d, k))
}

// someKeeps are a few of these: all, none, and some thrown.
func someKeeps(d *rand.Rand, k int) [][]bool {
	return [][]bool{nil, slices.Repeat([]bool{true}, k), thrownKeep(d, k), thrownKeep(d, k)}
}

// small are trials of few sectors.
func small(t *testing.T) []*trial {
	var l []*trial
	add := func(tells string, sectors, n int, p ...api.Patch) {
		l = append(l, &trial{n: n, old: disked(sectors, n), l: p, t: t, tells: tells})
	}
	add("one", 4, 2, patches(1, 3, 1, 1)...)
	add("two", 9, 5, patches(2, 6, 2, 1)...)
	add("three, falling", 8, 4, patches(3, 7, -1, 1)...)
	add("as many as there is room", 12, 5, patches(4, 6, 1, 1)...)
	add("zeros", 8, 4, api.Patch{At: 6, B: zero()}, api.Patch{At: 5, B: zero()})
	inner := logOf(patches(2, 6, 1, 50)...)
	add("what looks like a log", 10, 5, api.Patch{At: 6, B: inner[0]}, api.Patch{At: 7, B: inner[1]}, api.Patch{At: 9, B: inner[2]})
	add("as they are", 8, 4, api.Patch{At: 6, B: full(1006)}, api.Patch{At: 5, B: full(1005)})
	return l
}

// A crash at each act of a Commit.
func TestCrashInCommit(t *testing.T) {
	d := rand.New(rand.NewSource(104))
	for _, c := range small(t) {
		ways := map[bool]int{}
		for fuse, answered := 0, false; !answered; fuse++ {
			var begun *disk.Disk
			begun, answered = c.begun(fuse)
			for _, keep := range keeps(d, len(begun.Pending())) {
				b, _ := c.begun(fuse)
				b.Crash(keep)
				c.whole(b, answered, fmt.Sprint(fuse, " acts, kept ", keep))
				ways[c.is(b.Image(), true)]++
			}
		}
		if ways[true] == 0 || ways[false] == 0 && c.tells != "as they are" {
			t.Errorf("%s: all, or none: %v", c.tells, ways)
		}
	}
}

// reopened does a crash with keep, and then fuse acts of an Open; it tells whether that was OK.
func (c *trial) reopened(d *disk.Disk, keep []bool, fuse int) bool {
	c.t.Helper()
	d.Crash(keep)
	d.Fuse(fuse)
	_, _, e := wal.Open(d, c.n)
	if e != api.OK && e != api.ErrDead {
		c.t.Fatalf("%s: Open with fuse %d: error %d", c.tells, fuse, e)
	}
	return e == api.OK
}

// A crash at each act of a Commit, and one at each act of the Open behind it.
func TestCrashInOpen(t *testing.T) {
	d := rand.New(rand.NewSource(105))
	for _, c := range small(t) {
		for first, answered := 0, false; !answered; first++ {
			var begun *disk.Disk
			begun, answered = c.begun(first)
			for _, keep := range keeps(d, len(begun.Pending())) {
				for second, done := 0, false; !done; second++ {
					b, _ := c.begun(first)
					done = c.reopened(b, keep, second)
					image, pending := b.Image(), len(b.Pending())
					for _, then := range keeps(d, pending) {
						b, _ = c.begun(first)
						c.reopened(b, keep, second)
						if !slices.EqualFunc(b.Image(), image, bytes.Equal) || len(b.Pending()) != pending {
							t.Fatalf("%s: the same acts, another disk", c.tells)
						}
						b.Crash(then)
						c.whole(b, answered, fmt.Sprint(first, " acts, kept ", keep, ", ", second, " acts of Open, kept ", then))
					}
				}
			}
		}
	}
}

// Several crashes in Open behind each other, at each act of the first and of the second one.
func TestCrashesInOpen(t *testing.T) {
	d := rand.New(rand.NewSource(106))
	for _, c := range small(t) {
		last := len(commitActs(c.l))
		for first := 0; first <= last; first++ {
			for second := range 14 {
				for third := range 14 {
					b, answered := c.begun(first)
					how := fmt.Sprint(first, " acts, ", second, " and ", third, " of Opens")
					c.reopened(b, thrownKeep(d, len(b.Pending())), second)
					c.reopened(b, thrownKeep(d, len(b.Pending())), third)
					for range d.Intn(3) {
						c.reopened(b, thrownKeep(d, len(b.Pending())), d.Intn(12))
					}
					b.Crash(thrownKeep(d, len(b.Pending())))
					c.whole(b, answered, how)
				}
			}
		}
	}
}

// The same, of more than one list sector: at each act of the Commit, and at some of the Open.
func TestCrashOfMany(t *testing.T) {
	d := rand.New(rand.NewSource(107))
	for _, k := range []int{120, 121} {
		c := &trial{n: 123, old: disked(250, 123), l: thrown(d, k, 124, 250), t: t, tells: fmt.Sprint(k)}
		for fuse := 0; fuse <= len(commitActs(c.l)); fuse += 1 + d.Intn(2) {
			begun, answered := c.begun(fuse)
			for _, keep := range someKeeps(d, len(begun.Pending())) {
				b, _ := c.begun(fuse)
				how := fmt.Sprint(fuse, " acts, kept ", keep)
				for range d.Intn(3) {
					c.reopened(b, keep, d.Intn(260))
					keep = thrownKeep(d, len(b.Pending()))
				}
				b.Crash(keep)
				c.whole(b, answered, how)
			}
		}
	}
}

// Of many pending sectors each one alone, at the edges of all that a Commit does.
func TestCrashOfManyEachAlone(t *testing.T) {
	d := rand.New(rand.NewSource(108))
	c := &trial{n: 123, old: disked(250, 123), l: thrown(d, 121, 124, 250), t: t, tells: "121"}
	written := 123
	for _, fuse := range []int{written, written + 1, written + 2, written + 3, written + 3 + 121, written + 3 + 122, written + 3 + 123, written + 3 + 124 + 123} {
		begun, answered := c.begun(fuse)
		for _, keep := range keeps(d, len(begun.Pending())) {
			b, _ := c.begun(fuse)
			b.Crash(keep)
			c.whole(b, answered, fmt.Sprint(fuse, " acts"))
		}
	}
}

// What was answered OK is there behind any crash, also one while the power goes at the very next act.
func TestAnsweredStays(t *testing.T) {
	d := rand.New(rand.NewSource(109))
	for seed := range 300 {
		sectors := 5 + d.Intn(30)
		n := 2 + d.Intn(sectors-3)
		b := fresh(disked(sectors, n))
		l, _, _ := wal.Open(b, n)
		want := b.Image()
		for range 12 {
			k := d.Intn(min(wal.Room(n), sectors-n-1) + 1)
			c := &trial{n: n, old: want, l: thrown(d, k, n+1, sectors), t: t, tells: fmt.Sprint("row ", seed)}
			if d.Intn(2) == 0 {
				b.Fuse(d.Intn(3*k + 20))
			}
			e := l.Commit(c.l...)
			for range d.Intn(3) {
				c.reopened(b, thrownKeep(d, len(b.Pending())), d.Intn(20))
			}
			b.Crash(thrownKeep(d, len(b.Pending())))
			c.whole(b, e == api.OK, "thrown")
			want = b.Image()
			l, _, _ = wal.Open(b, n)
		}
	}
}
