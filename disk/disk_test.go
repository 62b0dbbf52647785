package disk_test

import (
	"bytes"
	"fmt"
	"hanaper/api"
	"hanaper/disk"
	"math"
	"math/rand"
	"slices"
	"testing"
)

const (
	size = 256
	most = 1024
)

// sector is a sector's bytes that hang on seed; of 0 they are 0.
func sector(seed int) []byte {
	b := make([]byte, size)
	for i := range b {
		b[i] = byte(seed * (i*i*3 + i*29 + 1 + i>>5 + seed>>8))
	}
	return b
}

// reckoned is a disk as the document says it, by the tests' own reckoning: two whole lists of sectors, and marks.
type reckoned struct {
	safe, last [][]byte
	pending    []bool
	dead       bool
	fuse       bool // one is set
	left       int  // the acts that it leaves
	acts       int
}

func reckon(n int) *reckoned {
	r := &reckoned{pending: make([]bool, n)}
	for range n {
		r.safe = append(r.safe, make([]byte, size))
		r.last = append(r.last, make([]byte, size))
	}
	return r
}

func (r *reckoned) there(i int) bool { return i >= 0 && i < len(r.safe) }

func (r *reckoned) act() {
	r.acts++
	if !r.fuse {
		return
	}
	if r.left--; r.left == 0 {
		r.dead = true
	}
}

func (r *reckoned) write(i int, b []byte) api.Errno {
	switch {
	case r.dead:
		return api.ErrDead
	case !r.there(i):
		return api.ErrNone
	case len(b) != size:
		return api.ErrArg
	}
	r.last[i], r.pending[i] = bytes.Clone(b), true
	r.act()
	return api.OK
}

func (r *reckoned) flush() api.Errno {
	if r.dead {
		return api.ErrDead
	}
	for i := range r.safe {
		r.safe[i], r.pending[i] = r.last[i], false
	}
	r.act()
	return api.OK
}

func (r *reckoned) read(i int) ([]byte, api.Errno) {
	switch {
	case r.dead:
		return nil, api.ErrDead
	case !r.there(i):
		return nil, api.ErrNone
	}
	return r.last[i], api.OK
}

func (r *reckoned) setFuse(n int) {
	r.dead = n == 0
	r.fuse, r.left = n > 0, n
}

func (r *reckoned) crash(keep []bool) {
	k := 0
	for i := range r.safe {
		if r.pending[i] {
			if k < len(keep) && keep[k] {
				r.safe[i] = r.last[i]
			}
			k++
		}
		r.last[i], r.pending[i] = r.safe[i], false
	}
	r.dead, r.fuse, r.left = false, false, 0
}

// numbers are those of the sectors that are pending.
func (r *reckoned) numbers() []int {
	var l []int
	for i, is := range r.pending {
		if is {
			l = append(l, i)
		}
	}
	return l
}

// both is a disk, with its reckoning; what is done with it is done with both, and all of both is held against one another behind it.
type both struct {
	t *testing.T
	d *disk.Disk
	r *reckoned
	s []string // what was done
}

func start(t *testing.T, n int) *both {
	t.Helper()
	d, e := disk.New(n)
	if e != api.OK || d == nil {
		t.Fatalf("New(%d): error %d", n, e)
	}
	b := &both{t: t, d: d, r: reckon(n)}
	b.agree()
	return b
}

func (b *both) fail(what string, got, want any) {
	b.t.Helper()
	b.t.Fatalf("%d sectors, behind %v: %s: %v, not %v", len(b.r.safe), b.s[max(0, len(b.s)-40):], what, got, want)
}

func (b *both) did(format string, a ...any) { b.s = append(b.s, fmt.Sprintf(format, a...)) }

// told holds all that a disk tells, but for its bytes, against the reckoning.
func (b *both) told() {
	b.t.Helper()
	r := b.r
	if got := b.d.Size(); got != len(r.safe) {
		b.fail("Size", got, len(r.safe))
	}
	if got := b.d.Dead(); got != r.dead {
		b.fail("Dead", got, r.dead)
	}
	if got := b.d.Acts(); got != r.acts {
		b.fail("Acts", got, r.acts)
	}
	if got, want := b.d.Pending(), r.numbers(); !slices.Equal(got, want) {
		b.fail("Pending", got, want)
	}
}

// agree holds all that a disk is against the reckoning.
func (b *both) agree() {
	b.t.Helper()
	b.told()
	image := b.d.Image()
	if len(image) != len(b.r.safe) {
		b.fail("Image", len(image), len(b.r.safe))
	}
	for i, want := range b.r.safe {
		if !bytes.Equal(image[i], want) {
			b.fail(fmt.Sprint("Image of sector ", i), image[i], want)
		}
		b.read(i)
	}
}

func (b *both) read(i int) {
	b.t.Helper()
	got, e := b.d.Read(i)
	want, we := b.r.read(i)
	if e != we || !bytes.Equal(got, want) {
		b.fail(fmt.Sprintf("Read(%d)", i), fmt.Sprint(e, got), fmt.Sprint(we, want))
	}
}

// write hands in bytes with others about them, and asks that all are as they were.
func (b *both) write(i int, p []byte) {
	b.t.Helper()
	first := 0
	if len(p) > 0 {
		first = int(p[0])
	}
	b.did("Write(%d, %d of %d ..)", i, len(p), first)
	handed := p
	var whole []byte
	if p != nil {
		whole = slices.Concat([]byte("<<"), p, []byte(">>>>"))
		handed = whole[2 : 2+len(p)]
	}
	was := bytes.Clone(whole)
	got, want := b.d.Write(i, handed), b.r.write(i, p)
	if got != want {
		b.fail("Write", got, want)
	}
	if !bytes.Equal(whole, was) {
		b.fail("what was handed in", whole, was)
	}
	for k := range whole { // what is not kept may turn
		whole[k] ^= 255
	}
	b.agree()
}

func (b *both) flush() {
	b.t.Helper()
	b.did("Flush")
	if got, want := b.d.Flush(), b.r.flush(); got != want {
		b.fail("Flush", got, want)
	}
	b.agree()
}

func (b *both) fuse(n int) {
	b.t.Helper()
	b.did("Fuse(%d)", n)
	b.d.Fuse(n)
	b.r.setFuse(n)
	b.agree()
}

func (b *both) crash(keep ...bool) {
	b.t.Helper()
	b.did("Crash(%v)", keep)
	handed := slices.Clone(keep)
	b.d.Crash(handed)
	b.r.crash(keep)
	if !slices.Equal(handed, keep) {
		b.fail("what was handed in", handed, keep)
	}
	for k := range handed {
		handed[k] = !handed[k]
	}
	b.agree()
}

// keeps are all lists of up to n bools.
func keeps(n int) [][]bool {
	all := [][]bool{nil}
	for i := 0; i < len(all); i++ {
		if len(all[i]) < n {
			all = append(all, append(slices.Clone(all[i]), false), append(slices.Clone(all[i]), true))
		}
	}
	return all
}

// alone is a list of n bools of which the k'th alone is true.
func alone(n, k int) []bool {
	l := make([]bool, n)
	l[k] = true
	return l
}

// far are numbers that no sector of a disk of n sectors has.
func far(n int) []int {
	return []int{-1, n, -2, n + 1, -n, -n - 1, most, most + 1, math.MaxInt, math.MaxInt - 1, math.MinInt, math.MinInt + 1, math.MaxInt32, math.MinInt32, 1 << 32, 1<<32 + 1, 1 << 62}
}

// odd are bytes that no sector takes, by their name.
func odd() map[string][]byte {
	m := map[string][]byte{"nil": nil, "no": {}}
	for _, n := range []int{1, 2, size / 2, size - 2, size - 1, size + 1, size + 2, 2 * size, 2*size - 1, most, 1 << 16} {
		m[fmt.Sprint(n)] = bytes.Repeat([]byte{7}, n)
	}
	return m
}

// P8.1: New, Size.

func TestNew(t *testing.T) {
	for _, n := range []int{1, 2, 3, 4, 5, 7, 16, 60, 120, 121, 255, 256, 257, 1000, most - 1, most} {
		b := start(t, n)
		if b.d.Size() != n || b.d.Acts() != 0 || b.d.Dead() || len(b.d.Pending()) != 0 || len(b.d.Image()) != n {
			t.Errorf("New(%d): Size %d, Acts %d, Dead %t, Pending %v", n, b.d.Size(), b.d.Acts(), b.d.Dead(), b.d.Pending())
		}
		for i, s := range b.d.Image() {
			if len(s) != size || slices.ContainsFunc(s, func(v byte) bool { return v != 0 }) {
				t.Errorf("New(%d): sector %d is %v", n, i, s)
			}
		}
	}
}

func TestNewOfEachSize(t *testing.T) {
	for n := -50; n <= most+50; n++ {
		d, e := disk.New(n)
		if n < 1 || n > most {
			if d != nil || e != api.ErrArg {
				t.Errorf("New(%d): a disk %t, error %d", n, d != nil, e)
			}
		} else if e != api.OK || d.Size() != n {
			t.Errorf("New(%d): Size %d, error %d", n, d.Size(), e)
		}
	}
}

func TestNewOfNoSize(t *testing.T) {
	for _, n := range []int{0, -1, -2, -256, -most, most + 1, most + 2, 2 * most, size * most, 1 << 31, 1 << 32, 1<<32 + 1, -1 << 32, 1<<62 + 4, math.MaxInt, math.MaxInt - 1, math.MinInt, math.MinInt + 1, math.MinInt + 4} {
		if d, e := disk.New(n); d != nil || e != api.ErrArg {
			t.Errorf("New(%d): a disk %t, error %d", n, d != nil, e)
		}
	}
}

// P8.2: Read, Write, Flush.

func TestExample(t *testing.T) {
	x := sector(3)
	d, _ := disk.New(4)
	d.Write(3, x)
	d.Crash(nil)
	if b, e := d.Read(3); e != api.OK || !bytes.Equal(b, make([]byte, size)) {
		t.Errorf("Write, Crash: %d, %v", e, b)
	}
	d.Write(3, x)
	d.Flush()
	d.Crash(nil)
	if b, e := d.Read(3); e != api.OK || !bytes.Equal(b, x) {
		t.Errorf("Write, Flush, Crash: %d, %v", e, b)
	}
}

// One disk, step by step, each answer as it stands in the document.
func TestByHand(t *testing.T) {
	x, y, zero := sector(1), sector(2), make([]byte, size)
	d, _ := disk.New(3)
	is := func(what string, pending []int, acts int, image, now [][]byte) {
		t.Helper()
		if !slices.Equal(d.Pending(), pending) || d.Acts() != acts || d.Size() != 3 || d.Dead() {
			t.Errorf("%s: Pending %v, Acts %d, Size %d, Dead %t", what, d.Pending(), d.Acts(), d.Size(), d.Dead())
		}
		if !slices.EqualFunc(d.Image(), image, bytes.Equal) {
			t.Errorf("%s: Image %v", what, d.Image())
		}
		for i, want := range now {
			if b, e := d.Read(i); e != api.OK || !bytes.Equal(b, want) {
				t.Errorf("%s: Read(%d) %d, %v", what, i, e, b)
			}
		}
	}
	none := [][]byte{zero, zero, zero}
	is("new", nil, 0, none, none)
	d.Write(2, x)
	is("2 is x", []int{2}, 1, none, [][]byte{zero, zero, x})
	d.Write(0, y)
	is("0 is y", []int{0, 2}, 2, none, [][]byte{y, zero, x})
	d.Write(2, y)
	is("2 is y", []int{0, 2}, 3, none, [][]byte{y, zero, y})
	d.Flush()
	is("flushed", nil, 4, [][]byte{y, zero, y}, [][]byte{y, zero, y})
	d.Write(2, zero)
	d.Write(1, x)
	is("2 is zero, 1 is x", []int{1, 2}, 6, [][]byte{y, zero, y}, [][]byte{y, x, zero})
	d.Crash([]bool{true, false})
	is("1 stayed", nil, 6, [][]byte{y, x, y}, [][]byte{y, x, y})
	d.Write(0, x)
	d.Write(1, y)
	d.Crash([]bool{false, true})
	is("1 stayed again", nil, 8, [][]byte{y, y, y}, [][]byte{y, y, y})
	d.Write(0, x)
	d.Crash(nil)
	is("none stayed", nil, 9, [][]byte{y, y, y}, [][]byte{y, y, y})
	d.Flush()
	d.Flush()
	is("flushed of none", nil, 11, [][]byte{y, y, y}, [][]byte{y, y, y})
}

func TestFirstAndLastSector(t *testing.T) {
	for _, n := range []int{1, 2, 3, 64, most} {
		b := start(t, n)
		for _, i := range []int{0, n - 1, n / 2} {
			b.write(i, sector(i+1))
		}
		b.write(n-1, sector(300))
		b.flush()
		b.write(0, sector(301))
		b.crash(false)
		b.write(n-1, sector(302))
		b.crash(true)
		b.write(n, sector(303))
		b.write(-1, sector(303))
	}
}

// Each byte of a sector, and each value of it, is as it was written.
func TestEachByte(t *testing.T) {
	b := start(t, 2)
	for at := range size {
		s := make([]byte, size)
		s[at] = byte(255 - at)
		b.write(at%2, s)
	}
	b.flush()
	for v := range 256 {
		b.write(0, bytes.Repeat([]byte{byte(v)}, size))
		b.crash(v%2 == 0)
	}
}

// A sector that is written as it was is pending all the same; one that is, from a Write that turned it, is pending still.
func TestWrittenAsItWas(t *testing.T) {
	b := start(t, 3)
	b.write(1, sector(0))
	if got := b.d.Pending(); !slices.Equal(got, []int{1}) {
		t.Errorf("zeros on zeros: Pending %v", got)
	}
	b.write(1, sector(5))
	b.write(1, sector(0))
	if got := b.d.Pending(); !slices.Equal(got, []int{1}) {
		t.Errorf("back to zeros: Pending %v", got)
	}
	b.write(2, sector(5))
	b.crash(true) // the sector 1's: 2 does not stay
	b.write(2, sector(6))
	b.flush()
	b.write(2, sector(6))
	b.write(0, sector(7))
	if got := b.d.Pending(); !slices.Equal(got, []int{0, 2}) {
		t.Errorf("as it is safe: Pending %v", got)
	}
	b.crash(false, true)
	b.write(0, sector(7))
	b.write(0, sector(7))
	if got := b.d.Acts(); got != 10 {
		t.Errorf("Acts %d, not 10", got)
	}
	b.crash(true)
}

func TestWrongSectors(t *testing.T) {
	for _, n := range []int{1, 2, 5, most} {
		b := start(t, n)
		b.write(0, sector(1))
		b.flush()
		b.write(n-1, sector(2))
		b.fuse(9)
		for _, i := range far(n) {
			if b.r.there(i) { // of most's disk some are no strangers
				continue
			}
			if s, e := b.d.Read(i); s != nil || e != api.ErrNone {
				t.Errorf("%d sectors: Read(%d): %v, error %d", n, i, s, e)
			}
			if e := b.d.Write(i, sector(3)); e != api.ErrNone {
				t.Errorf("%d sectors: Write(%d): error %d", n, i, e)
			}
			b.told()
		}
		b.agree()
	}
}

func TestWrongBytes(t *testing.T) {
	for _, n := range []int{1, 5, most} {
		b := start(t, n)
		b.write(0, sector(1))
		b.flush()
		b.write(n-1, sector(2))
		for what, p := range odd() {
			for _, i := range []int{0, n / 2, n - 1} {
				if e := b.d.Write(i, p); e != api.ErrArg {
					t.Errorf("%d sectors: Write(%d) of %s bytes: error %d", n, i, what, e)
				}
				b.told()
			}
		}
		b.agree()
	}
}

// Of several errors the one that the document names first is answered.
func TestErrorsInOrder(t *testing.T) {
	b := start(t, 4)
	b.write(2, sector(1))
	for what, p := range odd() {
		for _, i := range far(4) {
			if e := b.d.Write(i, p); e != api.ErrNone {
				t.Errorf("Write(%d) of %s bytes: error %d", i, what, e)
			}
		}
	}
	b.agree()
	b.fuse(0)
	for what, p := range odd() {
		for _, i := range append(far(4), 0, 3) {
			if e := b.d.Write(i, p); e != api.ErrDead {
				t.Errorf("dead: Write(%d) of %s bytes: error %d", i, what, e)
			}
			if e := b.d.Write(i, sector(2)); e != api.ErrDead {
				t.Errorf("dead: Write(%d): error %d", i, e)
			}
			if s, e := b.d.Read(i); s != nil || e != api.ErrDead {
				t.Errorf("dead: Read(%d): %v, error %d", i, s, e)
			}
		}
	}
	b.flush()
	b.crash(true)
}

// What is refused is no act: it burns no fuse, and makes nothing pending.
func TestRefusedIsNoAct(t *testing.T) {
	b := start(t, 3)
	b.write(1, sector(1))
	b.fuse(2)
	for _, i := range []int{-1, 3, math.MaxInt, math.MinInt} {
		b.write(i, sector(2))
	}
	for _, n := range []int{0, 1, size - 1, size + 1} {
		b.write(0, make([]byte, n))
		b.write(1, make([]byte, n))
		b.write(7, make([]byte, n))
	}
	b.write(2, nil)
	b.write(2, sector(2)) // the first of two acts
	b.write(3, sector(3))
	b.flush() // and the second
	for range 3 {
		b.write(0, sector(4))
		b.write(0, nil)
		b.write(-1, sector(4))
		b.flush()
	}
	if !b.d.Dead() || b.d.Acts() != 3 {
		t.Errorf("Dead %t, Acts %d", b.d.Dead(), b.d.Acts())
	}
	b.crash()
}

// P8.3: Acts, Fuse, Dead.

// lives does k acts behind Fuse(n), and asks that just the first n are done.
func lives(t *testing.T, n, k int) {
	t.Helper()
	b := start(t, 3)
	b.write(0, sector(9))
	b.fuse(n)
	for i := range k {
		if i%3 == 2 {
			b.flush()
		} else {
			b.write(i%3, sector(i+1))
		}
		if want := n < 0 || i+1 < n; b.d.Dead() == want {
			t.Errorf("Fuse(%d), %d acts: Dead is %t", n, i+1, b.d.Dead())
		}
	}
	want := k
	if n >= 0 && n < k {
		want = n
	}
	if b.d.Acts() != 1+want {
		t.Errorf("Fuse(%d), %d acts: Acts is %d, not %d", n, k, b.d.Acts(), 1+want)
	}
	b.crash(true, false, true)
	for i := range 20 { // no fuse is set any more
		b.write(i%3, sector(i))
		b.flush()
	}
}

func TestFuse(t *testing.T) {
	for _, k := range []int{0, 1, 2, 3, 4, 7, 12} {
		for _, n := range []int{0, 1, 2, 3, k - 1, k, k + 1, 2 * k, 1000, math.MaxInt, math.MaxInt - 1, math.MaxInt32, 1 << 32, -1, -2, -k, -1000, math.MinInt, math.MinInt + 1, math.MinInt32, -1 << 32} {
			lives(t, n, k)
		}
	}
}

// Fuse itself is no act, and asking is none.
func TestAskingIsNoAct(t *testing.T) {
	b := start(t, 2)
	b.write(0, sector(1))
	b.fuse(1)
	for range 5 {
		b.d.Read(0)
		b.d.Read(2)
		b.d.Size()
		b.d.Pending()
		b.d.Image()
		b.d.Acts()
		b.d.Dead()
		b.agree()
	}
	b.fuse(1)
	b.fuse(1)
	b.write(1, sector(2))
	b.flush()
	b.crash(false, true)
	if b.d.Acts() != 2 {
		t.Errorf("Acts is %d, not 2", b.d.Acts())
	}
	for range 5 { // nor is a crash
		b.crash(true)
	}
	if b.d.Acts() != 2 {
		t.Errorf("Acts is %d behind crashes, not 2", b.d.Acts())
	}
}

// A fuse that is set while one is set is the one that holds.
func TestFuseSetAnew(t *testing.T) {
	numbers := []int{-1, 0, 1, 2, 3, 5, math.MaxInt, math.MinInt}
	for _, first := range numbers {
		for between := range 3 {
			for _, second := range numbers {
				b := start(t, 2)
				b.fuse(first)
				for i := range between {
					b.write(0, sector(i+1))
				}
				b.fuse(second)
				for i := range 6 {
					b.write(1, sector(i+10))
				}
				want := 6
				if second >= 0 && second < 6 {
					want = second
				}
				ahead := between
				if first >= 0 && first < between {
					ahead = first
				}
				if b.d.Acts() != ahead+want || b.d.Dead() != (want == second) {
					t.Errorf("Fuse(%d), %d acts, Fuse(%d), 6 acts: Acts %d, Dead %t", first, between, second, b.d.Acts(), b.d.Dead())
				}
				b.crash(true, true)
			}
		}
	}
}

// A dead disk tells how it is; it reads and writes nothing.
func TestDead(t *testing.T) {
	b := start(t, 4)
	b.write(3, sector(1))
	b.write(1, sector(2))
	b.flush()
	b.write(2, sector(3))
	b.write(1, sector(4))
	b.fuse(0)
	if !b.d.Dead() || b.d.Size() != 4 || b.d.Acts() != 5 || !slices.Equal(b.d.Pending(), []int{1, 2}) {
		t.Errorf("Dead %t, Size %d, Acts %d, Pending %v", b.d.Dead(), b.d.Size(), b.d.Acts(), b.d.Pending())
	}
	if !slices.EqualFunc(b.d.Image(), [][]byte{sector(0), sector(2), sector(0), sector(1)}, bytes.Equal) {
		t.Errorf("Image %v", b.d.Image())
	}
	for i := range 4 {
		b.write(i, sector(5))
		b.flush()
	}
	b.crash(false, true)
	b.write(0, sector(6))
	b.flush()
}

// What a fuse had left is nothing to a disk behind a crash.
func TestCrashEndsFuse(t *testing.T) {
	for n := -2; n < 6; n++ {
		for k := range 4 {
			b := start(t, 2)
			b.fuse(n)
			for i := range k {
				b.write(i%2, sector(i+1))
			}
			b.crash(true)
			if b.d.Dead() {
				t.Errorf("Fuse(%d), %d acts, Crash: dead", n, k)
			}
			for i := range 8 {
				b.write(i%2, sector(i+20))
			}
			b.fuse(1)
			b.flush()
			b.crash()
			b.crash()
			b.flush()
		}
	}
}

// P8.4: Crash, Pending, Image.

// pend makes a disk of n sectors, some of which are safe, with the sectors at pending, in that order.
func pend(t *testing.T, n int, at []int) *both {
	t.Helper()
	b := start(t, n)
	for i := 0; i < n; i += 3 {
		b.d.Write(i, sector(i+1000))
		b.r.write(i, sector(i+1000))
	}
	b.flush()
	for _, i := range at {
		b.d.Write(i, sector(i+1))
		b.r.write(i, sector(i+1))
	}
	b.agree()
	return b
}

// orders are the numbers below n that step leaves, rising, falling, and thrown.
func orders(n, step int) map[string][]int {
	var up []int
	for i := 0; i < n; i += step {
		up = append(up, i)
	}
	down := slices.Clone(up)
	slices.Reverse(down)
	thrown := slices.Clone(up)
	rand.New(rand.NewSource(int64(n))).Shuffle(len(thrown), func(i, j int) { thrown[i], thrown[j] = thrown[j], thrown[i] })
	return map[string][]int{"rising": up, "falling": down, "thrown": thrown}
}

func TestPendingRises(t *testing.T) {
	for _, n := range []int{1, 2, 9, 40, 300, most} {
		for _, step := range []int{1, 2, 7} {
			for what, at := range orders(n, step) {
				b := pend(t, n, append(at, at[:len(at)/2]...)) // some are written twice
				got := b.d.Pending()
				if !slices.IsSorted(got) || len(got) != len(at) {
					t.Errorf("%d sectors, each %d'th, %s: Pending %v", n, step, what, got)
				}
				for range 3 {
					if !slices.Equal(b.d.Pending(), got) {
						t.Errorf("%d sectors: Pending is %v, and was %v", n, b.d.Pending(), got)
					}
				}
				keep := make([]bool, len(got))
				for k := range keep {
					keep[k] = k*k%3 == 1
				}
				b.crash(keep...)
			}
		}
	}
}

// keepLists are those of k that the tests ask of many pending sectors.
func keepLists(k int, d *rand.Rand) [][]bool {
	all := [][]bool{nil, {}, make([]bool, k), slices.Repeat([]bool{true}, k), slices.Repeat([]bool{true}, k+5), slices.Repeat([]bool{true}, k/2), make([]bool, k+9)}
	for range 6 {
		l := make([]bool, d.Intn(2*k+2))
		for i := range l {
			l[i] = d.Intn(2) == 0
		}
		all = append(all, l)
	}
	return all
}

func TestCrashOfMany(t *testing.T) {
	d := rand.New(rand.NewSource(3))
	for _, n := range []int{1, 2, 9, 60, 200, most} {
		for what, at := range orders(n, 2) {
			for _, keep := range keepLists(len(at), d) {
				b := pend(t, n, at)
				b.s = append(b.s, what)
				b.crash(keep...)
				b.crash(keep...)
			}
		}
	}
}

// One alone of the pending sectors stays.
func TestCrashOfEachAlone(t *testing.T) {
	for what, at := range orders(60, 2) {
		for k := range at {
			for _, more := range []int{0, 1, 40} {
				b := pend(t, 60, at)
				keep := append(alone(len(at), k), make([]bool, more)...)
				b.s = append(b.s, what)
				b.crash(keep...)
				if s, _ := b.d.Read(2 * k); !bytes.Equal(s, sector(2*k+1)) {
					t.Errorf("%s, the %d'th alone: sector %d is %v", what, k, 2*k, s)
				}
				b = pend(t, 60, at)
				b.crash(alone(len(at), k)[:k+1]...) // shorter: those behind it do not stay
			}
		}
	}
}

// Of what is pending only: a true one behind the last of these keeps nothing, now or later.
func TestCrashOfNonePending(t *testing.T) {
	for _, keep := range keeps(4) {
		b := start(t, 3)
		b.crash(keep...)
		b.write(1, sector(1))
		b.flush()
		b.crash(keep...)
		b.write(2, sector(2))
		b.crash(keep...)
		b.crash(keep...)
		b.flush()
		b.crash(keep...)
	}
}

func TestCrashOfDead(t *testing.T) {
	for _, keep := range keeps(4) {
		for n := range 5 {
			b := start(t, 3)
			b.write(2, sector(1))
			b.flush()
			b.fuse(n)
			b.write(2, sector(2))
			b.write(0, sector(3))
			b.write(1, sector(4))
			b.write(2, sector(5))
			b.flush()
			b.crash(keep...)
			if b.d.Dead() {
				t.Fatal("dead behind a crash")
			}
			b.write(0, sector(6))
			b.crash(keep...)
		}
	}
}

// The k'th of the pending ones, not of all sectors, nor of the Writes.
func TestCrashCountsPending(t *testing.T) {
	b := start(t, 10)
	b.write(9, sector(1))
	b.write(4, sector(2))
	b.write(9, sector(3))
	b.write(6, sector(4))
	b.write(4, sector(5))
	b.crash(false, true, false, true, true, true, true, true, true, true)
	for i, want := range map[int][]byte{4: sector(0), 6: sector(4), 9: sector(0)} {
		if s, _ := b.d.Read(i); !bytes.Equal(s, want) {
			t.Errorf("sector %d is %v", i, s)
		}
	}
}

// P8.5: what is safe is there; each sector is as it was safe, or as it was written last.

// leaves asks of a disk what P8.5 says, from what it tells of itself ahead of the crash.
func leaves(t *testing.T, d *disk.Disk, last [][]byte, keep []bool) {
	t.Helper()
	safe, pending := d.Image(), d.Pending()
	d.Crash(keep)
	for i, s := range d.Image() {
		b, e := d.Read(i)
		k, is := slices.BinarySearch(pending, i)
		stays := is && k < len(keep) && keep[k]
		want := safe[i]
		if stays {
			want = last[i]
		}
		if e != api.OK || !bytes.Equal(b, want) || !bytes.Equal(s, want) {
			t.Errorf("Crash(%v) of %v: sector %d is neither as it was safe nor as it was written: %v", keep, pending, i, b)
		}
	}
}

// Each sector of up to four is one of five: never written, safe, pending, pending twice, safe and pending.
func TestAllSmallCrashes(t *testing.T) {
	for n := 1; n <= 4; n++ {
		rows := 1
		for range n {
			rows *= 5
		}
		for row := range rows {
			for _, keep := range keeps(n + 1) {
				if n == 4 && len(keep) == n+1 {
					continue
				}
				d, last := small(n, row)
				leaves(t, d, last, keep)
			}
		}
	}
}

// small is a disk of n sectors, each as row's digits to the base 5 say, and what was written to them last.
func small(n, row int) (*disk.Disk, [][]byte) {
	d, _ := disk.New(n)
	last := make([][]byte, n)
	for i := range n {
		last[i] = sector(0)
	}
	write := func(i, seed int) {
		last[i] = sector(seed)
		d.Write(i, last[i])
	}
	ways := make([]int, n)
	for i := range n {
		ways[i] = row % 5
		row /= 5
	}
	for i, w := range ways {
		if w == 1 || w == 4 {
			write(i, 10+i)
		}
	}
	d.Flush()
	for i := n - 1; i >= 0; i-- {
		if ways[i] == 3 {
			write(i, 20+i)
		}
	}
	for i, w := range ways {
		if w >= 2 {
			write(i, 30+i)
		}
	}
	return d, last
}

// All rows of up to four acts on two sectors, with the power gone behind each, and each way to keep.
func TestAllShortRows(t *testing.T) {
	acts := []func(b *both){
		func(b *both) { b.write(0, sector(1)) },
		func(b *both) { b.write(0, sector(2)) },
		func(b *both) { b.write(1, sector(1)) },
		func(b *both) { b.flush() },
	}
	for length := range 5 {
		for row := range 1 << (2 * length) {
			for _, fuse := range []int{-1, 0, 1, 2, 3, 4} {
				if fuse > length {
					continue
				}
				for _, keep := range [][]bool{nil, {false, true}, {true}, {true, true}} {
					b := start(t, 2)
					b.fuse(fuse)
					for k := range length {
						acts[row>>(2*k)&3](b)
					}
					b.crash(keep...)
				}
			}
		}
	}
}

// thrownStep does one thing of a row that is thrown.
func (b *both) thrownStep(d *rand.Rand) {
	n := len(b.r.safe)
	switch k := d.Intn(20); {
	case k < 10:
		b.write(d.Intn(n), sector(d.Intn(1000)))
	case k < 13:
		b.flush()
	case k < 15:
		keep := make([]bool, d.Intn(n+3))
		for i := range keep {
			keep[i] = d.Intn(2) == 0
		}
		b.crash(keep...)
	case k < 17:
		b.fuse(d.Intn(12) - 2)
	case k < 18:
		b.write(far(n)[d.Intn(2)], sector(1))
	case k < 19:
		b.write(d.Intn(n), make([]byte, d.Intn(2*size)))
	default:
		b.read(d.Intn(n+4) - 2)
	}
}

func TestThrownRows(t *testing.T) {
	for seed := range 400 {
		d := rand.New(rand.NewSource(int64(seed)))
		b := start(t, 1+d.Intn(1+d.Intn(20)))
		for range 120 {
			b.thrownStep(d)
		}
	}
}

func TestThrownRowsOfGreatDisks(t *testing.T) {
	for _, n := range []int{200, most - 1, most} {
		d := rand.New(rand.NewSource(int64(n)))
		b := start(t, n)
		for range 120 {
			b.thrownStep(d)
		}
	}
}

// Errors: a nil Disk, and one that New did not make.

func TestNobodys(t *testing.T) {
	for what, d := range map[string]*disk.Disk{"nil": nil, "blank": {}, "new": new(disk.Disk)} {
		for range 2 { // what is done to it makes it none either
			for _, i := range append(far(1), 0, 1) {
				if s, e := d.Read(i); s != nil || e != api.ErrNil {
					t.Errorf("%s: Read(%d): %v, error %d", what, i, s, e)
				}
				for _, p := range [][]byte{nil, {}, sector(1), make([]byte, size+1)} {
					if e := d.Write(i, p); e != api.ErrNil {
						t.Errorf("%s: Write(%d) of %d bytes: error %d", what, i, len(p), e)
					}
				}
			}
			if e := d.Flush(); e != api.ErrNil {
				t.Errorf("%s: Flush: error %d", what, e)
			}
			if d.Size() != 0 || d.Dead() || d.Acts() != 0 || len(d.Pending()) != 0 || len(d.Image()) != 0 {
				t.Errorf("%s: Size %d, Dead %t, Acts %d, Pending %v, Image %v", what, d.Size(), d.Dead(), d.Acts(), d.Pending(), d.Image())
			}
			for _, n := range []int{0, 1, -1, math.MaxInt, math.MinInt} {
				d.Fuse(n)
			}
			for _, keep := range keeps(2) {
				d.Crash(keep)
			}
			d.Fuse(0)
		}
	}
}

// Rules that hold everywhere, 3 and 4.

// spoil writes to all of l, and behind what it has.
func spoil[E any](l []E, v E) {
	l = l[:cap(l)]
	for i := range l {
		l[i] = v
	}
}

// What was told may be written to, and what was handed in: that turns nothing of the disk.
func TestNothingIsShared(t *testing.T) {
	for _, n := range []int{1, 3, most} {
		b := start(t, n)
		b.write(0, sector(1))
		b.write(n-1, sector(2))
		b.flush()
		b.write(n/2, sector(3))
		for range 2 {
			for i := range n {
				s, _ := b.d.Read(i)
				spoil(s, 99)
			}
			b.agree()
			for _, s := range b.d.Image() {
				spoil(s, 98)
			}
			b.agree()
			spoil(b.d.Image(), nil)
			spoil(b.d.Pending(), 0)
			b.agree()
			p := sector(4)
			b.d.Write(n-1, p)
			b.r.write(n-1, p)
			spoil(p, 97)
			b.agree()
			b.flush()
			b.write(0, sector(5))
		}
		b.crash(true, true)
	}
}

// What was told stays as it was told, whatever is done with the disk behind it.
func TestWhatWasToldStays(t *testing.T) {
	d, _ := disk.New(3)
	d.Write(1, sector(1))
	d.Flush()
	d.Write(1, sector(2))
	d.Write(2, sector(3))
	now, _ := d.Read(1)
	again, _ := d.Read(1)
	image, pending := d.Image(), d.Pending()
	spoil(again, 9)
	d.Write(1, sector(4))
	d.Write(0, sector(5))
	d.Flush()
	d.Crash([]bool{true})
	if !bytes.Equal(now, sector(2)) || !slices.Equal(pending, []int{1, 2}) {
		t.Errorf("Read was %v, Pending %v", now, pending)
	}
	if !slices.EqualFunc(image, [][]byte{sector(0), sector(1), sector(0)}, bytes.Equal) {
		t.Errorf("Image was %v", image)
	}
	spoil(image[0], 9)
	if !bytes.Equal(image[1], sector(1)) || !bytes.Equal(image[2], sector(0)) {
		t.Error("two sectors of one Image share their bytes")
	}
}

// One list of bytes may be written to many sectors, and to many disks.
func TestTwoDisksHaveNothingInCommon(t *testing.T) {
	a, b := start(t, 3), start(t, 3)
	p := sector(1)
	a.write(0, p)
	a.write(1, p)
	b.agree()
	b.write(1, p)
	b.fuse(1)
	a.agree()
	a.flush()
	b.agree()
	b.write(1, sector(2))
	a.agree()
	a.write(1, sector(3))
	a.crash()
	b.agree()
	b.crash(true)
	a.agree()
	s, _ := a.d.Read(0)
	b.write(0, s)
	spoil(s, 5)
	a.agree()
	b.agree()
}
