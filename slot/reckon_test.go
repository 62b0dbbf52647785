package slot_test

import (
	"bytes"
	"fmt"
	"hanaper/api"
	"hanaper/disk"
	"hanaper/slot"
	"maps"
	"math"
	"math/rand"
	"slices"
	"testing"
)

// What the tests of all promises stand on: a disk's sectors, what is pending of them, and slots of theirs, by a reckoning of the tests' own.

const (
	size = 256
	most = 249 // bytes of a slot
	p    = 8191
)

func zero() []byte { return make([]byte, size) }

func nought(b []byte) bool { return bytes.Equal(b, zero()) }

// full is n bytes that hang on seed; none of them is 0.
func full(n, seed int) []byte {
	b := make([]byte, n)
	for i := range b {
		b[i] = byte(1 + (seed*13+i*i*5+i*31+i>>8)%255)
	}
	return b
}

// thrown are n bytes that r throws.
func thrown(r *rand.Rand, n int) []byte {
	b := make([]byte, n)
	r.Read(b)
	return b
}

// marked is the first 252 bytes of s, and a mark of these, of the tests' own reckoning.
func marked(s []byte) []byte {
	re, im := 0, 0
	for _, v := range s[:252] {
		re, im = (4*re+p-im+int(v)+1)%p, (re+4*im)%p
	}
	return slices.Concat(s[:252], []byte{byte(re / 256), byte(re % 256), byte(im / 256), byte(im % 256)})
}

// sealed is a sealed sector.
func sealed(kind int, body []byte) []byte {
	return marked(slices.Concat([]byte{byte(kind), 0, byte(len(body))}, body, zero()))
}

// with is s with the byte at a place another one, by x.
func with(s []byte, at int, x byte) []byte {
	c := bytes.Clone(s)
	c[at] ^= x
	return c
}

// has is what Get is to answer of a sector: what it finds there is put again, and held against the whole sector.
func has(s []byte) ([]byte, api.Errno) {
	if nought(s) {
		return nil, api.ErrNone
	}
	n := int(s[2])
	if n > most || !bytes.Equal(sealed(4, s[3:3+n]), s) {
		return nil, api.ErrBad
	}
	return s[3 : 3+n], api.OK
}

// short is bytes as the tests' messages show them: of many only the beginning and the end.
func short(b []byte) string {
	if len(b) > 24 {
		return fmt.Sprintf("%x .. %x of %d", b[:12], b[len(b)-8:], len(b))
	}
	return fmt.Sprintf("%x of %d", b, len(b))
}

// far are numbers that are about 0, about n, and about the edges of int.
func far(n int) []int {
	l := []int{math.MinInt, math.MinInt + 1, math.MinInt + n, math.MinInt32, -1 << 32, -256, -16, -2, -1, 0, 1, n - 1, n, n + 1, n + 16, 255, 256, 257, 1 << 16, math.MaxInt32, 1 << 32, 1<<32 + 1, math.MaxInt - n, math.MaxInt - 16, math.MaxInt - 1, math.MaxInt}
	slices.Sort(l)
	return slices.Compact(l)
}

// bench is a disk with slots, beside what these should be.
type bench struct {
	t         *testing.T
	d         *disk.Disk
	s         *slot.Slots
	from, n   int
	now, safe [][]byte // by sector: as it was written last, as it was flushed last
	pending   map[int]bool
	acts      int
	fuse      int // below 0: none
}

// disked is a disk of these sectors, all safe, that has done no more acts than that took.
func disked(t *testing.T, sectors [][]byte) *disk.Disk {
	t.Helper()
	d, e := disk.New(len(sectors))
	if e != api.OK {
		t.Fatalf("a disk of %d sectors: error %d", len(sectors), e)
	}
	for i, s := range sectors {
		if !nought(s) {
			d.Write(i, s)
		}
	}
	d.Flush()
	return d
}

// start is a bench of these sectors, n of them slots.
func start(t *testing.T, sectors [][]byte, from, n int) *bench {
	t.Helper()
	d := disked(t, sectors)
	s, e := slot.New(d, from, n)
	if e != api.OK {
		t.Fatalf("New of %d sectors, %d, %d: error %d", len(sectors), from, n, e)
	}
	return &bench{t: t, d: d, s: s, from: from, n: n, now: slices.Clone(sectors), safe: slices.Clone(sectors), pending: map[int]bool{}, acts: d.Acts(), fuse: -1}
}

// zeros are n sectors of bytes 0.
func zeros(n int) [][]byte {
	l := make([][]byte, n)
	for i := range l {
		l[i] = zero()
	}
	return l
}

// others are n sectors of which each has bytes of its own, none of them 0.
func others(n int) [][]byte {
	l := make([][]byte, n)
	for i := range l {
		l[i] = full(size, 7+i)
	}
	return l
}

// parted is others, of which those of the slots are zero.
func parted(n, from, slots int) [][]byte {
	l := others(n)
	for i := range slots {
		l[from+i] = zero()
	}
	return l
}

// act counts one that is done.
func (b *bench) act() {
	b.acts++
	if b.fuse > 0 {
		b.fuse--
	}
}

// wrote is what a Write of a sector, and a Flush behind it, are to answer, and does them.
func (b *bench) wrote(at int, s []byte) api.Errno {
	if b.fuse == 0 {
		return api.ErrDead
	}
	b.now[at] = bytes.Clone(s)
	b.pending[at] = true
	b.act()
	return b.flushed()
}

func (b *bench) flushed() api.Errno {
	if b.fuse == 0 {
		return api.ErrDead
	}
	b.safe = slices.Clone(b.now)
	clear(b.pending)
	b.act()
	return api.OK
}

func (b *bench) isSlot(i int) bool { return i >= 0 && i < b.n }

// put does Put, and asks that all is as it should be behind it.
func (b *bench) put(i int, body []byte) api.Errno {
	b.t.Helper()
	want := api.ErrArg
	if b.isSlot(i) {
		want = api.ErrLong
		if len(body) <= most {
			want = b.wrote(b.from+i, sealed(4, body))
		}
	}
	whole := slices.Concat([]byte("<<"), body, []byte(">>>>"))
	handed := bytes.Clone(whole)
	if e := b.s.Put(i, handed[2:2+len(body)]); e != want {
		b.t.Errorf("Put(%d, %s): error %d, not %d", i, short(body), e, want)
	}
	if !bytes.Equal(handed, whole) {
		b.t.Errorf("Put(%d, %s) changed what was handed in: %s", i, short(body), short(handed))
	}
	for k := range handed { // what was handed in is not kept
		handed[k] = 77
	}
	b.agree()
	return want
}

// clear does Clear, and asks that all is as it should be behind it. Zeros that are only pending are not zeros yet (P14.3).
func (b *bench) clear(i int) api.Errno {
	b.t.Helper()
	want := api.ErrArg
	if b.isSlot(i) {
		at := b.from + i
		switch {
		case b.fuse == 0:
			want = api.ErrDead
		case nought(b.now[at]) && nought(b.safe[at]):
			want = api.OK
		default:
			want = b.wrote(at, zero())
		}
	}
	if e := b.s.Clear(i); e != want {
		b.t.Errorf("Clear(%d): error %d, not %d", i, e, want)
	}
	b.agree()
	return want
}

// lay writes to a sector as other hands do, without a flush.
func (b *bench) lay(at int, s []byte) {
	b.t.Helper()
	if e := b.d.Write(at, s); (e == api.OK) != (b.fuse != 0) {
		b.t.Errorf("Write(%d): error %d", at, e)
	}
	if b.fuse != 0 {
		b.now[at] = bytes.Clone(s)
		b.pending[at] = true
		b.act()
	}
	b.agree()
}

// flush flushes, as other hands do.
func (b *bench) flush() {
	b.t.Helper()
	if e, want := b.d.Flush(), b.flushed(); e != want {
		b.t.Errorf("Flush: error %d, not %d", e, want)
	}
	b.agree()
}

// setFuse lets the power go behind n acts.
func (b *bench) setFuse(n int) {
	b.t.Helper()
	b.d.Fuse(n)
	b.fuse = max(n, -1)
	b.agree()
}

// crash lets all pending sectors go but those that keep tells.
func (b *bench) crash(keep ...bool) {
	b.t.Helper()
	for k, at := range slices.Sorted(maps.Keys(b.pending)) {
		if k < len(keep) && keep[k] {
			b.safe[at] = b.now[at]
		}
	}
	b.now = slices.Clone(b.safe)
	clear(b.pending)
	b.fuse = -1
	b.d.Crash(keep)
	b.agree()
}

// agree asks that the disk and its slots are as they should be.
func (b *bench) agree() {
	b.t.Helper()
	if image := b.d.Image(); !slices.EqualFunc(image, b.safe, bytes.Equal) {
		b.t.Fatalf("another image: %s", unlike(image, b.safe))
	}
	if l := b.d.Pending(); !slices.Equal(l, slices.Sorted(maps.Keys(b.pending))) {
		b.t.Fatalf("pending: %v, not %v", l, b.pending)
	}
	if b.d.Acts() != b.acts || b.d.Dead() != (b.fuse == 0) {
		b.t.Fatalf("%d acts, not %d; dead %t", b.d.Acts(), b.acts, b.d.Dead())
	}
	for i, s := range b.now {
		if got, e := b.d.Read(i); b.fuse != 0 && (e != api.OK || !bytes.Equal(got, s)) {
			b.t.Fatalf("sector %d: %s, error %d, not %s", i, short(got), e, short(s))
		}
	}
	b.tells()
}

// tells asks that Get and Used answer what they should, and do nothing.
func (b *bench) tells() {
	b.t.Helper()
	for i := -1; i <= b.n; i++ {
		body, want := []byte(nil), api.ErrArg
		if b.isSlot(i) {
			want = api.ErrDead
			if b.fuse != 0 {
				body, want = has(b.now[b.from+i])
			}
		}
		if got, e := b.s.Get(i); e != want || !bytes.Equal(got, body) {
			b.t.Errorf("Get(%d): %s, error %d, not %s, %d", i, short(got), e, short(body), want)
		}
	}
	used, want := b.used()
	if l, e := b.s.Used(); e != want || !slices.Equal(l, used) {
		b.t.Errorf("Used: %v, error %d, not %v, %d", l, e, used, want)
	}
	if b.d.Acts() != b.acts || len(b.d.Pending()) != len(b.pending) {
		b.t.Errorf("Get, or Used, did %d acts", b.d.Acts()-b.acts)
	}
}

// used is what Used is to answer. Of no slot at all nothing is asked of the disk.
func (b *bench) used() (l []bool, e api.Errno) {
	if b.fuse == 0 && b.n > 0 {
		return nil, api.ErrDead
	}
	for i := range b.n {
		l = append(l, !nought(b.now[b.from+i]))
	}
	return l, api.OK
}

// unlike tells the first sector in which two images part.
func unlike(a, b [][]byte) string {
	if len(a) != len(b) {
		return fmt.Sprint(len(a), " sectors, not ", len(b))
	}
	for i := range a {
		if !bytes.Equal(a[i], b[i]) {
			return fmt.Sprintf("sector %d is %s, not %s", i, short(a[i]), short(b[i]))
		}
	}
	return "none"
}
