package wal_test

import (
	"bytes"
	"crypto/sha256"
	"fmt"
	"hanaper/api"
	"hanaper/disk"
	"hanaper/wal"
	"maps"
	"math"
	"math/rand"
	"slices"
	"testing"
)

const (
	size    = 256
	most    = 1024
	perList = 120
	p       = 8191
)

// full is a sector's bytes that hang on seed; of 0 they are 0.
func full(seed int) []byte {
	b := make([]byte, size)
	for i := range b {
		b[i] = byte(seed * (i*i*5 + i*31 + 1 + i>>4 + seed>>8))
	}
	return b
}

// zero is a sector of bytes 0.
func zero() []byte { return make([]byte, size) }

func nought(b []byte) bool { return bytes.Equal(b, zero()) }

// two is n as two bytes.
func two(n int) []byte { return []byte{byte(n / 256), byte(n % 256)} }

// sealed is a sealed sector, with a mark of the tests' own reckoning.
func sealed(kind int, body []byte) []byte {
	s := slices.Concat([]byte{byte(kind)}, two(len(body)), body, make([]byte, 249-len(body)))
	re, im := 0, 0
	for _, v := range s {
		re, im = (4*re+p-im+int(v)+1)%p, (re+4*im)%p
	}
	return slices.Concat(s, two(re), two(im))
}

// listsOf is the list sectors of patches.
func listsOf(l ...api.Patch) [][]byte {
	var all [][]byte
	for part := range slices.Chunk(l, perList) {
		var body []byte
		for _, v := range part {
			body = append(body, two(v.At)...)
		}
		all = append(all, sealed(2, body))
	}
	return all
}

// bytesOf is the bytes of patches.
func bytesOf(l ...api.Patch) [][]byte {
	var all [][]byte
	for _, v := range l {
		all = append(all, v.B)
	}
	return all
}

// headOf is the head of k patches, the log behind it being rest.
func headOf(k int, rest ...[]byte) []byte {
	sum := sha256.Sum256(bytes.Join(rest, nil))
	return sealed(1, append(two(k), sum[:]...))
}

// logOf is the sectors of the log of patches, its head first.
func logOf(l ...api.Patch) [][]byte {
	rest := slices.Concat(listsOf(l...), bytesOf(l...))
	return append([][]byte{headOf(len(l), rest...)}, rest...)
}

// act is a Write, or (of no bytes) a Flush.
type act struct {
	at int
	b  []byte
}

// commitActs is what a Commit of patches does to the disk, act by act.
func commitActs(l []api.Patch) []act {
	if len(l) == 0 {
		return nil
	}
	log := logOf(l...)
	var all []act
	for i, b := range log[1:] {
		all = append(all, act{1 + i, b})
	}
	all = append(all, act{}, act{0, log[0]}, act{})
	for _, v := range l {
		all = append(all, act{v.At, v.B})
	}
	all = append(all, act{}, act{0, zero()}, act{})
	for i := range log[1:] {
		all = append(all, act{1 + i, zero()})
	}
	return append(all, act{})
}

// wholeLog is the patches whose log the sectors 0 to n are; none, if it is that of none. It lays the log of what it reads anew, and holds all against that.
func wholeLog(now [][]byte, n int) []api.Patch {
	k := int(now[0][3])*256 + int(now[0][4])
	m := (k + perList - 1) / perList
	if k == 0 || m+k > n {
		return nil
	}
	var l []api.Patch
	used := map[int]bool{}
	for i := range k {
		number := now[1+i/perList][3+i%perList*2:]
		at := int(number[0])*256 + int(number[1])
		if at <= n || at >= len(now) || used[at] {
			return nil
		}
		used[at] = true
		l = append(l, api.Patch{At: at, B: now[1+m+i]})
	}
	for i, s := range logOf(l...) {
		if !bytes.Equal(s, now[i]) {
			return nil
		}
	}
	return l
}

// openActs is what an Open does to a disk of these sectors, act by act, how many patches it tells, and behind how many of the acts it looks at the disk last.
func openActs(now [][]byte, n int) (all []act, k, looks int) {
	l := wholeLog(now, n)
	for _, v := range l {
		all = append(all, act{v.At, v.B})
	}
	if len(l) > 0 {
		all = append(all, act{})
	}
	if !nought(now[0]) {
		all = append(all, act{0, zero()}, act{})
	}
	looks = len(all)
	for i := 1; i <= n; i++ {
		if !nought(now[i]) {
			all = append(all, act{i, zero()})
		}
	}
	if len(all) > looks {
		all = append(all, act{})
	}
	return all, len(l), looks
}

// reckoned is a disk by the tests' own reckoning.
type reckoned struct {
	safe    [][]byte
	pending map[int][]byte
	left    int // how many acts the fuse leaves; below 0: none is set
	acts    int
}

// now is all sectors as they are read.
func (r *reckoned) now() [][]byte {
	all := slices.Clone(r.safe)
	for i, b := range r.pending {
		all[i] = b
	}
	return all
}

// do does acts, as far as the fuse lets them be done.
func (r *reckoned) do(l []act) {
	for _, a := range l {
		if r.left == 0 {
			return
		}
		r.left--
		r.acts++
		if a.b != nil {
			r.pending[a.at] = bytes.Clone(a.b)
			continue
		}
		r.safe = r.now()
		clear(r.pending)
	}
}

func (r *reckoned) numbers() []int { return slices.Sorted(maps.Keys(r.pending)) }

func (r *reckoned) crash(keep []bool) {
	for k, i := range r.numbers() {
		if k < len(keep) && keep[k] {
			r.safe[i] = r.pending[i]
		}
	}
	clear(r.pending)
	r.left = -1
}

// both is a disk with a log, and its reckoning; what is done is done with both, and all is held against one another behind it.
type both struct {
	t      *testing.T
	d      *disk.Disk
	r      *reckoned
	n      int
	l      *wal.Log // none, where Open was answered an error
	broken bool
	s      []string // what was done
}

// lay is a disk of these sectors, all safe, with a log of n that is not opened.
func lay(t *testing.T, sectors [][]byte, n int) *both {
	t.Helper()
	d, e := disk.New(len(sectors))
	if e != api.OK {
		t.Fatalf("disk.New(%d): error %d", len(sectors), e)
	}
	r := &reckoned{pending: map[int][]byte{}, left: -1}
	for range sectors {
		r.safe = append(r.safe, zero())
	}
	for i, s := range sectors {
		if s != nil && !nought(s) {
			d.Write(i, s)
			r.do([]act{{i, s}})
		}
	}
	d.Flush()
	r.do([]act{{}})
	return &both{t: t, d: d, r: r, n: n, s: []string{fmt.Sprintf("%d sectors, a log of %d", len(sectors), n)}}
}

// start is a new disk of that many sectors, with a log of n, opened.
func start(t *testing.T, sectors, n int) *both {
	t.Helper()
	b := lay(t, make([][]byte, sectors), n)
	b.open()
	return b
}

func (b *both) fail(what string, got, want any) {
	b.t.Helper()
	b.t.Fatalf("%v: %s: %v, not %v", b.s[max(0, len(b.s)-12):], what, got, want)
}

func (b *both) did(format string, a ...any) { b.s = append(b.s, fmt.Sprintf(format, a...)) }

// agree holds all that the disk and the log tell against the reckoning.
func (b *both) agree() {
	b.t.Helper()
	if got := b.d.Acts(); got != b.r.acts {
		b.fail("Acts", got, b.r.acts)
	}
	if got := b.d.Dead(); got != (b.r.left == 0) {
		b.fail("Dead", got, b.r.left == 0)
	}
	if got, want := b.d.Pending(), b.r.numbers(); !slices.Equal(got, want) {
		b.fail("Pending", got, want)
	}
	for i, s := range b.d.Image() {
		if !bytes.Equal(s, b.r.safe[i]) {
			b.fail(fmt.Sprint("Image of sector ", i), s, b.r.safe[i])
		}
	}
	if b.r.left != 0 {
		for i, want := range b.r.pending {
			if s, e := b.d.Read(i); e != api.OK || !bytes.Equal(s, want) {
				b.fail(fmt.Sprint("Read of sector ", i), s, want)
			}
		}
	}
	if b.l != nil && b.l.Broken() != b.broken {
		b.fail("Broken", b.l.Broken(), b.broken)
	}
}

// open opens the log: there may be a fuse.
func (b *both) open() api.Errno {
	b.t.Helper()
	b.did("Open with fuse %d", b.r.left)
	acts, k, looks := openActs(b.r.now(), b.n)
	want := api.OK
	if b.r.left >= 0 && (b.r.left < len(acts) || b.r.left <= looks) {
		want, k = api.ErrDead, 0
	}
	b.r.do(acts)
	l, got, e := wal.Open(b.d, b.n)
	if e != want || got != k || (l != nil) != (e == api.OK) {
		b.fail("Open", fmt.Sprint(l != nil, got, e), fmt.Sprint(want == api.OK, k, want))
	}
	b.l, b.broken = l, false
	b.agree()
	return e
}

// wants is what a Commit is answered as long as the disk has no error.
func (b *both) wants(l []api.Patch) api.Errno {
	used := map[int]bool{}
	switch {
	case b.broken:
		return api.ErrDead
	case slices.ContainsFunc(l, func(v api.Patch) bool {
		wrong := v.At < b.n+1 || v.At > len(b.r.safe)-1 || used[v.At] || len(v.B) != size
		used[v.At] = true
		return wrong
	}):
		return api.ErrArg
	case (len(l)+perList-1)/perList+len(l) > b.n:
		return api.ErrMany
	}
	return api.OK
}

// framed is the patches anew, their bytes with others about them; and all that memory.
func framed(l []api.Patch) (handed []api.Patch, memory [][]byte) {
	for _, v := range l {
		if v.B == nil {
			handed = append(handed, v)
			continue
		}
		whole := slices.Concat([]byte("<<"), v.B, []byte(">>>>"))
		memory = append(memory, whole)
		handed = append(handed, api.Patch{At: v.At, B: whole[2 : 2+len(v.B)]})
	}
	return handed, memory
}

func samePatches(a, b []api.Patch) bool {
	return slices.EqualFunc(a, b, func(x, y api.Patch) bool {
		return x.At == y.At && bytes.Equal(x.B, y.B) && (x.B == nil) == (y.B == nil)
	})
}

// commit does a Commit: there may be a fuse, and an error.
func (b *both) commit(l ...api.Patch) api.Errno {
	b.t.Helper()
	b.did("Commit of %d with fuse %d", len(l), b.r.left)
	want := b.wants(l)
	if want == api.OK {
		acts := commitActs(l)
		if b.r.left >= 0 && b.r.left < len(acts) {
			want, b.broken = api.ErrDead, true
		}
		b.r.do(acts)
	}
	handed, memory := framed(l)
	was := slices.Clone(memory)
	for i, m := range memory {
		was[i] = bytes.Clone(m)
	}
	handed = append(handed, api.Patch{At: 77})[:len(handed)]
	got := b.l.Commit(handed...)
	if got != want {
		b.fail("Commit", got, want)
	}
	if !samePatches(handed, l) || handed[:len(handed)+1][len(handed)].At != 77 || !slices.EqualFunc(memory, was, bytes.Equal) {
		b.fail("what was handed in", handed, l)
	}
	for i, m := range memory { // what is not kept may turn
		handed[min(i, len(handed)-1)].At++
		for k := range m {
			m[k] ^= 255
		}
	}
	b.agree()
	return got
}

func (b *both) fuse(n int) {
	b.d.Fuse(n)
	b.r.left = n
}

func (b *both) crash(keep ...bool) {
	b.t.Helper()
	b.did("Crash(%v)", keep)
	b.d.Crash(keep)
	b.r.crash(keep)
	b.agree()
}

// logIsZero asks that all of the log is zero, and safe.
func (b *both) logIsZero() {
	b.t.Helper()
	for i, s := range b.d.Image()[:b.n+1] {
		if !nought(s) {
			b.fail(fmt.Sprint("sector ", i, " of the log"), s, "zero")
		}
	}
	if got := b.d.Pending(); len(got) != 0 {
		b.fail("Pending", got, "none")
	}
}

// again opens the log once more, which does nothing.
func (b *both) again() {
	b.t.Helper()
	was := b.d.Acts()
	if e := b.open(); e != api.OK {
		b.fail("Open once more", e, "OK")
	}
	if b.d.Acts() != was {
		b.fail("acts of an Open once more", b.d.Acts()-was, 0)
	}
	b.logIsZero()
}

// patches are k of them, for the sectors from at on that step leaves, with bytes that hang on seed.
func patches(k, at, step, seed int) []api.Patch {
	var l []api.Patch
	for i := range k {
		l = append(l, api.Patch{At: at + i*step, B: full(seed + i)})
	}
	return l
}

// thrown are k patches of sectors from to on, below end, in any order.
func thrown(d *rand.Rand, k, from, end int) []api.Patch {
	var l []api.Patch
	for _, i := range d.Perm(end - from)[:k] {
		l = append(l, api.Patch{At: from + i, B: full(d.Intn(300))})
	}
	return l
}

// thrownKeep is a list of some k bools, or one or two more, or fewer.
func thrownKeep(d *rand.Rand, k int) []bool {
	l := make([]bool, max(0, k+d.Intn(4)-1))
	for i := range l {
		l[i] = d.Intn(2) == 0
	}
	return l
}

// P10.1: Room, and what stands in the log.

func TestRoom(t *testing.T) {
	for n, want := range map[int]int{
		0: 0, 1: 0, 2: 1, 3: 2, 4: 3, 5: 4, 60: 59, 119: 118, 120: 119, 121: 120, 122: 120, 123: 121, 124: 122,
		241: 239, 242: 240, 243: 240, 244: 241, 363: 360, 364: 360, 365: 361, 400: 396, 1022: 1013,
		-1: 0, -2: 0, -120: 0, -121: 0, -122: 0, -1000: 0, math.MinInt: 0, math.MinInt + 1: 0, math.MinInt32: 0, -1 << 32: 0,
	} {
		if got := wal.Room(n); got != want {
			t.Errorf("Room(%d): %d, not %d", n, got, want)
		}
	}
}

// needs is how many sectors k patches need beside the head.
func needs(k uint64) uint64 { return (k+perList-1)/perList + k }

func TestRoomIsTheGreatest(t *testing.T) {
	numbers := []int{math.MaxInt, math.MaxInt - 1, math.MaxInt - 2, math.MaxInt32, 1 << 32, 1<<32 + 1, 1 << 62, 65535, 65536, 1 << 20}
	for i := range 130 {
		numbers = append(numbers, math.MaxInt-i)
	}
	for n := 2; n < 3000; n++ {
		numbers = append(numbers, n)
	}
	for _, n := range numbers {
		if k := wal.Room(n); k < 1 || needs(uint64(k)) > uint64(n) || needs(uint64(k)+1) <= uint64(n) {
			t.Errorf("Room(%d): %d, which need %d sectors", n, k, needs(uint64(k)))
		}
	}
}

// One patch, act by act, each sector as it stands in the document.
func TestOnePatchByHand(t *testing.T) {
	x := bytes.Repeat([]byte{7}, size)
	list := sealed(2, []byte{0, 4})
	sum := sha256.Sum256(append(bytes.Clone(list), x...))
	head := sealed(1, append([]byte{0, 1}, sum[:]...))
	if !bytes.Equal(list[:6], []byte{2, 0, 2, 0, 4, 0}) || !bytes.Equal(head[:5], []byte{1, 0, 34, 0, 1}) {
		t.Fatalf("the tests' own: %v, %v", list, head)
	}
	z := zero()
	for acts, want := range [][][]byte{ // the sectors 0, 1, 2 of the log, and 4, as they are read; and what is pending
		{z, z, z, z, nil},
		{z, list, z, z, {1}},
		{z, list, x, z, {1, 2}},
		{z, list, x, z, nil},
		{head, list, x, z, {0}},
		{head, list, x, z, nil},
		{head, list, x, x, {4}},
		{head, list, x, x, nil},
		{z, list, x, x, {0}},
		{z, list, x, x, nil},
		{z, z, x, x, {1}},
		{z, z, z, x, {1, 2}},
		{z, z, z, x, nil},
	} {
		d, _ := disk.New(6)
		l, k, e := wal.Open(d, 2)
		if k != 0 || e != api.OK {
			t.Fatalf("Open: %d, error %d", k, e)
		}
		d.Fuse(acts)
		e = l.Commit(api.Patch{At: 4, B: x})
		if done := acts == 12; (e == api.OK) != done || !done && e != api.ErrDead || l.Broken() == done || d.Acts() != acts {
			t.Errorf("%d acts: error %d, Broken %t, Acts %d", acts, e, l.Broken(), d.Acts())
		}
		var pending []byte
		for _, i := range d.Pending() {
			pending = append(pending, byte(i))
		}
		if !bytes.Equal(pending, want[4]) {
			t.Errorf("%d acts: Pending %v", acts, pending)
		}
		d.Crash([]bool{true, true, true})
		now := d.Image()
		for i, at := range []int{0, 1, 2, 4} {
			if !bytes.Equal(now[at], want[i]) {
				t.Errorf("%d acts: sector %d is %v", acts, at, now[at])
			}
		}
		if !nought(now[3]) || !nought(now[5]) {
			t.Errorf("%d acts: sectors 3, 5 are %v, %v", acts, now[3], now[5])
		}
	}
}

// How many acts a Commit is, and that none of them is left out where a sector is as it would be anyway.
func TestActsOfCommit(t *testing.T) {
	for k, want := range map[int]int{0: 0, 1: 12, 2: 15, 3: 18, 10: 39, 120: 369, 121: 374, 240: 731, 241: 736} {
		for _, seed := range []int{0, 5} {
			b := start(t, 600, 300)
			l := patches(k, 301, 1, seed)
			if seed == 0 {
				for i := range l {
					l[i].B = zero()
				}
			}
			b.commit(l...)
			if b.d.Acts() != 1+want { // one of lay
				t.Errorf("%d patches: %d acts, not %d", k, b.d.Acts()-1, want)
			}
			b.logIsZero()
		}
	}
}

// actByAct does a Commit as often as it has acts, each time with the power gone behind one act more.
func actByAct(t *testing.T, sectors, n int, l []api.Patch, step int) {
	t.Helper()
	last := len(commitActs(l)) + 2
	for fuse := 0; fuse <= last; fuse += step {
		b := start(t, sectors, n)
		b.fuse(fuse)
		if e := b.commit(l...); (e == api.OK) != (fuse >= last-2) {
			t.Errorf("%d patches, %d acts: error %d", len(l), fuse, e)
		}
	}
}

func TestCommitActByAct(t *testing.T) {
	actByAct(t, 4, 2, patches(1, 3, 1, 1), 1)
	actByAct(t, 9, 5, patches(2, 7, 1, 9), 1)
	actByAct(t, 9, 5, []api.Patch{{At: 8, B: full(3)}, {At: 6, B: full(4)}, {At: 7, B: full(5)}}, 1) // in the order that they are handed in
	actByAct(t, 40, 20, patches(19, 39, -1, 2), 1)
	actByAct(t, 9, 5, []api.Patch{{At: 8, B: zero()}, {At: 6, B: full(4)}, {At: 7, B: zero()}}, 1)
}

// More than 120 patches need list sectors more.
func TestManyActByAct(t *testing.T) {
	d := rand.New(rand.NewSource(10))
	actByAct(t, 260, 122, thrown(d, 120, 123, 260), 1)
	actByAct(t, 260, 123, thrown(d, 121, 124, 260), 1)
	actByAct(t, 500, 244, thrown(d, 240, 245, 500), 7)
	actByAct(t, 500, 244, thrown(d, 241, 245, 500), 7)
	actByAct(t, most, 513, thrown(d, 508, 514, most), 101)
}

// P10.2: Commit.

func TestCommit(t *testing.T) {
	b := start(t, 12, 5)
	b.commit(api.Patch{At: 7, B: full(1)}, api.Patch{At: 9, B: full(2)})
	b.commit(api.Patch{At: 9, B: full(3)})
	b.commit()
	b.commit(patches(4, 6, 1, 20)...)
	b.logIsZero()
	for i, want := range [][]byte{zero(), zero(), zero(), zero(), zero(), zero(), full(20), full(21), full(22), full(23), zero(), zero()} {
		if s, e := b.d.Read(i); e != api.OK || !bytes.Equal(s, want) {
			t.Errorf("sector %d is %v", i, s)
		}
	}
	b.again()
}

// What is written may be anything: also what a log's own sectors are, and zero.
func TestBytesThatLookLikeLogs(t *testing.T) {
	inner := logOf(patches(2, 8, 1, 4)...)
	b := start(t, 12, 5)
	b.commit(api.Patch{At: 6, B: inner[0]}, api.Patch{At: 7, B: inner[1]}, api.Patch{At: 8, B: inner[2]}, api.Patch{At: 9, B: inner[3]})
	b.commit(api.Patch{At: 11, B: zero()}, api.Patch{At: 6, B: zero()})
	b.commit(api.Patch{At: 10, B: bytes.Repeat([]byte{255}, size)})
	b.again()
	for fuse := range 25 {
		b.fuse(fuse)
		b.commit(api.Patch{At: 11, B: inner[0]}, api.Patch{At: 6, B: inner[1]}, api.Patch{At: 7, B: zero()})
		b.crash(true, true)
		b.open()
		b.again()
	}
}

func TestCommitOfNone(t *testing.T) {
	b := start(t, 6, 2)
	b.commit()
	b.commit([]api.Patch{}...)
	b.fuse(0) // nothing is done, so the disk has no error
	b.commit()
	if b.l.Broken() {
		t.Error("broken by nothing")
	}
	if e := b.commit(api.Patch{At: 4, B: full(1)}); e != api.ErrDead {
		t.Errorf("dead: error %d", e)
	}
	if e := b.commit(); e != api.ErrDead {
		t.Errorf("broken: Commit of none: error %d", e)
	}
}

func TestAsManyAsThereIsRoom(t *testing.T) {
	for _, n := range []int{2, 3, 4, 5, 60, 119, 120, 121, 122, 123, 124, 241, 242, 243, 244, 363, 364, 365} {
		room := wal.Room(n)
		b := start(t, n+room+20, n)
		for k, want := range map[int]api.Errno{1: api.OK, room: api.OK, room + 1: api.ErrMany, room + 2: api.ErrMany, room + 19: api.ErrMany} {
			if e := b.commit(patches(k, n+1, 1, k)...); e != want {
				t.Errorf("log of %d: Commit of %d: error %d", n, k, e)
			}
			b.logIsZero()
		}
	}
}

// The shortest log, and the longest one: of the latter there is one sector to write to.
func TestShortestAndLongestLogs(t *testing.T) {
	for _, sectors := range []int{4, 5, 20, 125, most} {
		for _, n := range []int{2, sectors - 2} {
			b := start(t, sectors, n)
			for _, at := range []int{n + 1, sectors - 1} {
				b.commit(api.Patch{At: at, B: full(at)})
				b.fuse(6)
				b.commit(api.Patch{At: at, B: full(at + 1)})
				b.crash()
				b.open()
				b.again()
			}
		}
	}
}

// wrongSectors are those that no patch's is, of so many and a log of n.
func wrongSectors(sectors, n int) []int {
	return []int{n, n - 1, 0, 1, sectors, sectors + 1, -1, -2, -n, -n - 1, -sectors, most, 65535, 65536, 65536 + n + 1, 1 << 32, 1<<32 + n + 1, math.MaxInt, math.MaxInt - 1, math.MinInt, math.MinInt + 1, math.MaxInt32, math.MinInt32}
}

// wrongBytes are those that no patch has.
func wrongBytes() [][]byte {
	return [][]byte{nil, {}, {1}, make([]byte, size-1), make([]byte, size+1), make([]byte, 2*size), full(1)[:size-1], append(full(1), 0), make([]byte, 1<<16)}
}

func TestWrongPatches(t *testing.T) {
	for _, n := range []int{2, 5, 8} {
		b := start(t, 10, n)
		good := api.Patch{At: 9, B: full(1)}
		b.commit(good)
		var wrong []api.Patch
		for _, at := range wrongSectors(10, n) {
			wrong = append(wrong, api.Patch{At: at, B: full(2)})
			for _, s := range wrongBytes() {
				wrong = append(wrong, api.Patch{At: at, B: s})
			}
		}
		for _, s := range wrongBytes() {
			wrong = append(wrong, api.Patch{At: n + 1, B: s})
		}
		for _, v := range wrong {
			for _, l := range [][]api.Patch{{v}, {v, good}, {good, v}, {{At: n + 1, B: full(3)}, v, good}} {
				if e := b.commit(l...); e != api.ErrArg {
					t.Errorf("log of %d: Commit of sector %d with %d bytes: error %d", n, v.At, len(v.B), e)
				}
			}
		}
		b.commit(good) // it serves as ahead of these
	}
}

// The first sector that a patch may have, and the last one.
func TestEdgesOfSectors(t *testing.T) {
	for _, n := range []int{2, 3, 10, 17} {
		for at, want := range map[int]api.Errno{n: api.ErrArg, n + 1: api.OK, 19: api.OK, 20: api.ErrArg} {
			b := start(t, 20, n)
			if e := b.commit(api.Patch{At: at, B: full(at)}); e != want {
				t.Errorf("log of %d, sector %d: error %d", n, at, e)
			}
		}
	}
}

func TestOneSectorTwice(t *testing.T) {
	b := start(t, 400, 150)
	for _, pair := range [][2]int{{0, 1}, {0, 2}, {1, 2}, {0, 139}, {118, 119}, {119, 120}, {0, 120}, {120, 139}} {
		l := patches(140, 151, 1, 1)
		l[pair[1]].At = l[pair[0]].At
		if e := b.commit(l...); e != api.ErrArg {
			t.Errorf("the sector of %v: error %d", pair, e)
		}
		l = patches(pair[1]+1, 399, -1, 1)
		l[pair[1]] = l[pair[0]] // with the same bytes, too
		if e := b.commit(l...); e != api.ErrArg {
			t.Errorf("the patch of %v: error %d", pair, e)
		}
	}
	same := full(9) // bytes may be those of two
	b.commit(api.Patch{At: 300, B: same}, api.Patch{At: 299, B: same})
}

// Of several errors the one that the document names first is answered.
func TestErrorsInOrder(t *testing.T) {
	b := start(t, 12, 2)
	bad := api.Patch{At: 2, B: full(1)}
	many := patches(5, 3, 1, 1)
	for what, l := range map[string][]api.Patch{
		"a wrong one, and too many":          append(slices.Clone(many), bad),
		"too many, one twice":                append(slices.Clone(many), many[0]),
		"too many, one of no bytes":          append(slices.Clone(many), api.Patch{At: 11}),
		"more than the disk has sectors":     patches(13, 0, 1, 1),
		"more, all of one":                   slices.Repeat(many[:1], 70000),
		"a wrong one ahead of too many":      append([]api.Patch{bad}, many...),
		"one too many, of a sector too long": append(patches(1, 3, 1, 1), api.Patch{At: 4, B: make([]byte, size+1)}),
	} {
		if e := b.commit(l...); e != api.ErrArg {
			t.Errorf("%s: error %d", what, e)
		}
	}
	if e := b.commit(many...); e != api.ErrMany {
		t.Errorf("too many: error %d", e)
	}
	b.fuse(0) // what is refused is so ahead of the disk's error, and leaves the log whole
	if e := b.commit(bad); e != api.ErrArg {
		t.Errorf("dead, a wrong one: error %d", e)
	}
	if e := b.commit(many...); e != api.ErrMany {
		t.Errorf("dead, too many: error %d", e)
	}
	if e := b.commit(many[:1]...); e != api.ErrDead {
		t.Errorf("dead: error %d", e)
	}
	for _, l := range [][]api.Patch{nil, many[:1], {bad}, many, append(slices.Clone(many), bad)} {
		if e := b.commit(l...); e != api.ErrDead {
			t.Errorf("broken: Commit of %d: error %d", len(l), e)
		}
	}
}

// What is refused writes nothing, burns no fuse, and breaks nothing.
func TestRefusedIsNothing(t *testing.T) {
	b := start(t, 12, 3)
	b.commit(patches(2, 4, 1, 1)...)
	acts := len(commitActs(patches(2, 4, 1, 1)))
	b.fuse(acts)
	for range 10 {
		b.commit(api.Patch{At: 3, B: full(1)})
		b.commit(api.Patch{At: 4})
		b.commit(patches(3, 4, 1, 1)...)
		b.commit(patches(1, 4, 1, 1)[0], patches(1, 4, 1, 1)[0])
	}
	if e := b.commit(patches(2, 9, 1, 7)...); e != api.OK {
		t.Errorf("with just its acts left: error %d", e)
	}
	if !b.d.Dead() || b.l.Broken() {
		t.Errorf("Dead %t, Broken %t", b.d.Dead(), b.l.Broken())
	}
}

func TestNobodys(t *testing.T) {
	for what, l := range map[string]*wal.Log{"nil": nil, "blank": {}, "new": new(wal.Log)} {
		for range 2 { // what is asked of it makes it none either
			for _, p := range [][]api.Patch{nil, patches(1, 3, 1, 1), patches(1, 0, 1, 1), patches(2, 5, 0, 1), {{At: -1}}, patches(2000, 3, 1, 1)} {
				if e := l.Commit(p...); e != api.ErrNil {
					t.Errorf("%s: Commit of %d: error %d", what, len(p), e)
				}
			}
			if !l.Broken() {
				t.Errorf("%s: is not broken", what)
			}
		}
	}
}

// A log whose disk died stays broken, also when there is power again; a new Open serves.
func TestBroken(t *testing.T) {
	l := patches(2, 7, 2, 1)
	for fuse := range commitActs(l) {
		b := start(t, 12, 5)
		b.fuse(fuse)
		if b.l.Broken() {
			t.Fatal("broken ahead of all")
		}
		if e := b.commit(l...); e != api.ErrDead || !b.l.Broken() {
			t.Errorf("%d acts: error %d, Broken %t", fuse, e, b.l.Broken())
		}
		for _, power := range []func(){func() {}, func() { b.crash(true) }, func() { b.fuse(-1) }, func() { b.open(); b.again() }} {
			old := b.l
			power()
			was := b.d.Acts()
			if e := old.Commit(l...); e != api.ErrDead || !old.Broken() || b.d.Acts() != was {
				t.Errorf("%d acts: behind it error %d, Broken %t, %d acts", fuse, e, old.Broken(), b.d.Acts()-was)
			}
			if e := old.Commit(); e != api.ErrDead {
				t.Errorf("%d acts: behind it, of none: error %d", fuse, e)
			}
		}
		if e := b.commit(l...); e != api.OK {
			t.Errorf("%d acts: opened anew: error %d", fuse, e)
		}
		b.logIsZero()
	}
}

// A disk that had no power while nobody asked it breaks no log.
func TestPowerThatNobodyMissed(t *testing.T) {
	b := start(t, 8, 3)
	for range 3 {
		b.fuse(0)
		b.commit()
		b.commit(api.Patch{At: 2, B: full(1)})
		b.crash()
		if e := b.commit(patches(2, 5, 2, 3)...); e != api.OK {
			t.Errorf("error %d", e)
		}
	}
}

func TestTwoLogsHaveNothingInCommon(t *testing.T) {
	a, b := start(t, 9, 3), start(t, 9, 4)
	x := patches(2, 5, 3, 1)
	a.commit(x...)
	b.agree()
	b.commit(x...)
	b.commit(patches(2, 5, 1, 8)...)
	a.agree()
	a.fuse(7)
	a.commit(patches(2, 7, 1, 5)...)
	b.agree()
	if !a.l.Broken() || b.l.Broken() {
		t.Errorf("Broken %t, %t", a.l.Broken(), b.l.Broken())
	}
	b.commit(x...)
	a.agree()
	a.crash()
	a.open()
	b.agree()
	// Two of one disk: one that broke does not break the other one.
	one, _, _ := wal.Open(b.d, 4)
	b.d.Fuse(0)
	if e := one.Commit(x...); e != api.ErrDead || !one.Broken() || b.l.Broken() {
		t.Errorf("error %d, Broken %t, %t", e, one.Broken(), b.l.Broken())
	}
	b.d.Crash(nil)
	if e := b.commit(x...); e != api.OK {
		t.Errorf("the other one: error %d", e)
	}
}

// thrownCommit does a Commit that is thrown, some of which are refused.
func (b *both) thrownCommit(d *rand.Rand) {
	b.t.Helper()
	sectors := len(b.r.safe)
	free := sectors - b.n - 1
	l := thrown(d, d.Intn(min(free, wal.Room(b.n)+1)+1), b.n+1, sectors)
	if len(l) > 0 && d.Intn(5) == 0 {
		v := &l[d.Intn(len(l))]
		switch d.Intn(4) {
		case 0:
			v.At = d.Intn(b.n + 1)
		case 1:
			v.At = sectors + d.Intn(3)
		case 2:
			v.At = l[0].At // of the first one itself it is right
		default:
			v.B = wrongBytes()[d.Intn(9)]
		}
	}
	b.commit(l...)
}

// Rows of Commits, with the power gone now and then.
func TestThrownRows(t *testing.T) {
	for seed := range 600 {
		d := rand.New(rand.NewSource(int64(seed)))
		sectors := 4 + d.Intn(40)
		b := start(t, sectors, 2+d.Intn(sectors-3))
		for range 25 {
			if d.Intn(3) == 0 {
				b.fuse(d.Intn(70))
			}
			b.thrownCommit(d)
			if b.broken || b.r.left == 0 || d.Intn(8) == 0 {
				b.crash(thrownKeep(d, len(b.r.pending))...)
				b.thrownOpen(d)
			}
		}
	}
}

// thrownOpen opens the log, also if the power goes again and again meanwhile.
func (b *both) thrownOpen(d *rand.Rand) {
	b.t.Helper()
	for d.Intn(3) > 0 {
		b.fuse(d.Intn(25))
		b.open()
		b.crash(thrownKeep(d, len(b.r.pending))...)
	}
	b.open()
	b.again()
}

func TestThrownRowsOfGreatLogs(t *testing.T) {
	for seed, n := range []int{119, 121, 122, 123, 130, 242, 244, 400, 700} {
		d := rand.New(rand.NewSource(int64(seed)))
		b := start(t, most, n)
		for range 6 {
			if d.Intn(2) == 0 {
				b.fuse(d.Intn(4 * n))
			}
			b.thrownCommit(d)
			b.crash(thrownKeep(d, len(b.r.pending))...)
			b.thrownOpen(d)
		}
	}
}
