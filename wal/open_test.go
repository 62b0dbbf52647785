package wal_test

import (
	"bytes"
	"hanaper/api"
	"hanaper/disk"
	"hanaper/wal"
	"math"
	"math/rand"
	"slices"
	"testing"
)

// P10.3: Open.

// disked is so many sectors, each of them (but those of the log, 0 to n) with bytes of its own, ahead of which log stands.
func disked(sectors, n int, log ...[]byte) [][]byte {
	all := make([][]byte, sectors)
	for i := n + 1; i < sectors; i++ {
		all[i] = full(1000 + i)
	}
	copy(all, log)
	return all
}

// opens asks that Open of these sectors, with a log of n, tells k, and does what the reckoning says; and that it is nothing more to do then.
func opens(t *testing.T, what string, sectors [][]byte, n, k int) *both {
	t.Helper()
	b := lay(t, sectors, n)
	b.did("%s", what)
	if _, got, _ := openActs(b.r.now(), n); got != k {
		t.Fatalf("%s: by the tests' own reckoning %d are done, not %d", what, got, k)
	}
	b.open()
	b.logIsZero()
	b.again()
	if e := b.commit(api.Patch{At: n + 1, B: full(5)}); e != api.OK {
		t.Errorf("%s: Commit behind it: error %d", what, e)
	}
	return b
}

func TestOpenOfNothing(t *testing.T) {
	for _, sectors := range []int{4, 5, 6, 60, 121, most} {
		for _, n := range []int{2, (sectors - 2 + 2) / 2, sectors - 2} {
			b := lay(t, disked(sectors, n), n)
			was := b.d.Acts()
			b.open()
			if b.d.Acts() != was {
				t.Errorf("%d sectors, a log of %d: %d acts", sectors, n, b.d.Acts()-was)
			}
			b.again()
		}
	}
}

// A log that is whole, by hand: what is on the disk behind it, act by act.
func TestWholeLogByHand(t *testing.T) {
	x, y, z := full(1), full(2), zero()
	log := logOf(api.Patch{At: 7, B: x}, api.Patch{At: 5, B: y})
	for acts, want := range [][][]byte{ // the sectors 0 to 3, 7 and 5; and what is pending
		{log[0], log[1], x, y, z, z, nil},
		{log[0], log[1], x, y, x, z, {7}},
		{log[0], log[1], x, y, x, y, {5, 7}},
		{log[0], log[1], x, y, x, y, nil},
		{z, log[1], x, y, x, y, {0}},
		{z, log[1], x, y, x, y, nil},
		{z, z, x, y, x, y, {1}},
		{z, z, z, y, x, y, {1, 2}},
		{z, z, z, z, x, y, {1, 2, 3}},
		{z, z, z, z, x, y, nil},
	} {
		b := lay(t, append(slices.Clone(log), make([][]byte, 4)...), 4)
		was := b.d.Acts()
		b.d.Fuse(acts)
		l, k, e := wal.Open(b.d, 4)
		if acts == 9 {
			if l == nil || k != 2 || e != api.OK || l.Broken() {
				t.Errorf("%t, %d, error %d", l != nil, k, e)
			}
		} else if l != nil || k != 0 || e != api.ErrDead {
			t.Errorf("%d acts: %t, %d, error %d", acts, l != nil, k, e)
		}
		var pending []byte
		for _, i := range b.d.Pending() {
			pending = append(pending, byte(i))
		}
		if !bytes.Equal(pending, want[6]) || b.d.Acts() != was+acts {
			t.Errorf("%d acts: Pending %v, Acts %d", acts, pending, b.d.Acts()-was)
		}
		b.d.Crash([]bool{true, true, true})
		now := b.d.Image()
		for i, at := range []int{0, 1, 2, 3, 7, 5} {
			if !bytes.Equal(now[at], want[i]) {
				t.Errorf("%d acts: sector %d is %v", acts, at, now[at])
			}
		}
	}
}

func TestWholeLogs(t *testing.T) {
	for _, n := range []int{2, 3, 5, 120, 121, 122, 123, 242, 243, 244, 365} {
		room := wal.Room(n)
		for _, k := range []int{1, 2, room - 1, room} {
			if k < 1 || k > room {
				continue
			}
			sectors := n + room + 9
			opens(t, "rising", disked(sectors, n, logOf(patches(k, n+1, 1, 1)...)...), n, k)
			opens(t, "falling, to the last sector", disked(sectors, n, logOf(patches(k, sectors-1, -1, 1)...)...), n, k)
			opens(t, "zeros", disked(sectors, n, logOf(slices.Repeat([]api.Patch{{At: n + 3, B: zero()}}, 1)...)...), n, 1)
		}
	}
	log := logOf(patches(508, most-1, -1, 1)...)
	opens(t, "the greatest numbers", disked(most, 513, log...), 513, 508)
}

// What stands behind a log that is whole is made zero, too.
func TestMoreBehindTheLog(t *testing.T) {
	log := append(logOf(patches(2, 12, 3, 1)...), zero(), full(3), zero(), log0())
	for n := 3; n < 11; n++ {
		opens(t, "more behind it", disked(20, n, log[:min(n+1, len(log))]...), n, 2)
	}
}

// log0 is a head of its own.
func log0() []byte { return logOf(patches(1, 12, 1, 9)...)[0] }

// A log that was of more sectors, or of fewer, than it is opened with.
func TestAnotherN(t *testing.T) {
	l := patches(3, 14, 1, 1)
	for n := 2; n < 17; n++ {
		k := 3
		if n < 4 || n > 13 {
			k = 0 // no room, and sectors that belong to the log
		}
		log := logOf(l...)
		all := make([][]byte, 20)
		copy(all, log)
		b := lay(t, all, n)
		if _, got, _ := openActs(b.r.now(), n); got != k {
			t.Fatalf("a log of %d: the reckoning tells %d", n, got)
		}
		b.open()
		b.again()
	}
}

// The number of patches is that of the head: with a sum that is right it is 0, the Room, one more, and far more.
func TestNumbersOfPatches(t *testing.T) {
	for _, n := range []int{2, 5, 121, 122, 123, 244} {
		room := wal.Room(n)
		l := patches(room+1, n+2, 1, 1)
		rest := logOf(l...)[1:]
		sectors := n + room + 20
		for _, k := range []int{0, 1, room - 1, room + 1, room + 2, 255, 256, 257, 65535, 65535 - n} {
			if k == room || k > 0 && k%perList == 0 { // of so many, the first list sectors are right
				continue
			}
			// All that so many would need is summed, as far as it stands there, also behind the log.
			need := min(int(needs(uint64(k))), sectors-1)
			all := disked(sectors, n, append([][]byte{nil}, rest...)...)
			for i := range all[1:] {
				if all[1+i] == nil {
					all[1+i] = zero()
				}
			}
			all[0] = headOf(k, all[1:1+need]...)
			opens(t, "another number", all, n, 0)
			all[0] = headOf(k, all[1:n+1]...)
			opens(t, "another number, the log's sum", all, n, 0)
			all[0] = headOf(k, rest...)
			opens(t, "another number, the sum of one more than there is room", all, n, 0)
			all[0] = headOf(k)
			opens(t, "another number, of no byte", all, n, 0)
		}
		opens(t, "Room", disked(sectors, n, logOf(l[:room]...)...), n, room)
	}
}

// One more than there is room, all of which stands as it should, the last bytes behind the log.
func TestOneMoreThanRoom(t *testing.T) {
	for _, n := range []int{2, 3, 5, 121, 122, 123, 242} {
		k := wal.Room(n) + 1
		log := logOf(patches(k, n+5, 1, 1)...)
		if len(log) <= n+1 {
			t.Fatalf("the tests' own: a log of %d sectors does not reach behind %d", len(log), n)
		}
		opens(t, "one more", disked(len(log)+k+9, n, log...), n, 0)
	}
}

// otherList is the log of l, whose i'th list sector is another one, as the sum says that it is.
func otherList(i int, list []byte, l ...api.Patch) [][]byte {
	rest := logOf(l...)[1:]
	rest[i] = list
	return append([][]byte{headOf(len(l), rest...)}, rest...)
}

// numbersOf is the numbers of patches as bytes.
func numbersOf(l ...api.Patch) []byte {
	var body []byte
	for _, v := range l {
		body = append(body, two(v.At)...)
	}
	return body
}

// A list sector that is right but for one thing.
func TestWrongLists(t *testing.T) {
	for _, k := range []int{1, 2, 3, 119, 120, 121, 130, 240, 241} {
		const n, sectors = 260, 520
		l := patches(k, n+2, 1, 1)
		for i := range (k + perList - 1) / perList {
			part := l[i*perList : min(k, (i+1)*perList)]
			right := numbersOf(part...)
			opens(t, "as it should be", disked(sectors, n, otherList(i, sealed(2, right), l...)...), n, k)
			for _, kind := range []int{1, 3, 4, 130, 255} {
				opens(t, "a list of another kind", disked(sectors, n, otherList(i, sealed(kind, right), l...)...), n, 0)
			}
			for what, body := range map[string][]byte{
				"no number":         nil,
				"one number fewer":  right[:len(right)-2],
				"one number more":   append(slices.Clone(right), two(sectors-1)...),
				"two numbers more":  append(slices.Clone(right), append(two(sectors-1), two(sectors-2)...)...),
				"a byte fewer":      right[:len(right)-1],
				"a byte more":       append(slices.Clone(right), 0),
				"the other way":     nil,
				"the first one out": right[2:],
				"one byte":          {1},
			} {
				if what == "the other way" { // each number's lower byte first
					for at := 0; at < len(right); at += 2 {
						body = append(body, right[at+1], right[at])
					}
				}
				opens(t, what, disked(sectors, n, otherList(i, sealed(2, body), l...)...), n, 0)
			}
			spoilt := sealed(2, right)
			spoilt[4] ^= 1
			opens(t, "a list that is not sealed", disked(sectors, n, otherList(i, spoilt, l...)...), n, 0)
			opens(t, "no list", disked(sectors, n, otherList(i, zero(), l...)...), n, 0)
			opens(t, "a list of others", disked(sectors, n, otherList(i, full(6), l...)...), n, 0)
		}
	}
}

// Numbers are parted otherwise between two list sectors.
func TestListsPartedOtherwise(t *testing.T) {
	l := patches(125, 202, 1, 1)
	for _, first := range []int{118, 119, 121, 122, 124} {
		rest := logOf(l...)[1:]
		rest[0], rest[1] = sealed(2, numbersOf(l[:first]...)), sealed(2, numbersOf(l[first:]...))
		opens(t, "parted otherwise", disked(400, 200, append([][]byte{headOf(125, rest...)}, rest...)...), 200, 0)
	}
	rest := logOf(l...)[1:]
	rest[0], rest[1] = rest[1], rest[0]
	opens(t, "the lists change places", disked(400, 200, append([][]byte{headOf(125, rest...)}, rest...)...), 200, 0)
	// One list of more numbers than one has, and what is to be written at once behind it.
	body := numbersOf(l[:121]...)
	rest = append([][]byte{sealed(2, body)}, bytesOf(l[:121]...)...)
	opens(t, "121 in one list", disked(400, 200, append([][]byte{headOf(121, rest...)}, rest...)...), 200, 0)
	// An empty list, or a list more, that nobody needs.
	rest = append([][]byte{sealed(2, numbersOf(l[:120]...)), sealed(2, nil)}, bytesOf(l[:120]...)...)
	opens(t, "a list more", disked(400, 200, append([][]byte{headOf(120, rest...)}, rest...)...), 200, 0)
}

// A number that no Commit takes, with a sum that is right.
func TestWrongNumbers(t *testing.T) {
	for _, k := range []int{1, 2, 5, 120, 121, 140} {
		const n, sectors = 150, 300
		for _, i := range []int{0, k / 2, k - 1} {
			for _, at := range []int{0, 1, 2, n - 1, n, sectors, sectors + 1, most - 1, most, 65535, 65535 - n, 32768 + n + 2, 256 * (n + 2) % 65536} {
				l := patches(k, n+2, 1, 1)
				l[i].At = at
				opens(t, "a wrong number", disked(sectors, n, logOf(l...)...), n, 0)
			}
			l := patches(k, n+2, 1, 1)
			l[i].At = n + 1
			opens(t, "the first sector that may be", disked(sectors, n, logOf(l...)...), n, k)
			l[i].At = sectors - 1
			opens(t, "the last sector that may be", disked(sectors, n, logOf(l...)...), n, k)
		}
	}
}

func TestOneNumberTwice(t *testing.T) {
	for _, pair := range [][2]int{{0, 1}, {0, 2}, {1, 2}, {118, 119}, {119, 120}, {0, 120}, {0, 139}, {121, 139}} {
		l := patches(140, 152, 1, 1)
		l[pair[1]].At = l[pair[0]].At
		opens(t, "a number twice", disked(300, 150, logOf(l...)...), 150, 0)
		l[pair[1]] = l[pair[0]]
		opens(t, "a patch twice", disked(300, 150, logOf(l...)...), 150, 0)
	}
}

// A sum of which one byte is another one; and what is summed.
func TestWrongSums(t *testing.T) {
	l := patches(3, 12, 1, 1)
	log := logOf(l...)
	right := log[0][3 : 3+34]
	for at := 2; at < 34; at++ {
		for _, x := range []byte{1, 128, 255} {
			body := bytes.Clone(right)
			body[at] ^= x
			opens(t, "another sum", disked(20, 10, append([][]byte{sealed(1, body)}, log[1:]...)...), 10, 0)
		}
	}
	for what, head := range map[string][]byte{
		"the sum of no byte":            headOf(3),
		"of the lists alone":            headOf(3, log[1]),
		"of the bytes alone":            headOf(3, log[2:]...),
		"of a list's body":              headOf(3, append([][]byte{numbersOf(l...)}, log[2:]...)...),
		"of the bytes, and the list":    headOf(3, log[2], log[3], log[4], log[1]),
		"of all the log":                headOf(3, append(slices.Clone(log[1:]), make([]byte, 6*size))...),
		"of one fewer":                  headOf(3, log[1:4]...),
		"with a byte more":              headOf(3, append(slices.Clone(log[1:]), []byte{0})...),
		"zero":                          sealed(1, append([]byte{0, 3}, make([]byte, 32)...)),
		"of the head's number and all":  headOf(3, append([][]byte{{0, 3}}, log[1:]...)...),
		"of another number of patches":  headOf(2, log[1:]...),
		"of a number of three patches'": headOf(0x300, log[1:]...),
	} {
		opens(t, what, disked(20, 10, append([][]byte{head}, log[1:]...)...), 10, 0)
	}
	for at := 1; at < len(log); at++ { // each byte of what is summed
		for i := range size {
			if at > 1 && i%5 > 0 {
				continue
			}
			other := slices.Clone(log)
			other[at] = bytes.Clone(log[at])
			other[at][i] ^= byte(1 + i%255)
			opens(t, "another byte", disked(20, 10, other...), 10, 0)
		}
	}
}

// A list with another number, sealed, but not summed; and one whose bytes changed places.
func TestSumOfAnotherLog(t *testing.T) {
	l := patches(3, 12, 1, 1)
	log := logOf(l...)
	for i := range l {
		other := slices.Clone(l)
		other[i].At = 18
		opens(t, "another list", disked(20, 10, log[0], logOf(other...)[1], log[2], log[3], log[4]), 10, 0)
		opens(t, "another head", disked(20, 10, append(logOf(other...)[:1:1], log[1:]...)...), 10, 0)
	}
	opens(t, "bytes change places", disked(20, 10, log[0], log[1], log[3], log[2], log[4]), 10, 0)
	opens(t, "bytes stand one further", disked(20, 10, log[0], log[1], nil, log[2], log[3], log[4]), 10, 0)
	opens(t, "all stands one further", disked(20, 10, log[0], nil, log[1], log[2], log[3], log[4]), 10, 0)
}

func TestWrongHeads(t *testing.T) {
	l := patches(3, 12, 1, 1)
	log := logOf(l...)
	right := log[0][3 : 3+34]
	heads := [][]byte{nil, full(7), bytes.Repeat([]byte{255}, size), log[1], sealed(1, nil), sealed(1, make([]byte, 34))}
	for _, kind := range []int{2, 3, 4, 5, 129, 255} {
		heads = append(heads, sealed(kind, right))
	}
	for n := range 34 {
		heads = append(heads, sealed(1, right[:n]))
	}
	for _, n := range []int{1, 2, 32, 34, 200, 215} {
		heads = append(heads, sealed(1, append(slices.Clone(right), make([]byte, n)...)), sealed(1, append(slices.Clone(right), full(3)[:n]...)))
	}
	heads = append(heads, sealed(1, append(slices.Clone(right[1:2]), right[2:]...))) // k as one byte
	heads = append(heads, sealed(1, append([]byte{3, 0}, right[2:]...)))             // the lower one first
	heads = append(heads, sealed(1, append(slices.Clone(right[2:]), 0, 3)))          // behind the sum
	for i := range size {
		other := bytes.Clone(log[0])
		other[i] ^= byte(1 + i%255)
		heads = append(heads, other)
	}
	for _, head := range heads {
		opens(t, "another head", disked(20, 10, append([][]byte{head}, log[1:]...)...), 10, 0)
		opens(t, "another head, and nothing", disked(20, 10, head), 10, 0)
	}
	opens(t, "the right one", disked(20, 10, log...), 10, 3)
}

// Sectors of the log that are not zero, while the head is.
func TestHeadIsZero(t *testing.T) {
	log := logOf(patches(3, 12, 1, 1)...)
	opens(t, "all but the head", disked(20, 10, append([][]byte{nil}, log[1:]...)...), 10, 0)
	for i := 1; i <= 10; i++ {
		for _, s := range [][]byte{log[0], log[1], full(4), append(make([]byte, size-1), 1), append([]byte{1}, make([]byte, size-1)...)} {
			all := disked(20, 10)
			all[i] = s
			opens(t, "one", all, 10, 0)
			all[1+i%10] = s
			opens(t, "two", all, 10, 0)
		}
	}
}

// A head that is not zero, while all else is: with just its two acts there is no power left to look at the others with.
func TestOnlyHead(t *testing.T) {
	for _, head := range [][]byte{full(1), log0(), append(make([]byte, size-1), 1), append([]byte{1}, make([]byte, size-1)...)} {
		opens(t, "a head", disked(20, 10, head), 10, 0)
		for fuse := range 5 {
			b := lay(t, disked(20, 10, head), 10)
			b.fuse(fuse)
			if e := b.open(); (e == api.OK) != (fuse > 2) {
				t.Errorf("fuse %d: error %d", fuse, e)
			}
			b.crash(true)
			b.open()
			b.again()
		}
	}
}

func TestSectorsBehindTheLogStay(t *testing.T) {
	for n := 2; n < 19; n++ {
		all := disked(21, n)
		for i := range n + 1 {
			all[i] = full(i + 1)
		}
		b := lay(t, all, n)
		b.open()
		for i, s := range b.d.Image() {
			if i <= n && !nought(s) || i > n && !bytes.Equal(s, full(1000+i)) {
				t.Errorf("a log of %d: sector %d is %v", n, i, s)
			}
		}
	}
}

// refusesOpen asks that Open is answered want, and does nothing.
func refusesOpen(t *testing.T, d *disk.Disk, n int, want api.Errno) {
	t.Helper()
	acts, image := d.Acts(), d.Image()
	l, k, e := wal.Open(d, n)
	if l != nil || k != 0 || e != want {
		t.Errorf("Open(%d) of %d sectors: %t, %d, error %d, not %d", n, d.Size(), l != nil, k, e, want)
	}
	if d.Acts() != acts || len(d.Pending()) != 0 || !slices.EqualFunc(d.Image(), image, bytes.Equal) {
		t.Errorf("Open(%d) of %d sectors, which is refused, turns the disk", n, d.Size())
	}
}

// noNumbers are the numbers of sectors that no log of so many has.
func noNumbers(sectors int) []int {
	return []int{1, 0, -1, -2, -3, -sectors, sectors - 1, sectors, sectors + 1, 2 * sectors, 65536 + 2, 1 << 32, 1<<32 + 2, math.MaxInt, math.MaxInt - 1, math.MinInt, math.MinInt + 1, math.MinInt + 2, math.MaxInt32, math.MinInt32}
}

func TestWrongN(t *testing.T) {
	for _, sectors := range []int{4, 5, 12, 200, most} {
		log := logOf(patches(1, sectors-1, 1, 1)...)
		d := lay(t, append(log, make([][]byte, sectors-3)...), 2).d
		for _, n := range noNumbers(sectors) {
			refusesOpen(t, d, n, api.ErrArg)
		}
		for _, n := range []int{sectors - 2, 2} { // those that may be
			if _, _, e := wal.Open(d, n); e != api.OK {
				t.Errorf("Open(%d) of %d sectors: error %d", n, sectors, e)
			}
		}
	}
	for sectors := 1; sectors < 4; sectors++ { // too small for any
		d, _ := disk.New(sectors)
		for n := -5; n < 8; n++ {
			refusesOpen(t, d, n, api.ErrArg)
		}
		for _, n := range noNumbers(sectors) {
			refusesOpen(t, d, n, api.ErrArg)
		}
	}
}

func TestEachN(t *testing.T) {
	d, _ := disk.New(30)
	for n := -40; n < 70; n++ {
		l, k, e := wal.Open(d, n)
		if good := n >= 2 && n <= 28; (e == api.OK) != good || !good && e != api.ErrArg || (l != nil) != good || k != 0 {
			t.Errorf("Open(%d): %t, %d, error %d", n, l != nil, k, e)
		}
	}
}

func TestOpenOfNobodysDisk(t *testing.T) {
	for _, d := range []*disk.Disk{nil, {}, new(disk.Disk)} {
		for _, n := range append(noNumbers(12), 2, 3, 10) {
			refusesOpen(t, d, n, api.ErrNil)
		}
	}
}

// Of a dead disk what may not be is told ahead of that.
func TestOpenOfDeadDisk(t *testing.T) {
	for what, log := range map[string][][]byte{"nothing": nil, "a log": logOf(patches(1, 8, 1, 1)...), "a head": {full(1)}} {
		b := lay(t, disked(12, 5, log...), 5)
		b.fuse(0)
		for _, n := range noNumbers(12) {
			refusesOpen(t, b.d, n, api.ErrArg)
		}
		for n := 2; n < 11; n++ {
			refusesOpen(t, b.d, n, api.ErrDead)
		}
		b.crash()
		if e := b.open(); e != api.OK {
			t.Errorf("%s: with power again: error %d", what, e)
		}
		b.again()
	}
}

// Each Open of logs of many kinds, act by act, and the power gone behind each.
func TestOpenActByAct(t *testing.T) {
	for what, c := range map[string]struct {
		sectors [][]byte
		n       int
	}{
		"one":            {disked(8, 4, logOf(patches(1, 6, 1, 1)...)...), 4},
		"three":          {disked(12, 6, append(logOf(patches(3, 11, -2, 1)...), full(1), full(2))...), 6},
		"zeros":          {disked(12, 6, logOf(api.Patch{At: 8, B: zero()}, api.Patch{At: 7, B: zero()})...), 6},
		"a spoilt one":   {disked(12, 6, append([][]byte{full(1)}, logOf(patches(3, 7, 1, 1)...)[1:]...)...), 6},
		"without a head": {disked(12, 6, append([][]byte{nil}, logOf(patches(3, 7, 1, 1)...)[1:]...)...), 6},
		"many":           {disked(300, 130, logOf(patches(128, 131, 1, 1)...)...), 130},
	} {
		acts, _, _ := openActs(lay(t, c.sectors, c.n).r.now(), c.n)
		for fuse := range len(acts) + 2 {
			b := lay(t, c.sectors, c.n)
			b.did("%s", what)
			b.fuse(fuse)
			b.open()
			b.crash()
			b.open()
			b.again()
		}
	}
}

// spoil turns a thing or two of a log, and seals and sums what it turned, or not.
func spoil(d *rand.Rand, log [][]byte, k int) [][]byte {
	log = slices.Clone(log)
	m := (k + perList - 1) / perList
	i := d.Intn(m + 1)
	if d.Intn(4) == 0 {
		i = d.Intn(len(log))
	}
	s := bytes.Clone(log[i])
	n := 2 + 2*k
	if i == 0 {
		n = 36
	}
	for range d.Intn(3) {
		s[d.Intn(min(3+n, size))] += byte(d.Intn(5) - 2)
	}
	if d.Intn(2) == 0 && i <= m && int(s[0]) > 0 && int(s[1]) == 0 && s[2] <= 249 {
		s = sealed(int(s[0]), s[3:3+int(s[2])])
	}
	log[i] = s
	if i > 0 && d.Intn(3) > 0 {
		log[0] = headOf(k+d.Intn(9)/8, log[1:]...)
	}
	return log
}

// Logs with a thing or two that is otherwise, most of which are none.
func TestThrownLogs(t *testing.T) {
	told := [2]int{}
	for seed := range 6000 {
		d := rand.New(rand.NewSource(int64(seed)))
		sectors := 6 + d.Intn(20)
		n := 2 + d.Intn(sectors-4)
		k := 1 + d.Intn(min(wal.Room(n), sectors-n-1))
		log := spoil(d, logOf(thrown(d, k, n+1, sectors)...), k)
		if len(log) > n+1 {
			t.Fatal("the tests' own: too long a log")
		}
		b := lay(t, disked(sectors, n, log...), n)
		if d.Intn(3) == 0 {
			b.fuse(d.Intn(20))
		}
		_, k, _ = openActs(b.r.now(), n)
		told[min(k, 1)]++
		b.open()
		b.crash(thrownKeep(d, len(b.r.pending))...)
		b.thrownOpen(d)
	}
	if told[0] < 1000 || told[1] < 1000 {
		t.Errorf("of those that are none, and those that are whole: %v", told)
	}
}

// The same is answered again: what is told hangs on the disk alone.
func TestOpenAgain(t *testing.T) {
	log := logOf(patches(3, 12, 1, 1)...)
	for range 3 {
		opens(t, "a log", disked(20, 10, log...), 10, 3)
		opens(t, "none", disked(20, 10), 10, 0)
		opens(t, "a spoilt one", disked(20, 10, log[:4]...), 10, 0)
		refusesOpen(t, nil, 10, api.ErrNil)
	}
}
