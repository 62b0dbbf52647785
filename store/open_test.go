package store_test

import (
	"bytes"
	"crypto/sha256"
	"fmt"
	"hanaper/api"
	"hanaper/disk"
	"hanaper/store"
	"math"
	"slices"
	"testing"
)

// P13.2: Open.

// opens asks what Open answers; what is answered with an error is no store.
func opens(t *testing.T, d *disk.Disk, c api.Config, want api.Errno, tells string) *store.Store {
	t.Helper()
	s, e := store.Open(d, c)
	if e != want || (s != nil) != (want == api.OK) {
		t.Fatalf("%s: Open with %+v: a store %t, error %d, not %d", tells, c, s != nil, e, want)
	}
	return s
}

// sameImage asks that d has these sectors, and nothing is pending.
func sameImage(t *testing.T, d *disk.Disk, want [][]byte, tells string) {
	t.Helper()
	if !slices.EqualFunc(d.Image(), want, bytes.Equal) || len(d.Pending()) > 0 {
		t.Fatalf("%s: the disk has other sectors", tells)
	}
}

// little is the config of most of these tests: the log 0 to 9, the files' sectors 10 to 12, a slot 13, data 14 to 19.
func little() api.Config { return api.Config{Log: 9, Files: 3, Slots: 1, Data: 6} }

const (
	littleNodes = 10
	littleData  = 14
)

func TestOpenOfNothing(t *testing.T) {
	for _, c := range []api.Config{little(), {}, {Log: 2, Files: 1, Data: 1}, {Log: math.MaxInt, Files: math.MaxInt, Slots: math.MinInt, Data: -1}} {
		opens(t, nil, c, api.ErrNil, "nil")
		opens(t, &disk.Disk{}, c, api.ErrNil, "one that New did not make")
		made, _ := disk.New(2000)
		opens(t, made, c, api.ErrNil, "what New answers with an error")
	}
}

func TestOpenOfOtherSizes(t *testing.T) {
	c := little()
	for _, n := range []int{1, 2, 4, 5, 10, 19, 21, 22, 40, 255, 276, 1023, 1024} {
		d, _ := disk.New(n)
		opens(t, d, c, api.ErrArg, fmt.Sprint(n, " sectors"))
		sameImage(t, d, slices.Repeat([][]byte{zero()}, n), "ErrArg")
	}
	d, _ := disk.New(20)
	wrong := []api.Config{
		{}, {Log: 9, Files: 3, Slots: 1, Data: 5}, {Log: 9, Files: 3, Slots: 1, Data: 7}, {Log: 8, Files: 3, Slots: 1, Data: 6}, {Log: 9, Files: 2, Slots: 1, Data: 6}, {Log: 9, Files: 3, Slots: 0, Data: 6},
		{Log: 1, Files: 3, Slots: 1, Data: 14}, {Log: 9, Files: 0, Slots: 1, Data: 9}, {Log: 9, Files: 3, Slots: -1, Data: 8}, {Log: 9, Files: 9, Slots: 1, Data: 0}, {Log: 1, Files: 0, Slots: 17, Data: 1},
		{Log: 0, Files: 3, Slots: 10, Data: 6}, {Log: -1, Files: 3, Slots: 11, Data: 6}, {Log: 9, Files: 3, Slots: 17, Data: -10}, {Log: math.MaxInt, Files: math.MaxInt, Slots: 16, Data: 5},
	}
	for _, c := range wrong {
		opens(t, d, c, api.ErrArg, "a wrong config")
		small, _ := disk.New(3)
		opens(t, small, c, api.ErrArg, "a wrong config, and a wrong size")
	}
	opens(t, d, little(), api.OK, "the right one")
	d.Fuse(0)
	for _, c := range wrong {
		opens(t, d, c, api.ErrArg, "a wrong config, and a dead disk")
	}
	opens(t, d, little(), api.ErrDead, "a dead disk")
	for _, n := range []int{19, 21} {
		d, _ := disk.New(n)
		d.Fuse(0)
		opens(t, d, little(), api.ErrArg, "a dead disk of another size")
	}
}

func TestOpenOfNewDisks(t *testing.T) {
	for _, c := range append(thrownConfigs(), little(), api.Config{Log: 400, Files: 64, Slots: 16, Data: 543}, api.Config{Log: 143, Files: 64, Slots: 16, Data: 800}) {
		b := start(t, c)
		if n, m := b.s.Free(); n != c.Files || m != c.Data || len(b.s.List()) > 0 {
			t.Errorf("%+v: %v, %d, %d", c, b.s.List(), n, m)
		}
	}
}

// Two stores are open on one disk: what one did the other one tells that is opened behind it.
func TestOpenAgain(t *testing.T) {
	b := start(t, little())
	b.does(api.OK, put("a", 300, 1), put("b", 0, 2))
	b.open()
	b.does(api.OK, put("a", 3, 3), put("c", 600, 4), gone("b"))
	b.open()
	b.does(api.OK, gone("a"), gone("c"), put("d", 1, 5))
	b.open()
	b.d.Crash(nil)
	b.open()
}

// A disk is parted otherwise than the store that was on it: its files' sectors are others.
func TestOpenOfAnotherConfig(t *testing.T) {
	b := start(t, api.Config{Log: 9, Files: 3, Slots: 0, Data: 6})
	b.does(api.OK, put("a", 300, 1), put("b", 1, 2))
	opens(t, b.d, api.Config{Log: 8, Files: 4, Slots: 0, Data: 6}, api.OK, "a files' sector ahead, which is zero")
	opens(t, b.d, api.Config{Log: 9, Files: 2, Slots: 1, Data: 6}, api.OK, "a slot of an empty files' sector")
	opens(t, b.d, api.Config{Log: 9, Files: 4, Slots: 0, Data: 5}, api.ErrBad, "a files' sector that was data")
	opens(t, b.d, api.Config{Log: 9, Files: 1, Slots: 3, Data: 5}, api.OK, "bits of six are bits of five")
	b.agree()
}

// files are a disk by hand: what stands in the files' sectors, and data that nobody looks at when it is opened.
func files(sectors ...[]byte) [][]byte {
	all := slices.Repeat([][]byte{zero()}, 20)
	copy(all[littleNodes:], sectors)
	all[13] = full(size, 201)
	for i := littleData; i < 20; i++ {
		all[i] = full(size, i)
	}
	return all
}

// good are two files: a has the data sectors 0 and 3, b has 2.
func good() (a, b []byte) {
	return nodeSector("a", 300, 6, 0, 3), nodeSector("b", 256, 6, 2)
}

func TestOpenByHand(t *testing.T) {
	a, b := good()
	for _, sectors := range [][][]byte{{a, b}, {b, a}, {zero(), a, b}, {b, zero(), a}, {a, zero(), b}} {
		d := fresh(files(sectors...))
		s := opens(t, d, little(), api.OK, "two that share none")
		sameImage(t, d, files(sectors...), "opened")
		x, e := s.Read("a")
		y, f := s.Read("b")
		want := slices.Concat(full(size, littleData), full(size, littleData+3)[:44])
		if e != api.OK || f != api.OK || !bytes.Equal(x, want) || !bytes.Equal(y, full(size, littleData+2)) {
			t.Errorf("Read: %d %v, %d %v", e, x, f, y)
		}
		n, m := s.Free()
		if l := s.List(); !slices.Equal(l, []string{"a", "b"}) || n != 1 || m != 3 {
			t.Errorf("List, Free: %v, %d, %d", l, n, m)
		}
	}
	// What is the same but for one thing is got, too.
	for _, c := range [][]byte{nodeSector("c", 0, 6), nodeSector("c", 1, 6, 1), nodeSector("c", 769-256, 6, 1, 4, 5), nodeSector("0123456789abcdef", 768, 6, 1, 4, 5)} {
		opens(t, fresh(files(a, c, b)), little(), api.OK, "three that share none")
	}
}

// wrong asks that a files' sector is ErrBad at each of their places, beside good ones and alone, and that nothing is done.
func wrong(t *testing.T, sector []byte, tells string) {
	t.Helper()
	a, b := good()
	for _, sectors := range [][][]byte{{sector}, {zero(), sector}, {zero(), zero(), sector}, {sector, a, b}, {a, sector, b}, {b, a, sector}, {sector, sector, sector}} {
		d := fresh(files(sectors...))
		was := d.Acts()
		s, e := store.Open(d, little())
		if s != nil || e != api.ErrBad {
			t.Fatalf("%s: a store %t, error %d", tells, s != nil, e)
		}
		if d.Acts() != was {
			t.Fatalf("%s: %d acts", tells, d.Acts()-was)
		}
	}
}

func TestOpenOfSpoiltSectors(t *testing.T) {
	_, good := good()
	free := nodeSector("free", 700, 6, 1, 4, 5)
	for i := range size {
		for _, x := range []byte{1, 128, 255, byte(1 + i%254)} {
			one, other, none := bytes.Clone(free), bytes.Clone(good), zero()
			one[i] ^= x
			other[i] += x
			none[i] = x
			wrong(t, one, fmt.Sprint("byte ", i, " is another one"))
			wrong(t, other, fmt.Sprint("byte ", i, " is another one"))
			wrong(t, none, fmt.Sprint("byte ", i, " alone is not 0"))
		}
	}
	wrong(t, full(size, 3), "no sealed sector")
	wrong(t, bytes.Repeat([]byte{255}, size), "no sealed sector")
}

func TestOpenOfOtherKinds(t *testing.T) {
	body := node("c", 700, 6, 1, 4, 5)
	opens(t, fresh(files(sealed(3, body))), little(), api.OK, "the kind 3")
	for kind := range 256 {
		if kind != 3 {
			wrong(t, sealed(kind, body), fmt.Sprint("the kind ", kind))
			wrong(t, sealed(kind, nil), fmt.Sprint("the kind ", kind, ", no byte"))
		}
	}
}

func TestOpenOfNoInodes(t *testing.T) {
	body := node("c", 700, 6, 1, 4, 5)
	for i := range body {
		wrong(t, sealed(3, body[:i]), fmt.Sprint("cut off at ", i))
		wrong(t, sealed(3, slices.Delete(bytes.Clone(body), i, i+1)), fmt.Sprint("byte ", i, " is taken out"))
	}
	for tells, b := range map[string][]byte{
		"a byte behind": append(bytes.Clone(body), 0), "many behind": append(bytes.Clone(body), make([]byte, 200)...), "bits of eleven": node("c", 700, 11, 1, 4, 5),
		"too few sectors": node("c", 700, 6, 1, 4), "too many": node("c", 700, 6, 1, 3, 4, 5), "one for no byte": node("c", 0, 6, 1), "none for a byte": node("c", 1, 6),
		"a sector beyond": node("c", 700, 8, 1, 4, 6), "no name": node("", 700, 6, 1, 4, 5), "a great letter": node("C", 700, 6, 1, 4, 5), "a long name": node("0123456789abcdefg", 700, 6, 1, 4, 5),
		"a number with a 0 ahead": {1, 1, 99, 3, 0, 2, 188, 76}, "a greater size": node("c", 769, 6, 1, 4, 5), "a smaller size": node("c", 512, 6, 1, 4, 5), "too long": node("c", mostSize+1, 6, 1, 4, 5),
		"text": []byte("there is no inode here"), "zeros": make([]byte, 10),
	} {
		wrong(t, sealed(3, b), tells)
	}
	wrong(t, sealed(3, full(249, 1)), "as many bytes as may be")
}

func TestOpenOfTwoAlike(t *testing.T) {
	for _, l := range [][2][]byte{
		{nodeSector("c", 300, 6, 1, 4), nodeSector("c", 1, 6, 5)}, {nodeSector("c", 0, 6), nodeSector("c", 0, 6)}, {nodeSector("c", 0, 6), nodeSector("c", 256, 6, 5)}, // one name
		{nodeSector("c", 300, 6, 1, 4), nodeSector("d", 300, 6, 1, 5)}, {nodeSector("c", 300, 6, 1, 4), nodeSector("d", 300, 6, 4, 5)}, {nodeSector("c", 1, 6, 1), nodeSector("d", 2, 6, 1)}, // a data sector
		{nodeSector("c", 600, 6, 1, 4, 5), nodeSector("d", 600, 6, 1, 4, 5)}, {nodeSector("c", 300, 6, 4, 5), nodeSector("d", 300, 6, 1, 5)}, {nodeSector("c", 1536, 6, 0, 1, 2, 3, 4, 5), nodeSector("d", 1, 6, 0)},
		{nodeSector("c", 300, 6, 1, 4), nodeSector("c", 300, 6, 1, 4)}, // both
	} {
		for _, sectors := range [][][]byte{{l[0], l[1]}, {l[1], l[0]}, {l[0], zero(), l[1]}, {zero(), l[1], l[0]}, {l[0], l[1], nodeSector("e", 0, 6)}} {
			d := fresh(files(sectors...))
			opens(t, d, little(), api.ErrBad, "two alike")
			sameImage(t, d, files(sectors...), "two alike")
		}
		opens(t, fresh(files(l[0])), little(), api.OK, "the first one alone")
		opens(t, fresh(files(l[1])), little(), api.OK, "the second one alone")
	}
	// Unlike ones, the third of which shares with the first.
	opens(t, fresh(files(nodeSector("c", 300, 6, 1, 4), nodeSector("d", 300, 6, 0, 5), nodeSector("e", 300, 6, 2, 4))), little(), api.ErrBad, "the third")
	opens(t, fresh(files(nodeSector("c", 300, 6, 1, 4), nodeSector("d", 300, 6, 0, 5), nodeSector("c", 300, 6, 2, 3))), little(), api.ErrBad, "the third")
}

// logged lays a log by hand that is whole, of these sectors behind it.
func logged(all [][]byte, at []int, b ...[]byte) [][]byte {
	all = slices.Clone(all)
	var numbers []byte
	for _, i := range at {
		numbers = append(numbers, two(i)...)
	}
	rest := append([][]byte{sealed(2, numbers)}, b...)
	sum := sha256.Sum256(bytes.Join(rest, nil))
	all[0] = sealed(1, append(two(len(at)), sum[:]...))
	copy(all[1:], rest)
	return all
}

// changed is all with other sectors.
func changed(all [][]byte, at []int, b ...[]byte) [][]byte {
	all = slices.Clone(all)
	for k, i := range at {
		all[i] = b[k]
	}
	return all
}

// A log that is whole is done ahead of all that is read.
func TestOpenDoesTheLogFirst(t *testing.T) {
	a, b := good()
	for _, c := range []struct {
		ahead [][]byte
		at    []int
		b     [][]byte
		want  api.Errno
		names []string
	}{
		{files(a), []int{11, 16}, [][]byte{b, full(size, 99)}, api.OK, []string{"a", "b"}},
		{files(a, b), []int{10, 14, 17}, [][]byte{zero(), zero(), zero()}, api.OK, []string{"b"}},
		{files(a, full(size, 7)), []int{11}, [][]byte{b}, api.OK, []string{"a", "b"}},
		{files(a, a), []int{10}, [][]byte{zero()}, api.OK, []string{"a"}},
		{files(a, b), []int{12}, [][]byte{full(size, 7)}, api.ErrBad, nil},
		{files(a, b), []int{12}, [][]byte{b}, api.ErrBad, nil},
		{files(b), []int{12, 11}, [][]byte{nodeSector("c", 1, 6, 2), zero()}, api.ErrBad, nil},
	} {
		d := fresh(logged(c.ahead, c.at, c.b...))
		s := opens(t, d, little(), c.want, "with a log")
		sameImage(t, d, changed(c.ahead, c.at, c.b...), "with a log")
		if l := s.List(); !slices.Equal(l, c.names) {
			t.Errorf("List: %v, not %v", l, c.names)
		}
		was := d.Acts()
		opens(t, d, little(), c.want, "opened once more")
		if d.Acts() != was {
			t.Errorf("opened once more: %d acts", d.Acts()-was)
		}
	}
}

// A log that is not whole is made zero, and is not done.
func TestOpenOfSpoiltLogs(t *testing.T) {
	a, b := good()
	for i := range 3 {
		all := logged(files(a), []int{11}, b)
		all[i] = bytes.Clone(all[i])
		all[i][20] ^= 4
		d := fresh(all)
		s := opens(t, d, little(), api.OK, "a spoilt log")
		sameImage(t, d, files(a), "a spoilt log")
		if l := s.List(); !slices.Equal(l, []string{"a"}) {
			t.Errorf("List: %v", l)
		}
	}
}

// The power goes at each act of an Open; behind it, with any of what is pending, it is opened as if nothing had been.
func TestPowerGoesInOpen(t *testing.T) {
	a, b := good()
	all := logged(files(a, full(size, 7)), []int{11, 16}, b, full(size, 99))
	want := changed(files(a), []int{11, 16}, b, full(size, 99))
	for fuse := 0; ; fuse++ {
		d := fresh(all)
		d.Fuse(fuse)
		s, e := store.Open(d, little())
		if e == api.OK {
			if s == nil || fuse != 10 { // three writes with their Flushes are 3, 2 and 4 acts, behind which the files' sectors are read
				t.Errorf("OK behind %d acts", fuse)
			}
			sameImage(t, d, want, "opened")
			break
		}
		if s != nil || e != api.ErrDead || !d.Dead() {
			t.Fatalf("fuse %d: a store %t, error %d", fuse, s != nil, e)
		}
		for _, keep := range [][]bool{nil, {true}, {false, true}, {true, true, true, true}} {
			d := fresh(all)
			d.Fuse(fuse)
			store.Open(d, little())
			d.Crash(keep)
			opens(t, d, little(), api.OK, fmt.Sprint("behind fuse ", fuse))
			sameImage(t, d, want, fmt.Sprint("behind fuse ", fuse))
		}
	}
	d := fresh(files(a, full(size, 7)))
	d.Fuse(0)
	opens(t, d, little(), api.ErrDead, "dead, and a spoilt sector")
	d.Crash(nil)
	opens(t, d, little(), api.ErrBad, "a spoilt sector")
}
