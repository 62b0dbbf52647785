package store_test

import (
	"bytes"
	"fmt"
	"hanaper/api"
	"hanaper/disk"
	"hanaper/store"
	"math/rand"
	"slices"
	"strings"
	"testing"
)

// P13.3: Do and Try. (What both asks behind each Do is P13.4 and P13.6, too.)

func TestExample(t *testing.T) {
	c := api.Config{Log: 6, Files: 2, Slots: 0, Data: 4}
	d, _ := disk.New(13)
	s, e := store.Open(d, c)
	if e != api.OK || s.Do(put("a", 300, 1)) != api.OK {
		t.Fatal(e)
	}
	if n, m := s.Free(); n != 1 || m != 2 {
		t.Errorf("Free: %d, %d", n, m)
	}
}

// holds asks that just these sectors are not zero, and are these.
func holds(t *testing.T, d *disk.Disk, want map[int][]byte) {
	t.Helper()
	for i, s := range d.Image() {
		w := want[i]
		if w == nil {
			w = zero()
		}
		if !bytes.Equal(s, w) {
			t.Errorf("sector %d: %v, not %v", i, s, w)
		}
	}
}

// A store act by act, each sector as the document says.
func TestStoreByHand(t *testing.T) {
	c := api.Config{Log: 9, Files: 3, Slots: 1, Data: 6} // the files' sectors: 10 to 12; a slot: 13; data: 14 to 19
	b := start(t, c)
	slot, filled := full(size, 200), func(seed, from, n int) []byte {
		return append(full(from+n, seed)[from:], make([]byte, size-n)...)
	}
	b.does(api.OK, put("a", 300, 1), put("b", 1, 2))
	holds(t, b.d, map[int][]byte{
		10: sealed(3, []byte{1, 1, 97, 2, 1, 44, 192}), 11: sealed(3, []byte{1, 1, 98, 1, 1, 32}), 13: slot,
		14: filled(1, 0, 256), 15: filled(1, 256, 44), 16: filled(2, 0, 1),
	})
	b.does(api.OK, put("b", 256, 3), put("a", 256, 4), put("c", 257, 5)) // what a lets go is not free yet
	holds(t, b.d, map[int][]byte{
		10: sealed(3, []byte{1, 1, 97, 2, 1, 0, 128}), 11: sealed(3, []byte{1, 1, 98, 2, 1, 0, 32}), 12: sealed(3, []byte{1, 1, 99, 2, 1, 1, 24}), 13: slot,
		14: filled(4, 0, 256), 16: filled(3, 0, 256), 17: filled(5, 0, 256), 18: filled(5, 256, 1),
	})
	b.does(api.OK, put("c", 1000, 6)) // 15 and 19 are free: it has 15, 17, 18, 19 then
	holds(t, b.d, map[int][]byte{
		10: sealed(3, []byte{1, 1, 97, 2, 1, 0, 128}), 11: sealed(3, []byte{1, 1, 98, 2, 1, 0, 32}), 12: sealed(3, []byte{1, 1, 99, 2, 3, 232, 92}), 13: slot,
		14: filled(4, 0, 256), 16: filled(3, 0, 256), 15: filled(6, 0, 256), 17: filled(6, 256, 256), 18: filled(6, 512, 256), 19: filled(6, 768, 232),
	})
	b.does(api.OK, gone("a"), put("c", 0, 0))
	holds(t, b.d, map[int][]byte{
		11: sealed(3, []byte{1, 1, 98, 2, 1, 0, 32}), 12: sealed(3, []byte{1, 1, 99, 0, 0}), 13: slot, 16: filled(3, 0, 256),
	})
	b.does(api.OK, put("a", 2, 7), put("c", 513, 8)) // a again, in the first file's sector; it has 14, and c 15, 17, 18
	holds(t, b.d, map[int][]byte{
		10: sealed(3, []byte{1, 1, 97, 1, 2, 128}), 11: sealed(3, []byte{1, 1, 98, 2, 1, 0, 32}), 12: sealed(3, []byte{1, 1, 99, 2, 2, 1, 88}), 13: slot,
		14: filled(7, 0, 2), 16: filled(3, 0, 256), 15: filled(8, 0, 256), 17: filled(8, 256, 256), 18: filled(8, 512, 1),
	})
	b.does(api.OK, gone("c"), gone("b"), gone("a"))
	holds(t, b.d, map[int][]byte{13: slot})
}

// The first files' sector that is empty, where there are several, and where one is let go by the same Do.
func TestPlacesOfNewFiles(t *testing.T) {
	b := start(t, api.Config{Log: 20, Files: 6, Slots: 0, Data: 6})
	b.does(api.OK, put("a", 1, 1), put("b", 1, 2), put("c", 1, 3), put("d", 1, 4))
	b.does(api.OK, gone("a"), gone("c"))
	b.does(api.OK, put("z", 1, 5), gone("b"), put("y", 1, 6), put("x", 1, 7))
	for i, name := range []string{"z", "", "y", "d", "x", ""} {
		s, _ := b.d.Read(21 + i)
		if nought(s) != (name == "") || name != "" && string(s[5:6]) != name {
			t.Errorf("the files' sector %d: %v, not of %q", i, s[:12], name)
		}
	}
	b.does(api.OK, gone("z"), put("a", 1, 8), put("c", 1, 9))
	b.does(api.OK, put("b", 1, 10))
	b.does(api.ErrFull, put("e", 0, 0))
	b.open()
	b.does(api.ErrFull, put("e", 0, 0))
}

// Sizes at all edges, new, and from each one to each other one.
func TestSizes(t *testing.T) {
	c := api.Config{Log: 101, Files: 2, Slots: 2, Data: 100}
	sizes := []int{0, 1, 2, 255, 256, 257, 511, 512, 513, 3 * size, 95*size - 1, 95 * size, 95*size + 1, mostSize - 256, mostSize - 255, mostSize - 1, mostSize}
	for _, n := range sizes {
		b := start(t, c)
		b.does(api.OK, put("a", n, 1))
		b.does(api.ErrLong, put("a", mostSize+1, 2))
		b.does(api.OK, gone("a"))
		b.does(api.OK, put("a", n, 3))
		b.open()
		for _, m := range sizes {
			b.does(api.OK, put("a", m, m%100))
			b.does(api.OK, put("a", m, m%100))
			b.does(api.OK, put("a", m, m%100+1))
			b.does(api.OK, put("a", n, 4))
		}
	}
	for _, n := range []int{mostSize + 1, mostSize + 2, mostSize + 255, mostSize + 256, mostSize + 257, 2 * mostSize, 1 << 16, 1<<16 + 1, 1 << 20} {
		b := start(t, c)
		b.does(api.ErrLong, put("a", n, 1))
		b.does(api.OK, put("b", 5, 5))
		b.does(api.ErrLong, put("b", n, 1))
		b.does(api.ErrLong, put("b", 6, 6), put("a", n, 1))
	}
}

// Bytes 0 are bytes, too.
func TestZeroBytes(t *testing.T) {
	b := start(t, api.Config{Log: 20, Files: 3, Slots: 0, Data: 8})
	b.does(api.OK, api.File{Name: "a", B: make([]byte, 600)}, api.File{Name: "b", B: make([]byte, 1)}, api.File{Name: "c", B: []byte{}})
	b.open()
	b.does(api.OK, api.File{Name: "a", B: make([]byte, 100)}, api.File{Name: "b"})
	b.open()
	b.does(api.OK, gone("c"), api.File{Name: "a", Gone: true, B: []byte{}})
	b.open()
}

// Sectors that fall behind one another in a list are laid as they rise, and the bytes in them.
func TestGrowInGaps(t *testing.T) {
	for _, order := range [][]string{{"a", "b"}, {"b", "a"}} {
		b := start(t, api.Config{Log: 40, Files: 12, Slots: 0, Data: 12})
		for i := range 12 {
			b.does(api.OK, put(string(rune('a'+i)), 200, i))
		}
		b.does(api.OK, gone("c"), gone("e"), gone("g"), gone("i"), gone("k"))
		b.does(api.OK, put(order[0], 3*size, 50), put(order[1], 4*size-1, 51))
		b.does(api.ErrFull, put("l", size+1, 1))
		b.does(api.OK, put("a", size, 52), put("b", 2*size, 53))
		b.does(api.OK, put("l", 2*size, 54), put("a", size+1, 55), put("d", size+7, 56))
		b.open()
		b.does(api.OK, gone("b"), gone("h"), put("j", 2, 57))
		b.does(api.OK, put("j", 3*size+3, 58), put("new", 10, 59))
		b.open()
	}
}

// What a Do lets go is not free ahead of it: sectors, and files' sectors.
func TestFull(t *testing.T) {
	c := api.Config{Log: 30, Files: 3, Slots: 1, Data: 6}
	b := start(t, c)
	b.does(api.ErrFull, put("a", 6*size+1, 1))
	b.does(api.ErrFull, put("a", 3*size+1, 1), put("b", 2*size+1, 1))
	b.does(api.OK, put("a", 3*size, 1), put("b", 2*size+1, 2))
	b.does(api.ErrFull, gone("a"), put("c", 1, 3))
	b.does(api.ErrFull, put("c", 1, 3), gone("a"))
	b.does(api.ErrFull, put("a", 0, 1), put("b", 3*size+1, 3))
	b.does(api.ErrFull, put("b", 4*size, 3), put("a", 2*size, 1))
	b.does(api.OK, put("a", 2*size, 1), put("c", 0, 1))
	b.does(api.ErrFull, gone("c"), put("d", 0, 4))
	b.does(api.ErrFull, put("d", 0, 4), gone("c"), gone("b"), gone("a"))
	b.does(api.ErrFull, put("d", 1, 4), gone("b"))
	b.does(api.ErrFull, put("d", 2*size, 4), gone("b"))
	b.does(api.OK, put("b", 3*size+1, 4))
	b.does(api.ErrFull, put("c", 1, 4))
	b.does(api.OK, gone("c"))
	b.does(api.ErrFull, put("c", 1, 4))
	b.does(api.OK, put("c", 0, 4))
	b.does(api.OK, gone("a"), gone("b"))
	b.does(api.ErrFull, put("x", 0, 1), put("y", 0, 1), put("z", 0, 1))
	b.does(api.OK, put("x", 0, 1), put("y", 0, 1))
	b.does(api.ErrFull, put("c", 6*size, 1), put("x", 1, 1))
	b.does(api.OK, put("c", 6*size, 1), put("x", 0, 1))
	b.open()
}

// What is let go can't be given by the same Do, but what another file has let go ahead of it can.
func TestJustFull(t *testing.T) {
	for _, data := range []int{1, 2, 7, 8, 9, 40} {
		b := start(t, api.Config{Log: 60, Files: 4, Slots: 0, Data: data})
		b.does(api.ErrFull, put("a", data*size+1, 1))
		b.does(api.OK, put("a", data*size, 1))
		b.does(api.ErrFull, put("b", 1, 1), gone("a"))
		b.does(api.OK, put("b", 0, 1), gone("a"))
		b.does(api.ErrFull, put("b", (data-1)*size+1, 2), put("c", 1, 2))
		b.does(api.OK, put("b", (data-1)*size, 2), put("c", 1, 2))
		b.does(api.OK, put("b", 0, 3), put("c", 2, 2))
		b.does(api.OK, put("b", (data-1)*size, 3), put("c", 0, 2))
		b.open()
	}
	for _, files := range []int{1, 2, 63, 64} {
		b := start(t, api.Config{Log: 70, Files: files, Slots: 0, Data: 2})
		var l []api.File
		for i := range files {
			l = append(l, put(fmt.Sprint("f", i), 0, 0))
		}
		b.does(api.ErrFull, append(slices.Clone(l), put("g", 0, 0))...)
		b.does(api.OK, l...)
		b.does(api.ErrFull, put("g", 0, 0))
		b.does(api.ErrFull, put("g", 0, 0), gone("f0"))
		b.does(api.OK, gone("f0"))
		b.does(api.OK, put("g", 0, 0))
	}
}

// The cost: of a new one, one that grows, that shrinks, that stays, and of one that is gone; all together are just as many as there is room, and one more.
func TestMany(t *testing.T) {
	for _, log := range []int{2, 3, 8, 30, 60} {
		c, most := api.Config{Log: log, Files: 3, Slots: 1, Data: 300}, room(log)
		bytes := (most - 1) * size
		b := start(t, c)
		b.does(api.ErrMany, put("a", bytes+1, 1))
		b.does(api.OK, put("a", bytes, 1))
		b.does(api.OK, put("a", bytes, 2))
		b.does(api.ErrMany, put("a", bytes+1, 1))
		b.does(api.ErrMany, put("a", 0, 1), put("b", 0, 1))
		b.does(api.ErrMany, gone("a"), put("b", 0, 1))
		b.does(api.OK, put("a", 0, 1))
		b.does(api.OK, put("a", bytes, 1))
		b.does(api.OK, gone("a"))
		if most < 4 {
			continue
		}
		half := (most - 2) / 2
		b.does(api.OK, put("a", half*size, 1), put("b", (most-2-half)*size, 2))
		b.does(api.ErrMany, put("a", half*size+1, 1), put("b", (most-2-half)*size, 2))
		b.does(api.ErrMany, put("a", half*size, 1), put("b", (most-2-half)*size, 2), put("c", 0, 1))
		b.does(api.ErrMany, gone("a"), put("b", (most-2-half)*size+1, 2))
		b.does(api.OK, gone("a"), gone("b"))
	}
	b := start(t, api.Config{Log: 400, Files: 6, Slots: 1, Data: 600})
	b.does(api.OK, put("a", mostSize, 1), put("b", mostSize, 2), put("c", mostSize, 3), put("d", mostSize, 4), put("e", 7*size, 5)) // 4 * 97 + 8 = 396
	b.does(api.OK, put("a", 1, 1), put("b", size, 2), gone("c"), gone("d"), put("e", 7*size, 6))
	b.does(api.OK, put("a", mostSize, 1), put("b", mostSize-1, 2), put("c", mostSize, 3), put("d", mostSize-255, 4), put("e", 1, 5))
	b.does(api.ErrMany, gone("a"), gone("b"), gone("c"), gone("d"), put("e", 7*size+1, 5))
	b.does(api.ErrMany, gone("a"), gone("b"), gone("c"), gone("d"), put("e", 6*size+1, 5), put("f", 0, 6))
	b.does(api.OK, gone("a"), gone("b"), gone("c"), gone("d"), put("e", 6*size, 5), put("f", 0, 6))
	b.open()
}

// No files at all: nothing is done.
func TestNone(t *testing.T) {
	b := start(t, api.Config{Log: 6, Files: 2, Slots: 1, Data: 4})
	b.does(api.OK)
	b.does(api.OK, put("a", 300, 1))
	b.does(api.OK)
	if e := b.s.Do([]api.File{}...); e != api.OK {
		t.Errorf("Do of an empty list: error %d", e)
	}
	b.agree()
	b.open()
}

// Names that may be, and names that may not.
func TestNames(t *testing.T) {
	b := start(t, api.Config{Log: 30, Files: 8, Slots: 0, Data: 20})
	b.does(api.OK, put("a", 1, 1), put("0123456789abcdef", 2, 2), put(".", 3, 3), put("-_", 4, 4), put("................", 5, 5))
	for _, name := range []string{"", "A", "a/b", " a", "a ", "é", "\x00", "a\x00", "\xff", "0123456789abcdefg", strings.Repeat("a", 300), "`", "{"} {
		b.does(api.ErrArg, put(name, 1, 1))
		b.does(api.ErrArg, put("b", 1, 1), put(name, 0, 1))
		b.does(api.ErrArg, gone(name))
		b.does(api.ErrArg, put(name, mostSize+1, 1))
	}
	for c := range 256 {
		name := string([]byte{'x', byte(c)})
		if b.do(put(name, 1, c)) == api.OK {
			b.does(api.OK, gone(name))
		}
	}
	b.open()
}

// Two of one name, also where one is Gone; bytes for what is Gone; and what is Gone and is not there.
func TestWrongLists(t *testing.T) {
	b := start(t, api.Config{Log: 30, Files: 4, Slots: 0, Data: 20})
	b.does(api.OK, put("a", 300, 1), put("b", 2, 2))
	for _, name := range []string{"a", "c"} {
		for _, other := range []api.File{put("b", 3, 3), put("d", 0, 3), gone("b")} {
			for _, two := range [][2]api.File{{put(name, 1, 1), put(name, 1, 1)}, {put(name, 1, 1), put(name, 2, 2)}, {gone(name), put(name, 2, 2)}, {put(name, 2, 2), gone(name)}, {gone(name), gone(name)}} {
				b.does(api.ErrArg, two[0], two[1])
				b.does(api.ErrArg, two[0], other, two[1])
				b.does(api.ErrArg, other, two[0], two[1])
				b.does(api.ErrArg, two[0], two[1], other)
			}
		}
		b.does(api.ErrArg, api.File{Name: name, Gone: true, B: []byte{0}})
		b.does(api.ErrArg, put("b", 3, 3), api.File{Name: name, Gone: true, B: []byte("xyz")})
		b.does(api.ErrArg, api.File{Name: name, Gone: true, B: full(mostSize+1, 1)})
	}
	for _, name := range []string{"c", "aa", ".", "0123456789abcdef"} {
		b.does(api.ErrNone, gone(name))
		b.does(api.ErrNone, gone("a"), gone(name))
		b.does(api.ErrNone, put("b", 3, 3), gone(name), put("d", 1, 1))
	}
	b.does(api.OK, gone("a"))
	b.does(api.ErrNone, gone("a"))
	b.does(api.OK, put("a", 1, 1))
	b.does(api.OK, gone("a"))
	b.open()
	b.does(api.ErrNone, gone("a"))
}

// Faults, each set of them at once: the first one in the chapter's order is answered.
func TestSeveralErrors(t *testing.T) {
	faults := []struct {
		e api.Errno
		l []api.File
	}{
		{api.ErrArg, []api.File{put("A", 1, 1)}},
		{api.ErrArg, []api.File{put("e", 1, 1), put("e", 1, 1)}},
		{api.ErrArg, []api.File{{Name: "b", Gone: true, B: []byte("x")}}},
		{api.ErrLong, []api.File{put("f", mostSize+1, 1)}},
		{api.ErrNone, []api.File{gone("g")}},
		{api.ErrFull, []api.File{put("h", 0, 1), put("i", 0, 1), put("j", 0, 1)}},
		{api.ErrFull, []api.File{put("k", 12*size, 1)}},
		{api.ErrMany, []api.File{put("l", 8*size, 1)}},
	}
	b := start(t, api.Config{Log: 9, Files: 4, Slots: 1, Data: 13})
	b.does(api.OK, put("a", 1, 1), put("b", 1, 1))
	for set := 1; set < 1<<len(faults); set++ {
		l, back, first := []api.File{put("a", 2, 2)}, []api.File{put("a", 2, 2)}, api.OK
		for k, f := range faults {
			if set>>k&1 == 0 {
				continue
			}
			l, back = append(l, f.l...), slices.Concat(f.l, back)
			if first == api.OK {
				first = f.e
			}
		}
		b.does(first, l...)
		b.does(first, back...)
	}
	b.d.Fuse(3) // in the midst of it
	if e := b.s.Do(put("a", 5, 5)); e != api.ErrDead {
		t.Fatalf("Do: error %d", e)
	}
	for _, f := range faults {
		b.broken(f.l...)
	}
}

// broken asks that Do and Try are answered ErrDead, and that nothing is done.
func (b *both) broken(l ...api.File) {
	b.t.Helper()
	b.try(api.ErrDead, l...)
	was := b.d.Acts()
	if e := b.s.Do(l...); e != api.ErrDead || b.d.Acts() != was {
		b.fail("Do of "+short(l), e, api.ErrDead)
	}
}

// lists is what List and Free tell, held against the reckoning.
func (b *both) lists() {
	b.t.Helper()
	places, data := b.r.free()
	n, m := b.s.Free()
	if l := b.s.List(); !slices.Equal(l, b.r.names()) || n != len(places) || m != len(data) {
		b.fail("List, Free", fmt.Sprint(l, n, m), fmt.Sprint(b.r.names(), len(places), len(data)))
	}
}

// A dead disk: Try does not ask it, Do does, once nothing else is wrong; then the log is broken, also when there is power again.
func TestDeadDisk(t *testing.T) {
	c := api.Config{Log: 9, Files: 3, Slots: 1, Data: 8}
	for _, l := range [][]api.File{{put("a", 400, 2)}, {put("c", 1, 2)}, {gone("a")}, {put("c", 0, 0), gone("b"), put("a", 1, 1)}} {
		b := start(t, c)
		b.does(api.OK, put("a", 300, 1), put("b", 0, 1))
		b.d.Fuse(0)
		b.try(api.OK, l...)
		b.try(api.OK)
		for _, f := range []struct {
			e api.Errno
			l []api.File
		}{{api.OK, nil}, {api.ErrArg, []api.File{put("A", 1, 1)}}, {api.ErrLong, []api.File{put("a", mostSize+1, 1)}}, {api.ErrNone, []api.File{gone("c")}}, {api.ErrFull, []api.File{put("a", 9*size, 1)}}, {api.ErrMany, []api.File{put("a", 8*size, 1)}}} {
			b.try(f.e, f.l...)
			if e := b.s.Do(f.l...); e != f.e {
				b.fail("Do of "+short(f.l), e, f.e)
			}
		}
		if e := b.s.Do(l...); e != api.ErrDead {
			b.fail("Do of "+short(l), e, api.ErrDead)
		}
		b.lists()
		b.broken()
		b.broken(l...)
		b.broken(put("A", 1, 1))
		if x, e := b.s.Read("a"); e != api.ErrDead || x != nil {
			b.fail("Read", fmt.Sprint(x, e), "none, ErrDead")
		}
		if x, e := b.s.Read("c"); e != api.ErrNone || x != nil {
			b.fail("Read of what is not there", fmt.Sprint(x, e), "none, ErrNone")
		}
		b.d.Crash(nil)
		b.broken()
		b.broken(l...)
		b.agree() // it was done not at all
		b.open()
		b.does(api.OK, l...)
	}
}

// The power goes at an act of a Do that is in the midst of it, or at the last one, which is done.
func TestPowerGoes(t *testing.T) {
	c := api.Config{Log: 9, Files: 3, Slots: 1, Data: 8}
	l := []api.File{put("c", 0, 0), gone("b"), put("a", 1, 1)}
	for fuse := 0; ; fuse++ {
		b := start(t, c)
		b.does(api.OK, put("a", 300, 1), put("b", 1, 1))
		was := b.d.Acts()
		b.d.Fuse(fuse)
		e := b.s.Do(l...)
		if e != api.OK && e != api.ErrDead || b.d.Acts()-was != fuse {
			b.fail(fmt.Sprint("Do with fuse ", fuse), fmt.Sprint(e, b.d.Acts()-was), "OK or ErrDead, and all these acts")
		}
		if e == api.OK {
			if fuse < 10 || !b.d.Dead() {
				b.fail("acts of a Do", fuse, "more")
			}
			b.r.do(l)
			b.lists()
			b.try(api.OK, put("a", 2, 2))
			b.d.Crash(nil)
			b.agree()
			b.does(api.OK, put("a", 2, 2))
			return
		}
		b.lists()
		b.broken(put("a", 2, 2))
	}
}

// thrownConfigs are configs: a small log, few files' sectors, few data sectors, and one of much room.
func thrownConfigs() []api.Config {
	return []api.Config{
		{Log: 9, Files: 6, Slots: 2, Data: 40}, {Log: 40, Files: 2, Slots: 0, Data: 40}, {Log: 40, Files: 6, Slots: 1, Data: 8},
		{Log: 60, Files: 8, Slots: 16, Data: 60}, {Log: 2, Files: 1, Slots: 0, Data: 1}, {Log: 12, Files: 4, Slots: 3, Data: 9}, {Log: 3, Files: 3, Slots: 0, Data: 3},
	}
}

// Thrown lists against the reckoning, time by time, and opened anew now and then.
func TestThrownLists(t *testing.T) {
	d := rand.New(rand.NewSource(132))
	count := map[api.Errno]int{}
	for _, c := range thrownConfigs() {
		for range 8 {
			b := start(t, c)
			names, most := 2+d.Intn(7), 1+d.Intn(10)
			for range 150 {
				count[b.do(thrownList(d, b.r, names, most)...)]++
				if d.Intn(20) == 0 {
					b.open()
				}
			}
		}
	}
	for _, e := range []api.Errno{api.OK, api.ErrArg, api.ErrLong, api.ErrNone, api.ErrFull, api.ErrMany} {
		if count[e] < 50 {
			t.Errorf("error %d was answered %d times", e, count[e])
		}
	}
}

// The same on the greatest disks, with files of up to the most bytes.
func TestThrownGreatLists(t *testing.T) {
	d := rand.New(rand.NewSource(133))
	for _, c := range []api.Config{{Log: 400, Files: 8, Slots: 2, Data: 600}, {Log: 143, Files: 64, Slots: 16, Data: 800}, {Log: 122, Files: 30, Slots: 0, Data: 500}} {
		b := start(t, c)
		for range 60 {
			b.do(thrownList(d, b.r, 9, 96)...)
		}
		b.open()
	}
}

// All short rows of what may be done with two files on a disk that is soon full.
func TestAllShortRows(t *testing.T) {
	var steps [][]api.File
	one := func(name string) []api.File {
		return []api.File{put(name, 0, 1), put(name, 200, 2), put(name, 300, 3), put(name, 600, 4), gone(name)}
	}
	for _, f := range one("a") {
		steps = append(steps, []api.File{f})
		for _, g := range one("b") {
			steps = append(steps, []api.File{f, g}, []api.File{g, f})
		}
	}
	c := api.Config{Log: 10, Files: 2, Slots: 0, Data: 4}
	for i, first := range steps {
		for k, second := range steps {
			b := start(t, c)
			b.do(first...)
			b.do(second...)
			b.do(steps[(i*7+k*5)%len(steps)]...)
			b.do(steps[(i*3+k)%len(steps)]...)
			b.open()
		}
	}
}
