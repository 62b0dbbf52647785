package store_test

import (
	"bytes"
	"hanaper/api"
	"hanaper/disk"
	"hanaper/store"
	"math/rand"
	"slices"
	"strings"
	"testing"
)

// P13.4: Read, List, Free; and stores that are none. (What is told behind each Do is asked by both.)

// A nil Store, and one that Open did not make.
func TestNoStore(t *testing.T) {
	opened, e := store.Open(nil, little())
	if opened != nil || e != api.ErrNil {
		t.Fatalf("Open: %v, error %d", opened, e)
	}
	for _, s := range []*store.Store{nil, {}, new(store.Store), opened} {
		for _, name := range []string{"", "a", "A", strings.Repeat("a", 17)} {
			if b, e := s.Read(name); b != nil || e != api.ErrNil {
				t.Errorf("Read(%q): %v, error %d", name, b, e)
			}
		}
		if l := s.List(); l != nil {
			t.Errorf("List: %v", l)
		}
		if n, m := s.Free(); n != 0 || m != 0 {
			t.Errorf("Free: %d, %d", n, m)
		}
		for _, l := range [][]api.File{nil, {put("a", 1, 1)}, {gone("a")}, {put("A", 1, 1)}, {put("a", 1, 1), put("a", 1, 1)}, {put("a", mostSize+1, 1)}} {
			if e := s.Do(l...); e != api.ErrNil {
				t.Errorf("Do of %s: error %d", short(l), e)
			}
			if e := s.Try(l...); e != api.ErrNil {
				t.Errorf("Try of %s: error %d", short(l), e)
			}
		}
	}
}

// What is there, and what is not.
func TestRead(t *testing.T) {
	b := start(t, little())
	for _, f := range []api.File{put("a", 300, 1), put("a", 0, 1), put("a", 512, 2), put("a", 1, 3), put("0123456789abcdef", 255, 4)} {
		b.does(api.OK, f)
		if x, e := b.s.Read(f.Name); e != api.OK || !bytes.Equal(x, f.B) {
			t.Errorf("Read(%q): %v, error %d", f.Name, x, e)
		}
	}
	b.does(api.OK, put("b", 0, 0))
	if x, e := b.s.Read("b"); e != api.OK || len(x) > 0 {
		t.Errorf("Read of no byte: %v, error %d", x, e)
	}
	for _, name := range []string{"", "c", "A", "aa", "ab", "0123456789abcde", "0123456789abcdefg", "a\x00", " a", "é", "\xff", strings.Repeat("a", 1<<16)} {
		if x, e := b.s.Read(name); x != nil || e != api.ErrNone {
			t.Errorf("Read(%q): %v, error %d", name[:min(20, len(name))], x, e)
		}
	}
	b.does(api.OK, gone("a"))
	if x, e := b.s.Read("a"); x != nil || e != api.ErrNone {
		t.Errorf("Read of what is gone: %v, error %d", x, e)
	}
	b.d.Fuse(0)
	if x, e := b.s.Read("0123456789abcdef"); x != nil || e != api.ErrDead {
		t.Errorf("Read of a dead disk: %v, error %d", x, e)
	}
	if x, e := b.s.Read("a"); x != nil || e != api.ErrNone {
		t.Errorf("Read of a dead disk of what is gone: %v, error %d", x, e)
	}
	b.lists()
	b.d.Crash(nil)
	b.agree()
}

// All files are there: each one is told, by its own bytes.
func TestReadOfMany(t *testing.T) {
	d := rand.New(rand.NewSource(134))
	b := start(t, api.Config{Log: 300, Files: 64, Slots: 4, Data: 200})
	for i, k := range d.Perm(64) {
		b.does(api.OK, put(string([]byte{"az09._-b"[k%8], "zyxwvuts"[k/8]}), d.Intn(800), i))
	}
	b.does(api.ErrFull, put("more", 0, 0))
	b.open()
}

// Names rise byte by byte: the hyphen and the point are below digits, these below the underscore, and this below letters; and a name is below those that it begins.
func TestListRises(t *testing.T) {
	rising := []string{"-", "--", "-a", ".", "..", ".a", "0", "00", "0a", "1", "10", "10a", "2", "9", "_", "_-", "_a", "a", "a-", "a.", "a0", "a10", "a2", "a_", "aa", "aaaaaaaaaaaaaaaa", "ab", "b", "z", "zz"}
	d := rand.New(rand.NewSource(135))
	for range 20 {
		b := start(t, api.Config{Log: 60, Files: 40, Slots: 0, Data: 40})
		var l []api.File
		for _, i := range d.Perm(len(rising)) {
			l = append(l, put(rising[i], d.Intn(2), i))
		}
		k := d.Intn(len(l))
		b.does(api.OK, l[:k]...)
		b.does(api.OK, l[k:]...)
		for range 3 {
			if got := b.s.List(); !slices.Equal(got, rising) {
				t.Fatalf("List: %q", got)
			}
			b.open()
		}
		b.does(api.OK, gone("a"), gone("-"), gone("zz"))
	}
}

// What is answered shares nothing with what is kept, nor with another answer. (That what is handed in is not kept is asked by both.)
func TestNothingIsShared(t *testing.T) {
	b := start(t, little())
	b.does(api.OK, put("a", 300, 1), put("b", 1, 2), put("c", 0, 3))
	for range 3 {
		for _, name := range b.s.List() {
			x, _ := b.s.Read(name)
			y, _ := b.s.Read(name)
			was := bytes.Clone(y)
			for i := range x {
				x[i] ^= 255
			}
			x = append(x, 77, 78)
			if !bytes.Equal(y, was) {
				t.Errorf("two answers of %q share memory", name)
			}
		}
		l, m := b.s.List(), b.s.List()
		clear(l)
		if !slices.Equal(m, b.r.names()) {
			t.Errorf("two lists share memory")
		}
		b.agree()
		b.open()
	}
}

// What is answered stays as it is, whatever is done behind it.
func TestAnswersStay(t *testing.T) {
	b := start(t, little())
	b.does(api.OK, put("a", 600, 1), put("b", 1, 2))
	x, _ := b.s.Read("a")
	l := b.s.List()
	b.does(api.OK, put("a", 600, 9), gone("b"))
	b.does(api.OK, gone("a"), put("c", 5, 5))
	if !bytes.Equal(x, full(600, 1)) || !slices.Equal(l, []string{"a", "b"}) {
		t.Errorf("what was answered turned: %v, %v", l, x)
	}
}

// Stores know nothing of each other: the answers hang on their own disk.
func TestTwoStores(t *testing.T) {
	a, b := start(t, little()), start(t, api.Config{Log: 12, Files: 2, Slots: 0, Data: 9})
	a.does(api.OK, put("a", 300, 1), put("x", 1, 1))
	b.does(api.OK, put("a", 100, 2))
	a.does(api.OK, gone("a"))
	a.agree()
	b.does(api.OK, put("b", 1500, 3))
	a.agree()
	a.d.Fuse(0)
	b.does(api.OK, gone("b"))
	d, _ := disk.New(20)
	s, _ := store.Open(d, little())
	if l := s.List(); len(l) > 0 {
		t.Errorf("List of a new one: %v", l)
	}
}
