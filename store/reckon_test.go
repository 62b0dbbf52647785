package store_test

import (
	"bytes"
	"fmt"
	"hanaper/api"
	"hanaper/disk"
	"hanaper/store"
	"math/rand"
	"slices"
	"strings"
	"testing"
)

// What the tests of all promises stand on: files in a list, and all sectors of their disk, by a reckoning of the tests' own.

const (
	size     = 256
	mostSize = 96 * size // bytes of a file
	perList  = 120       // patches of a list sector of the log
	p        = 8191
)

// full is n bytes that hang on seed; none of them is 0.
func full(n, seed int) []byte {
	b := make([]byte, n)
	for i := range b {
		b[i] = byte(1 + (seed*13+i*i*5+i*31+i>>8)%255)
	}
	return b
}

func zero() []byte { return make([]byte, size) }

func nought(b []byte) bool { return bytes.Equal(b, zero()) }

// two is n as two bytes.
func two(n int) []byte { return []byte{byte(n / 256), byte(n % 256)} }

// sealed is a sealed sector, with a mark of the tests' own reckoning.
func sealed(kind int, body []byte) []byte {
	s := slices.Concat([]byte{byte(kind)}, two(len(body)), body, make([]byte, 249-len(body)))
	re, im := 0, 0
	for _, v := range s {
		re, im = (4*re+p-im+int(v)+1)%p, (re+4*im)%p
	}
	return slices.Concat(s, two(re), two(im))
}

// number is n's bytes, without a 0 ahead, behind how many they are.
func number(n int) []byte {
	var b []byte
	for ; n > 0; n /= 256 {
		b = append([]byte{byte(n % 256)}, b...)
	}
	return append([]byte{byte(len(b))}, b...)
}

// node is the bytes of an inode, of n data sectors.
func node(name string, bytes, n int, at ...int) []byte {
	bits := make([]byte, (n+7)/8)
	for _, i := range at {
		bits[i/8] |= 128 >> (i % 8)
	}
	return slices.Concat(number(len(name)), []byte(name), number(bytes), bits)
}

// nodeSector is the file's sector of such an inode.
func nodeSector(name string, bytes, n int, at ...int) []byte {
	return sealed(3, node(name, bytes, n, at...))
}

// room is how many patches a log of n takes.
func room(n int) int {
	k := 0
	for k+1+k/perList+1 <= n {
		k++
	}
	return k
}

func put(name string, n, seed int) api.File { return api.File{Name: name, B: full(n, seed)} }

func gone(name string) api.File { return api.File{Name: name, Gone: true} }

// row is a file in the list.
type row struct {
	name string
	b    []byte
	at   []int
}

// reckoned is the files of a store, by their sectors: a row without a name is none.
type reckoned struct {
	c    api.Config
	rows []row
	slot [][]byte
}

func reckon(c api.Config) *reckoned {
	r := &reckoned{c: c, rows: make([]row, c.Files)}
	for range c.Slots {
		r.slot = append(r.slot, zero())
	}
	return r
}

// copied is r, of which what is done with the other one changes nothing.
func (r *reckoned) copied() *reckoned {
	return &reckoned{c: r.c, rows: slices.Clone(r.rows), slot: r.slot}
}

func pages(b []byte) int { return (len(b) + size - 1) / size }

func (r *reckoned) find(name string) int {
	return slices.IndexFunc(r.rows, func(x row) bool { return x.name != "" && x.name == name })
}

// has is the data sectors of a file that may be there.
func (r *reckoned) has(name string) []int {
	if i := r.find(name); i >= 0 {
		return r.rows[i].at
	}
	return nil
}

// free is the files' sectors that are empty, and the data sectors that no file has.
func (r *reckoned) free() (places, data []int) {
	used := map[int]bool{}
	for i, x := range r.rows {
		if x.name == "" {
			places = append(places, i)
		}
		for _, k := range x.at {
			used[k] = true
		}
	}
	for k := range r.c.Data {
		if !used[k] {
			data = append(data, k)
		}
	}
	return places, data
}

func nameMayBe(s string) bool {
	const signs = "abcdefghijklmnopqrstuvwxyz0123456789.-_"
	return len(s) >= 1 && len(s) <= 16 && strings.Trim(s, signs) == "" && !slices.ContainsFunc([]byte(s), func(c byte) bool { return strings.IndexByte(signs, c) < 0 })
}

// wants is what a Do of l is answered, as long as neither the log nor the disk has an error.
func (r *reckoned) wants(l []api.File) api.Errno {
	wrong, long, none, fresh, grown, cost := false, false, false, 0, 0, 0
	for i, f := range l {
		wrong = wrong || !nameMayBe(f.Name) || f.Gone && len(f.B) > 0
		for _, g := range l[:i] {
			wrong = wrong || g.Name == f.Name
		}
		long = long || len(f.B) > mostSize
		there, had, needs := r.find(f.Name) >= 0, len(r.has(f.Name)), pages(f.B)
		none = none || f.Gone && !there
		if !there {
			fresh++
		}
		if needs > had {
			grown += needs - had
		}
		cost += 1 + max(had, needs)
	}
	places, data := r.free()
	switch {
	case wrong:
		return api.ErrArg
	case long:
		return api.ErrLong
	case none:
		return api.ErrNone
	case fresh > len(places) || grown > len(data):
		return api.ErrFull
	case cost > room(r.c.Log):
		return api.ErrMany
	}
	return api.OK
}

// do does what is not refused.
func (r *reckoned) do(l []api.File) {
	places, data := r.free()
	for _, f := range l {
		i := r.find(f.Name)
		if f.Gone {
			r.rows[i] = row{}
			continue
		}
		if i < 0 {
			i, places = places[0], places[1:]
		}
		at := slices.Clone(r.rows[i].at)
		for len(at) < pages(f.B) {
			at, data = append(at, data[0]), data[1:]
		}
		at = at[:pages(f.B)]
		slices.Sort(at)
		r.rows[i] = row{name: f.Name, b: bytes.Clone(f.B), at: at}
	}
}

// image is all sectors.
func (r *reckoned) image() [][]byte {
	var all [][]byte
	for range 1 + r.c.Log {
		all = append(all, zero())
	}
	for _, x := range r.rows {
		if x.name == "" {
			all = append(all, zero())
		} else {
			all = append(all, nodeSector(x.name, len(x.b), r.c.Data, x.at...))
		}
	}
	all = append(all, r.slot...)
	from := len(all)
	for range r.c.Data {
		all = append(all, zero())
	}
	for _, x := range r.rows {
		for k, i := range x.at {
			copy(all[from+i], x.b[k*size:])
		}
	}
	return all
}

func (r *reckoned) names() []string {
	var l []string
	for _, x := range r.rows {
		if x.name != "" {
			l = append(l, x.name)
		}
	}
	slices.Sort(l)
	return l
}

// fresh is a disk of these sectors, all safe.
func fresh(sectors [][]byte) *disk.Disk {
	d, _ := disk.New(len(sectors))
	for i, s := range sectors {
		if !nought(s) {
			d.Write(i, s)
		}
	}
	d.Flush()
	return d
}

// both is a store, and its reckoning; what is done is done with both.
type both struct {
	t    *testing.T
	d    *disk.Disk
	s    *store.Store
	r    *reckoned
	told []string // what was done
}

// start is a store on a new disk, whose slots have bytes that nobody may touch.
func start(t *testing.T, c api.Config) *both {
	t.Helper()
	r := reckon(c)
	for i := range r.slot {
		r.slot[i] = full(size, 200+i)
	}
	return lay(t, r)
}

// lay is a store on a disk that has what r says.
func lay(t *testing.T, r *reckoned) *both {
	t.Helper()
	b := &both{t: t, d: fresh(r.image()), r: r, told: []string{fmt.Sprintf("%+v", r.c)}}
	b.open()
	return b
}

func (b *both) fail(what string, got, want any) {
	b.t.Helper()
	b.t.Fatalf("%s: %s: %v, not %v", strings.Join(b.told[max(0, len(b.told)-10):], "; "), what, got, want)
}

// open opens the store anew, which does nothing to the disk.
func (b *both) open() {
	b.t.Helper()
	b.told = append(b.told, "Open")
	was := b.d.Acts()
	s, e := store.Open(b.d, b.r.c)
	if e != api.OK || s == nil || b.d.Acts() != was {
		b.fail("Open", fmt.Sprint(s != nil, e, b.d.Acts()-was), "a store, OK, and no act")
	}
	b.s = s
	b.agree()
}

// agree holds all files, and all sectors, against the reckoning.
func (b *both) agree() {
	b.t.Helper()
	b.sameFiles()
	if n := b.d.Pending(); len(n) > 0 {
		b.fail("Pending", n, "none")
	}
	want := b.r.image()
	image := b.d.Image()
	for i, s := range image {
		if !bytes.Equal(s, want[i]) {
			b.fail(fmt.Sprint("sector ", i), s, want[i])
		}
	}
	if len(image) != len(want) {
		b.fail("sectors", len(image), len(want))
	}
}

// sameFiles holds what the store tells against the reckoning.
func (b *both) sameFiles() {
	b.t.Helper()
	if got, want := b.s.List(), b.r.names(); !slices.Equal(got, want) {
		b.fail("List", got, want)
	}
	places, data := b.r.free()
	if n, m := b.s.Free(); n != len(places) || m != len(data) {
		b.fail("Free", fmt.Sprint(n, m), fmt.Sprint(len(places), len(data)))
	}
	for _, x := range b.r.rows {
		if x.name == "" {
			continue
		}
		if got, e := b.s.Read(x.name); e != api.OK || !bytes.Equal(got, x.b) {
			b.fail("Read of "+x.name, fmt.Sprint(got, e), x.b)
		}
	}
	for _, name := range []string{"", "no", "A", "a/b", strings.Repeat("n", 17)} {
		if got, e := b.s.Read(name); e != api.ErrNone || got != nil {
			b.fail(fmt.Sprintf("Read of %q", name), fmt.Sprint(got, e), "none, ErrNone")
		}
	}
}

// short is l, to be told.
func short(l []api.File) string {
	var b strings.Builder
	for _, f := range l {
		if f.Gone {
			b.WriteString("-")
		}
		fmt.Fprintf(&b, "%q:%d ", f.Name, len(f.B))
	}
	return b.String()
}

// framed is l anew, its bytes with others about them; and all that memory.
func framed(l []api.File) (handed []api.File, memory [][]byte) {
	handed = slices.Clone(l)
	for i, f := range l {
		if f.B == nil {
			continue
		}
		whole := slices.Concat([]byte("<<"), f.B, []byte(">>>>"))
		memory = append(memory, whole)
		handed[i].B = whole[2 : 2+len(f.B)]
	}
	return append(handed, api.File{Name: "behind"})[:len(l)], memory
}

func sameHanded(a, b []api.File) bool {
	return slices.EqualFunc(a, b, func(x, y api.File) bool {
		return x.Name == y.Name && x.Gone == y.Gone && bytes.Equal(x.B, y.B) && (x.B == nil) == (y.B == nil)
	})
}

// try asks Try, which does nothing.
func (b *both) try(want api.Errno, l ...api.File) {
	b.t.Helper()
	was := b.d.Acts()
	for range 2 {
		if got := b.s.Try(l...); got != want || b.d.Acts() != was {
			b.fail("Try of "+short(l), fmt.Sprint(got, ", ", b.d.Acts()-was, " acts"), want)
		}
	}
}

// do does a Do, as long as there is power; behind it nothing that was handed in matters.
func (b *both) do(l ...api.File) api.Errno {
	b.t.Helper()
	b.told = append(b.told, short(l))
	want, acts := b.r.wants(l), b.d.Acts()
	b.try(want, l...)
	handed, memory := framed(l)
	was := slices.Clone(memory)
	for i, m := range memory {
		was[i] = bytes.Clone(m)
	}
	if got := b.s.Do(handed...); got != want {
		b.fail("Do", got, want)
	}
	if !sameHanded(handed, l) || handed[:len(l)+1][len(l)].Name != "behind" || !slices.EqualFunc(memory, was, bytes.Equal) {
		b.fail("what was handed in", short(handed), short(l))
	}
	for _, m := range memory {
		for k := range m {
			m[k] ^= 255
		}
	}
	clear(handed)
	if want == api.OK {
		b.r.do(l)
	}
	if (want != api.OK || len(l) == 0) && b.d.Acts() != acts {
		b.fail("acts", b.d.Acts()-acts, 0)
	}
	b.agree()
	return want
}

// does is do, of what the test says is answered.
func (b *both) does(want api.Errno, l ...api.File) {
	b.t.Helper()
	if got := b.do(l...); got != want {
		b.fail("the tests' own reckoning", got, want)
	}
}

// thrownSize is a size, often at the edges of sectors.
func thrownSize(d *rand.Rand, most int) int {
	switch d.Intn(4) {
	case 0:
		return 0
	case 1:
		return d.Intn(2 * size)
	}
	return max(0, d.Intn(most+1)*size+d.Intn(3)-1)
}

// thrownFile is a file of a few names: one that is there is gone more often than one that is not.
func thrownFile(d *rand.Rand, r *reckoned, names, most int) api.File {
	name := string(rune('a' + d.Intn(names)))
	if d.Intn(3) == 0 && (r.find(name) >= 0 || d.Intn(8) == 0) {
		return gone(name)
	}
	return put(name, thrownSize(d, most), d.Intn(250))
}

// thrownList is up to four files, seldom with two of one name.
func thrownList(d *rand.Rand, r *reckoned, names, most int) []api.File {
	var l []api.File
	for range d.Intn(5) {
		f := thrownFile(d, r, names, most)
		if d.Intn(20) == 0 || !slices.ContainsFunc(l, func(g api.File) bool { return g.Name == f.Name }) {
			l = append(l, f)
		}
	}
	if len(l) > 0 && d.Intn(30) == 0 {
		l[d.Intn(len(l))] = []api.File{{}, put("A", 1, 1), put("a b", 0, 1), {Name: "a", B: []byte("x"), Gone: true}, put("a", mostSize+1, 1), put("c", mostSize+size, 1), gone("zz")}[d.Intn(7)]
	}
	return l
}
