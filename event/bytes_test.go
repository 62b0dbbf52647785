package event_test

import (
	"bytes"
	"hanaper/api"
	"hanaper/event"
	"slices"
	"strings"
	"testing"
)

// P23.1, Put, and what is got of it.

func TestPutByHand(t *testing.T) {
	mayTo(t, ev(evPurge, 5, "r", ""), "5 purge r", 10, 1, 5, 1, 1, 114, 0) // the chapter's example
	mayTo(t, ev(evSchedule, 0, "", ""), "0 schedule", 1, 0, 0, 0)
	mayTo(t, ev(evCase, 1, "a", ""), "1 case a", 2, 1, 1, 1, 1, 97, 0)
	mayTo(t, ev(evCase, 1, "", "a"), "1 case a", 2, 1, 1, 0, 1, 1, 97)
	mayTo(t, ev(evSubject, 9, "s.1", ""), "9 subject s.1", 3, 1, 9, 1, 3, 115, 46, 49, 0)
	mayTo(t, ev(evIngest, 10, "r", "hr"), "10 ingest r hr", 4, 1, 10, 1, 1, 114, 1, 2, 104, 114)
	mayTo(t, ev(evMile, 255, "c-1", "m_0"), "255 mile c-1 m_0", 5, 1, 255, 1, 3, 99, 45, 49, 1, 3, 109, 95, 48)
	mayTo(t, ev(evReclass, 256, "r", "r"), "256 reclass r r", 6, 2, 1, 0, 1, 1, 114, 1, 1, 114)
	mayTo(t, ev(evHold, 65535, "h", ""), "65535 hold h", 7, 2, 255, 255, 1, 1, 104, 0)
	mayTo(t, ev(evRelease, 65536, "h", ""), "65536 release h", 8, 3, 1, 0, 0, 1, 1, 104, 0)
	mayTo(t, ev(evAmend, 1<<24-1, "h", ""), "16777215 amend h", 9, 3, 255, 255, 255, 1, 1, 104, 0)
	mayTo(t, ev(evErase, 1<<24, "", ""), "16777216 erase", 11, 4, 1, 0, 0, 0, 0, 0)
	mayTo(t, ev(evShred, 1<<32-1, "s", ""), "4294967295 shred s", 12, 4, 255, 255, 255, 255, 1, 1, 115, 0)
	mayTo(t, ev(evKeep, 1<<32, "r", ""), "4294967296 keep r", 13, 5, 1, 0, 0, 0, 0, 1, 1, 114, 0)
	mayTo(t, ev(evRedact, mostClock-1, "119", ""), "1099511627775 redact 119", 14, 5, 255, 255, 255, 255, 255, 1, 3, 49, 49, 57, 0)
	mayTo(t, ev(evRedact, mostClock, "0", ""), "1099511627776 redact 0", 14, 6, 1, 0, 0, 0, 0, 0, 1, 1, 48, 0)
	mayTo(t, ev(evMile, 0x123456789a, "", "z"), "78187493530 mile z", 5, 5, 0x12, 0x34, 0x56, 0x78, 0x9a, 0, 1, 1, 122)
}

// Names of each length, as A, as B, and as both.
func TestPutOfNamesLengths(t *testing.T) {
	for n := 1; n <= mostName; n++ {
		s := longName[:n]
		name := append([]byte{1, byte(n)}, s...)
		mayTo(t, ev(evCase, 0, s, ""), "0 case "+s, slices.Concat([]byte{2, 0}, name, []byte{0})...)
		mayTo(t, ev(evCase, 0, "", s), "0 case "+s, slices.Concat([]byte{2, 0, 0}, name)...)
		mayTo(t, ev(evCase, 0, s, "b"), "0 case "+s+" b", slices.Concat([]byte{2, 0}, name, []byte{1, 1, 98})...)
		mayTo(t, ev(evCase, 0, s, s), "0 case "+s+" "+s, slices.Concat([]byte{2, 0}, name, name)...)
	}
}

// P23.3: an event of the most bytes, and its neighbours.
func TestTheLongest(t *testing.T) {
	for kind := 1; kind <= mostKind; kind++ {
		name := append([]byte{1, 16}, longName...)
		b := slices.Concat([]byte{byte(kind), 6, 1, 0, 0, 0, 0, 0}, name, name)
		if len(b) != mostBytes {
			t.Fatalf("%d bytes", len(b))
		}
		mayTo(t, ev(kind, mostClock, longName, longName), "1099511627776 "+wordsOf()[kind-1]+" "+longName+" "+longName, b...)
		for i := range b {
			none(t, b[:i]...)
		}
		for v := range 256 {
			none(t, append(slices.Clone(b), byte(v))...)
		}
	}
}

// P23.1, Get.

func TestGetByHand(t *testing.T) {
	getTo(t, []byte{10, 1, 5, 1, 1, 114, 0}, ev(evPurge, 5, "r", ""), fine)
	getTo(t, []byte{1, 0, 0, 0}, ev(evSchedule, 0, "", ""), fine)
	getTo(t, []byte{14, 6, 1, 0, 0, 0, 0, 0, 0, 1, 1, 46}, ev(evRedact, mostClock, "", "."), fine)
	getTo(t, []byte{6, 2, 1, 0, 1, 2, 114, 49, 1, 2, 104, 114}, ev(evReclass, 256, "r1", "hr"), fine)
	none(t)
	if x, e := event.Get(nil); e != errText || x != (api.Event{}) {
		t.Errorf("Get of nil: %s, error %d", shown(x), e)
	}
	none(t, 10)
	none(t, 10, 0)
	none(t, 10, 0, 0)
	none(t, 10, 0, 0, 0, 0)
	none(t, 0, 0, 0, 0)
	none(t, 15, 0, 0, 0)
	none(t, 10, 6, 1, 0, 0, 0, 0, 1, 0, 0)
	none(t, 10, 1, 0, 0, 0)
	none(t, 10, 1, 5, 1, 1, 82, 0)
	none(t, 10, 1, 5, 0, 1, 1, 82)
	none(t, 10, 1, 5, 1, 2, 114, 0)
}

// Each byte as the kind.
func TestGetOfKinds(t *testing.T) {
	for v := range 256 {
		is := 1 <= v && v <= 14
		gets(t, told(byte(v), numOf(0), "", ""), is)
		gets(t, told(byte(v), numOf(5), "r", ""), is)
		gets(t, told(byte(v), numOf(mostClock), "r", "hr"), is)
		gets(t, []byte{byte(v)}, false)
		gets(t, []byte{1, byte(v), 5, 0, 0, 0}, v == 2) // of two bytes the tick is 1280; of one there is a byte too many
	}
}

// Ticks that may be; that are told in more bytes than are wanted; that are too great, also above 2^63 - 1; and as none can be told.
func TestGetOfTicks(t *testing.T) {
	for _, x := range []api.Event{ev(evPurge, 0, "", ""), ev(evMile, 0, "c", "m"), ev(evKeep, 0, "", longName)} {
		toldAs := func(tick ...byte) []byte { return told(byte(x.Kind), tick, x.A, x.B) }
		for _, tick := range ticks() {
			b := numOf(tick)
			gets(t, toldAs(b...), true)
			for k := 1; k+len(b)-1 <= 10; k++ {
				gets(t, toldAs(slices.Concat([]byte{byte(k + len(b) - 1)}, make([]byte, k), b[1:])...), false)
			}
		}
		for _, tick := range notTicks() {
			gets(t, toldAs(numOf(tick)...), false)
		}
		for n := 6; n <= 8; n++ {
			for v := 1; v < 256; v++ {
				b := append([]byte{byte(n), byte(v)}, make([]byte, n-1)...)
				gets(t, toldAs(b...), n == 6 && v == 1)
				b[n] = 5 // of the last byte alone it would be 5
				gets(t, toldAs(b...), false)
			}
		}
		for v := 9; v < 256; v++ { // no number has so many bytes
			gets(t, toldAs(append([]byte{byte(v)}, bytes.Repeat([]byte{1}, v)...)...), false)
			gets(t, toldAs(byte(v)), false)
		}
		gets(t, toldAs(1, 0), false)
		gets(t, toldAs(2, 0, 5), false)
		gets(t, toldAs(9, 0, 0, 0, 0, 0, 0, 0, 0, 5), false)
		gets(t, toldAs(8, 0, 0, 0, 0, 0, 0, 0, 5), false)
		gets(t, toldAs(), false) // A is read as the tick, and B as A
	}
}

// A name, told as each number of bytes, with so many bytes there as are; as A and as B.
func TestGetOfNamesLengths(t *testing.T) {
	long := strings.Repeat("a", 300)
	for n := range 300 {
		for k := range 40 {
			gets(t, slices.Concat([]byte{2, 0}, numOf(n), []byte(long[:k]), []byte{0}), n == k && n <= mostName)
			gets(t, slices.Concat([]byte{2, 0, 0}, numOf(n), []byte(long[:k])), n == k && n <= mostName)
		}
		gets(t, told(2, numOf(0), long[:n], ""), n <= mostName)
		gets(t, told(2, numOf(0), "", long[:n]), n <= mostName)
		gets(t, told(2, numOf(0), long[:n], long[:n]), n <= mostName)
	}
}

// How long a name is, told in more bytes than are wanted, as a very great number, or as none.
func TestGetOfNumbersAheadOfNames(t *testing.T) {
	for _, num := range [][]byte{
		{1, 0}, {2, 0, 0}, {2, 0, 1}, {3, 0, 0, 1}, {8, 0, 0, 0, 0, 0, 0, 0, 1}, {9, 0, 0, 0, 0, 0, 0, 0, 0, 1}, {1, 2}, {1, 17}, {1, 255}, {2, 1, 0}, {2, 1, 1}, {4, 0, 0, 0, 1}, {5, 1, 0, 0, 0, 1},
		{8, 1, 0, 0, 0, 0, 0, 0, 1}, {8, 127, 255, 255, 255, 255, 255, 255, 255}, {8, 128, 0, 0, 0, 0, 0, 0, 0}, {8, 128, 0, 0, 0, 0, 0, 0, 1}, {8, 255, 255, 255, 255, 255, 255, 255, 255}, {9, 1}, {16}, {17}, {97}, {255}, {},
	} {
		for _, name := range []string{"", "a", "aa", "aaa", longName, longName + longName} {
			is := name == "aa" && bytes.Equal(num, []byte{1, 2})
			gets(t, slices.Concat([]byte{2, 0}, num, []byte(name), []byte{0}), is)
			gets(t, slices.Concat([]byte{2, 0, 0}, num, []byte(name)), is)
			gets(t, slices.Concat([]byte{2, 1, 7}, num, []byte(name), []byte{1, 1, 98}), is)
			gets(t, slices.Concat([]byte{2, 1, 7, 1, 1, 98}, num, []byte(name)), is)
		}
	}
}

// Names that may be, and that may be none, with their right lengths.
func TestGetOfNames(t *testing.T) {
	for _, name := range names() {
		gets(t, told(2, numOf(3), name, ""), true)
		gets(t, told(2, numOf(3), "", name), true)
		gets(t, told(2, numOf(3), name, "a"), true)
	}
	for _, name := range notNames() {
		for _, other := range []string{"", "a", "A"} {
			gets(t, told(2, numOf(3), name, other), false)
			gets(t, told(2, numOf(3), other, name), false)
		}
	}
	for v := range 256 {
		is := strings.Contains(inName, string([]byte{byte(v)}))
		for _, b := range [][]byte{{2, 0, 1, 1, byte(v), 0}, {2, 0, 0, 1, 1, byte(v)}, {10, 1, 5, 1, 2, 97, byte(v), 0}, {10, 1, 5, 1, 3, byte(v), 97, 97, 1, 1, 98}, {10, 1, 5, 0, 1, 3, 97, byte(v), 97}} {
			gets(t, b, is)
		}
	}
}

// some are events that may be: of each kind, with names and without, of many ticks.
func some() []api.Event {
	l := []api.Event{
		ev(evMile, mostClock, longName, longName), ev(evMile, mostClock, longName, ""), ev(evMile, mostClock, "", longName), ev(evPurge, mostClock-1, "", ""),
		ev(evErase, 1<<16, "a.b-c_1", "0"), ev(evShred, 255, "\x31\x31", "\x31"), ev(evRedact, 1, "11", ""), ev(evHold, 256, "1", "1"),
	}
	for kind := 1; kind <= mostKind; kind++ {
		l = append(l, ev(kind, kind-1, "", ""), ev(kind, 5, "r", ""), ev(kind, 300, "", "hr"), ev(kind, 1<<33, "r", "hr"))
	}
	return l
}

// Cut off at each place, with bytes more at the end and at each place, and with one left out.
func TestGetOfOtherLengths(t *testing.T) {
	for _, x := range some() {
		b := bytesOf(x)
		getTo(t, b, x, fine)
		for i := range b {
			none(t, b[:i]...)
			get(t, b[i+1:])
			get(t, slices.Delete(slices.Clone(b), i, i+1))
			for v := range 256 {
				get(t, slices.Insert(slices.Clone(b), i, byte(v)))
			}
		}
		for v := range 256 {
			none(t, append(slices.Clone(b), byte(v))...)
		}
		none(t, slices.Concat(b, b)...)
		none(t, slices.Concat(b, make([]byte, 300))...)
	}
}

// Each byte as each other one.
func TestGetOfEachByteChanged(t *testing.T) {
	count := map[bool]int{}
	for _, x := range some() {
		b := bytesOf(x)
		for i := range b {
			for v := range 256 {
				c := slices.Clone(b)
				c[i] = byte(v)
				count[get(t, c)]++
			}
		}
	}
	if count[true] < 10000 || count[false] < 50000 {
		t.Errorf("bytes that are an event, and not: %v", count)
	}
}

// All rows of a few bytes, up to seven of them.
func TestGetOfAllShortBytes(t *testing.T) {
	letters := []byte{0, 1, 2, 14, 15, 97}
	count := 0
	rows := [][]byte{nil}
	for range 7 {
		var next [][]byte
		for _, row := range rows {
			for _, v := range letters {
				b := append(slices.Clone(row), v)
				next = append(next, b)
				if _, is := readOf(b); is {
					gets(t, b, true)
					count++
				} else if x, e := event.Get(b); e != errText || x != (api.Event{}) {
					t.Errorf("Get(%v): %s, error %d", b, shown(x), e)
				}
			}
		}
		rows = next
	}
	if count < 50 {
		t.Errorf("only %d were events", count)
	}
}

// Very many bytes.
func TestGetOfMany(t *testing.T) {
	for v := range 256 {
		none(t, bytes.Repeat([]byte{byte(v)}, 3000)...)
	}
	for _, part := range [][]byte{{1}, {0}, {1, 0, 0, 0}, {10, 1, 5, 1, 1, 114, 0}, {2, 0, 1, 16}, {2, 0, 8, 127, 255, 255, 255, 255, 255, 255, 255}} {
		for _, n := range []int{100, 1 << 16, 1 << 20} {
			if x, e := event.Get(bytes.Repeat(part, n)); e != errText || x != (api.Event{}) {
				t.Errorf("Get of %v, %d times: %s, error %d", part, n, shown(x), e)
			}
		}
	}
}

// Rules that hold everywhere, 3.

func TestPutShareNothing(t *testing.T) {
	want := []byte{6, 2, 1, 44, 1, 1, 114, 1, 2, 104, 114}
	x := ev(evReclass, 300, "r", "hr")
	a, _ := event.Put(x)
	b, _ := event.Put(x)
	a = a[:cap(a)]
	for i := range a {
		a[i] = 7
	}
	if !bytes.Equal(b, want) {
		t.Errorf("two answers of Put share their bytes: %v", b)
	}
	if c, _ := event.Put(x); !bytes.Equal(c, want) {
		t.Errorf("an answer of Put is kept: %v", c)
	}
	mayTo(t, x, "300 reclass r hr", want...)
}

func TestGotShareNothing(t *testing.T) {
	for _, want := range some() {
		b := bytesOf(want)
		x, _ := event.Get(b)
		for i := range b {
			b[i] = 'z'
		}
		if x != want {
			t.Errorf("what was got turns with what was handed in: %s, not %s", shown(x), shown(want))
		}
	}
}
