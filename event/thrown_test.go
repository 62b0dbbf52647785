package event_test

import (
	"bytes"
	"hanaper/api"
	"hanaper/event"
	"math/rand"
	"slices"
	"testing"
)

// Against the tests' own reckoning: what is thrown, right and wrong.

// pick is one of l.
func pick[T any](d *rand.Rand, l ...T) T {
	return l[d.Intn(len(l))]
}

// thrownName is a name, or none.
func thrownName(d *rand.Rand) string {
	b := make([]byte, d.Intn(mostName+1))
	if d.Intn(4) == 0 {
		b = make([]byte, pick(d, 0, 1, mostName-1, mostName))
	}
	for i := range b {
		b[i] = inName[d.Intn(len(inName))]
	}
	return string(b)
}

func thrownTick(d *rand.Rand) int {
	switch d.Intn(8) {
	case 0:
		return mostClock
	case 1:
		return pick(d, ticks()...)
	}
	return d.Intn(mostClock+1) >> d.Intn(41)
}

// thrown is an event that may be.
func thrown(d *rand.Rand) api.Event {
	return ev(1+d.Intn(mostKind), thrownTick(d), thrownName(d), thrownName(d))
}

// odd is x, with one thing, or two, that may not be, or may.
func odd(d *rand.Rand, x api.Event) api.Event {
	for range 1 + d.Intn(2) {
		switch d.Intn(8) {
		case 0:
			x.Kind = pick(d, notKinds()...)
		case 1:
			x.Kind += d.Intn(9) - 4
		case 2:
			x.Tick = pick(d, notTicks()...)
		case 3:
			x.Tick = int(d.Uint64() >> d.Intn(40))
		case 4:
			x.A, x.B = x.B+thrownName(d), x.A
		case 5:
			x.A = pick(d, notNames()...)
		case 6:
			x.B = pick(d, notNames()...)
		case 7:
			b := []byte(x.B + "a")
			b[d.Intn(len(b))] = byte(d.Intn(256))
			x.B = string(b)
		}
	}
	return x
}

func TestThrownEvents(t *testing.T) {
	d := rand.New(rand.NewSource(231))
	count := map[bool]int{}
	for range 20000 {
		x := thrown(d)
		holds(t, x, true)
		count[held(t, odd(d, x))]++
	}
	if count[true] < 1000 || count[false] < 10000 {
		t.Errorf("may be and not: %v", count)
	}
}

// P23.3: what was put is got, and its bytes are 44 at most.
func TestThrownPutAndGot(t *testing.T) {
	d := rand.New(rand.NewSource(232))
	most := 0
	for range 100000 {
		x := thrown(d)
		b, e := event.Put(x)
		y, f := event.Get(b)
		if e != fine || f != fine || x != y || len(b) > mostBytes {
			t.Fatalf("%s, put as %v and got: %s, errors %d and %d", shown(x), b, shown(y), e, f)
		}
		most = max(most, len(b))
	}
	if most != mostBytes {
		t.Errorf("none had more than %d bytes", most)
	}
}

// Events that are unlike have unlike bytes.
func TestUnlikeBytes(t *testing.T) {
	seen := map[string]api.Event{}
	for kind := 1; kind <= mostKind; kind++ {
		for _, tick := range []int{0, 1, 5, 97, 255, 256, 257, 1 << 16, 1 << 24, 1 << 32, mostClock} {
			for _, a := range append(few(), "a", "aa", "0", "00", "1", "hrr") {
				for _, b := range append(few(), "a", "aa", "0", "00", "1", "hrr") {
					x := ev(kind, tick, a, b)
					put, _ := event.Put(x)
					if y, is := seen[string(put)]; is {
						t.Errorf("%s and %s: %v both", shown(x), shown(y), put)
					}
					seen[string(put)] = x
				}
			}
		}
	}
}

// Bytes of events, right, of such as may not be, and with one byte that is another one, less, or more; and thrown ones.
func TestThrownBytes(t *testing.T) {
	d := rand.New(rand.NewSource(233))
	count := map[bool]int{}
	for range 20000 {
		x := thrown(d)
		b := bytesOf(x)
		getTo(t, b, x, fine)
		i := d.Intn(len(b))
		c := slices.Clone(b)
		c[i] = byte(d.Intn(256))
		count[get(t, c)]++
		c[i] = b[i] ^ 1<<d.Intn(8)
		count[get(t, c)]++
		c[i] = pick(d, b...)
		count[get(t, c)]++
		count[get(t, slices.Delete(c, i, i+1))]++
		count[get(t, slices.Insert(slices.Clone(b), i, byte(d.Intn(20))))]++
		count[get(t, bytesOf(odd(d, x)))]++
		z := make([]byte, d.Intn(20))
		for i := range z {
			z[i] = byte(pick(d, 0, 0, 1, 1, 2, 10, 97, d.Intn(256)))
		}
		count[get(t, z)]++
		d.Read(z)
		count[get(t, z)]++
	}
	if count[true] < 10000 || count[false] < 50000 {
		t.Errorf("bytes that are an event, and not: %v", count)
	}
}

// What is read is what Put makes, and nothing else: whatever Get takes, Put makes again.
func TestWhatIsGotIsPut(t *testing.T) {
	d := rand.New(rand.NewSource(234))
	count := 0
	for range 200000 {
		b := []byte{byte(d.Intn(16))}
		for range 3 {
			n := d.Intn(4)
			b = append(b, byte(n))
			for range n {
				b = append(b, pick[byte](d, 0, 1, 2, 97, 98, 122))
			}
		}
		x, e := event.Get(b)
		if e != fine {
			continue
		}
		count++
		if again, e := event.Put(x); e != fine || !bytes.Equal(again, b) {
			t.Errorf("%v is got as %s, which is put as %v, error %d", b, shown(x), again, e)
		}
	}
	if count < 1000 {
		t.Errorf("only %d were events", count)
	}
}
