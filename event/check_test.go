package event_test

import (
	"hanaper/api"
	"hanaper/event"
	"math"
	"strings"
	"testing"
)

// P23.1, Check (and what Put, Text and Ends answer then).

func TestLimits(t *testing.T) {
	if api.MaxName != mostName || api.MaxClock != mostClock || api.OK != fine || api.ErrArg != errArg || api.ErrText != errText {
		t.Error("the limits, or the errors, are other ones than the document's")
	}
	for i, kind := range []int{
		api.EvSchedule, api.EvCase, api.EvSubject, api.EvIngest, api.EvMile, api.EvReclass, api.EvHold,
		api.EvRelease, api.EvAmend, api.EvPurge, api.EvErase, api.EvShred, api.EvKeep, api.EvRedact,
	} {
		if kind != i+1 {
			t.Errorf("the kind %s is %d", wordsOf()[i], kind)
		}
	}
}

// Each kind, and the numbers beside these, with each choice of what else may be.
func TestKinds(t *testing.T) {
	for _, tick := range []int{0, 5, mostClock} {
		for _, a := range few() {
			for _, b := range few() {
				for kind := 1; kind <= mostKind; kind++ {
					holds(t, ev(kind, tick, a, b), true)
				}
				for _, kind := range notKinds() {
					holds(t, ev(kind, tick, a, b), false)
				}
			}
		}
	}
	for kind := -600; kind <= 600; kind++ {
		holds(t, ev(kind, 7, "a", ""), 1 <= kind && kind <= 14)
	}
}

func TestTicks(t *testing.T) {
	for kind := 1; kind <= mostKind; kind++ {
		for _, tick := range ticks() {
			holds(t, ev(kind, tick, "", ""), true)
			holds(t, ev(kind, tick, "a", longName), true)
		}
		for _, tick := range notTicks() {
			holds(t, ev(kind, tick, "", ""), false)
			holds(t, ev(kind, tick, "a", longName), false)
			holds(t, ev(kind, tick, "", "b"), false)
		}
	}
	for tick := range 1000 {
		holds(t, ev(evMile, tick, "a", "b"), true)
		holds(t, ev(evMile, mostClock-tick, "a", "b"), true)
		holds(t, ev(evMile, mostClock+1+tick, "a", "b"), false)
		holds(t, ev(evMile, -1-tick, "a", "b"), false)
	}
}

// Names as A, as B, and as both; and such as are none, beside a name, beside none, and beside another one.
func TestNames(t *testing.T) {
	for kind := 1; kind <= mostKind; kind++ {
		for _, name := range names() {
			holds(t, ev(kind, 5, name, ""), true)
			holds(t, ev(kind, 5, "", name), true)
			holds(t, ev(kind, 5, name, name), true)
			holds(t, ev(kind, 5, "r", name), true)
			holds(t, ev(kind, 5, name, longName), true)
		}
	}
	for i, name := range notNames() {
		kind := i%mostKind + 1
		for _, other := range few() {
			holds(t, ev(kind, 5, name, other), false)
			holds(t, ev(kind, 5, other, name), false)
		}
		holds(t, ev(kind, 5, name, name), false)
		holds(t, ev(kind, 5, name, " "), false)
		holds(t, ev(evPurge, 0, name, ""), false)
		holds(t, ev(evErase, 0, "", name), false)
	}
	for n := range 300 {
		name := strings.Repeat("m", n)
		holds(t, ev(evCase, 1, name, ""), n <= mostName)
		holds(t, ev(evCase, 1, "", name), n <= mostName)
		holds(t, ev(evCase, 1, name, name), n <= mostName)
	}
}

// A byte that may not stand in a name, at each place of one of each length.
func TestStrangeBytesInNames(t *testing.T) {
	for n := 1; n <= mostName; n++ {
		for i := range n {
			for _, v := range []byte{0, ' ', '/', ':', '@', 'A', 'Z', '^', '`', '{', 127, 128, 255} {
				s := []byte(longName[:n])
				s[i] = v
				holds(t, ev(evHold, 5, string(s), ""), false)
				holds(t, ev(evHold, 5, "", string(s)), false)
				holds(t, ev(evHold, 5, "r", string(s)), false)
			}
		}
	}
}

// Kind, Tick, A and B, right and wrong, all with all.
func TestSeveralFaults(t *testing.T) {
	count := 0
	for _, kind := range []int{evSchedule, evPurge, evErase, evRedact, 0, 15, -1, 266, math.MinInt, math.MaxInt} {
		for _, tick := range []int{0, 9, mostClock, -1, mostClock + 1, math.MinInt, math.MaxInt} {
			for _, a := range []string{"", "r", longName, "R", longName + "r", "\x00"} {
				for _, b := range []string{"", "hr", longName, "h r", longName + longName, "é"} {
					if held(t, ev(kind, tick, a, b)) {
						count++
					}
				}
			}
		}
	}
	if count != 4*3*3*3 {
		t.Errorf("%d of them may be", count)
	}
	mayNot(t, api.Event{})
	mayNot(t, ev(0, 0, "r", ""))
	mayTo(t, ev(evSchedule, 0, "", ""), "0 schedule", 1, 0, 0, 0)
}

// The same is answered again, whatever was asked between.
func TestAgain(t *testing.T) {
	for range 3 {
		mayTo(t, ev(evPurge, 5, "r", ""), "5 purge r", 10, 1, 5, 1, 1, 114, 0)
		mayNot(t, ev(evPurge, 5, "R", ""))
		mayNot(t, ev(15, 5, "r", ""))
		none(t, 10, 1, 5, 1, 1, 82, 0)
		none(t, 15, 1, 5, 1, 1, 114, 0)
		mayTo(t, ev(evReclass, 300, "r", "hr"), "300 reclass r hr", 6, 2, 1, 44, 1, 1, 114, 1, 2, 104, 114)
		none(t)
		mayTo(t, ev(evPurge, 5, "", "r"), "5 purge r", 10, 1, 5, 0, 1, 1, 114)
		mayNot(t, ev(evPurge, mostClock+1, "r", ""))
	}
}

// Many thousand calls, one like the other.
func TestOften(t *testing.T) {
	x := ev(evErase, 5, "r", "")
	for i := range 100000 {
		b, e := event.Put(x)
		y, f := event.Get(b)
		if event.Check(x) != fine || e != fine || f != fine || x != y || event.Text(x) != "5 erase r" || !event.Ends(x) {
			t.Fatalf("the %d'th time: %v, errors %d and %d, %s, %q", i, b, e, f, shown(y), event.Text(x))
		}
	}
}
