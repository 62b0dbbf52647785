package hold_test

import (
	"hanaper/api"
	"hanaper/hold"
	"hanaper/scope"
	"math"
	"math/rand"
	"slices"
	"strings"
	"testing"
)

// Against the tests' own reckoning: what is thrown, right and wrong.

// pick is one of l.
func pick[T any](d *rand.Rand, l ...T) T {
	return l[d.Intn(len(l))]
}

// thrownId is a name out of few, so that some stand twice, or out of many, or no name.
func thrownId(d *rand.Rand) string {
	switch d.Intn(16) {
	case 0:
		return pick(d, "", "A", "a b", "\x00", "\xff", "é", strings.Repeat("a", mostName+1))
	case 1, 2, 3:
		b := make([]byte, 1+d.Intn(mostName))
		for i := range b {
			b[i] = inName[d.Intn(len(inName))]
		}
		return string(b)
	}
	return pick(d, "a", "b", "c", "d", "e", "f", "g", "h", "i", "j", "k", "l", "m", "aa", "a.")
}

func thrownName(d *rand.Rand) string {
	return pick(d, "a", "a", "b", "hr", longName)
}

func thrownTick(d *rand.Rand) int {
	switch d.Intn(10) {
	case 0:
		return mostClock - d.Intn(3)
	case 1:
		return d.Intn(mostClock+1) >> d.Intn(40)
	}
	return d.Intn(20)
}

func thrownRec(d *rand.Rand) api.Rec {
	r := rec(thrownName(d), thrownName(d), thrownName(d), thrownTick(d))
	r.Id, r.State = thrownId(d), d.Intn(6)
	if d.Intn(20) == 0 {
		r.Case, r.Tick = "", pick(d, -1, math.MinInt, math.MaxInt)
	}
	return r
}

func thrownLeaf(d *rand.Rand) api.Scope {
	switch op := 1 + d.Intn(5); op {
	case opAll:
		return all()
	case opTime:
		from, to := thrownTick(d), thrownTick(d)
		return time(min(from, to), max(from, to))
	default:
		return api.Scope{Op: op, Name: thrownName(d)}
	}
}

// thrownScope is one of at most so many nodes, and at most so deep; it may be, if these are not beyond the limits.
func thrownScope(d *rand.Rand, nodes, deep int) api.Scope {
	if nodes < 2 || deep < 2 || d.Intn(4) == 0 {
		return thrownLeaf(d)
	}
	if nodes < 3 || d.Intn(3) == 0 {
		return not(thrownScope(d, nodes-1, deep-1))
	}
	x := api.Scope{Op: pick(d, opAnd, opOr)}
	for left := nodes - 1; left > 0 && (len(x.Kids) < 2 || d.Intn(3) > 0); {
		most := left
		if len(x.Kids) == 0 {
			most = left - 1 // one is left for the second kid
		}
		k := thrownScope(d, 1+d.Intn(most), deep-1)
		x.Kids = append(x.Kids, k)
		n, _ := sizeOf(k)
		left -= n
	}
	return x
}

// thrown is a scope that may be, or now and then one that is changed in a part, or beyond the limits.
func thrown(d *rand.Rand) api.Scope {
	switch d.Intn(10) {
	case 0:
		return odd(d, thrownScope(d, 9, 5))
	case 1:
		return thrownScope(d, mostNodes+20, mostDepth+4)
	}
	return thrownScope(d, 1+d.Intn(mostNodes), 1+d.Intn(mostDepth))
}

// odd is x, at one of its places something else.
func odd(d *rand.Rand, x api.Scope) api.Scope {
	x = ownScope(x)
	k := &x
	for len(k.Kids) > 0 && d.Intn(3) > 0 {
		k = &k.Kids[d.Intn(len(k.Kids))]
	}
	switch d.Intn(6) {
	case 0:
		k.Op = pick(d, 0, 9, -1, math.MinInt, math.MaxInt, 1+d.Intn(8))
	case 1:
		k.Name = pick(d, "", "A", "a", strings.Repeat("a", mostName+1))
	case 2:
		k.From = pick(d, -1, 0, 5, mostClock, mostClock+1, math.MinInt, math.MaxInt)
	case 3:
		k.To = pick(d, -1, 0, 5, mostClock, mostClock+1, math.MinInt, math.MaxInt)
	case 4:
		k.Kids = append(slices.Clone(k.Kids), thrownLeaf(d))
	case 5:
		k.Kids = k.Kids[:max(len(k.Kids)-1, 0)]
	}
	return x
}

// thrownList is of none to fifteen holds, whose Ids may stand twice.
func thrownList(d *rand.Rand) []api.Hold {
	var l []api.Hold
	for range d.Intn(16) {
		l = append(l, api.Hold{Id: thrownId(d), Scope: thrown(d), Active: d.Intn(3) > 0})
	}
	return l
}

// thrownAt is an Id that stands in l, or any.
func thrownAt(d *rand.Rand, l []api.Hold) string {
	if len(l) > 0 && d.Intn(2) == 0 {
		return pick(d, l...).Id
	}
	return thrownId(d)
}

func TestThrown(t *testing.T) {
	d := rand.New(rand.NewSource(221))
	count := map[string]map[api.Errno]int{"Place": {}, "Release": {}, "Amend": {}}
	held := map[bool]int{}
	for range 10000 {
		l := thrownList(d)
		count["Place"][place(t, l, thrownAt(d, l), thrown(d))]++
		count["Place"][place(t, l, thrownId(d), thrownLeaf(d))]++
		count["Release"][free(t, l, thrownAt(d, l))]++
		count["Amend"][amend(t, l, thrownAt(d, l), thrown(d))]++
		for range 2 {
			held[on(t, l, thrownRec(d)) > 0]++
		}
	}
	for _, e := range []api.Errno{fine, errArg, errThere, errMany} {
		if count["Place"][e] < 1000 {
			t.Errorf("Place, errors: %v", count["Place"])
		}
	}
	for _, e := range []api.Errno{fine, errArg, errNone, errState} {
		if count["Release"][e] < 500 || count["Amend"][e] < 500 {
			t.Errorf("Release and Amend, errors: %v", count)
		}
	}
	if held[true] < 5000 || held[false] < 2000 {
		t.Errorf("held and not: %v", held)
	}
}

// Rows of calls, each onto what the one ahead of it answered, as it is and as it is reckoned.
func TestThrownRows(t *testing.T) {
	d := rand.New(rand.NewSource(222))
	count := map[api.Errno]int{}
	full := 0
	for range 600 {
		var l, reckoned []api.Hold
		for range 60 {
			id, x := thrownAt(d, l), thrown(d)
			do, as := hold.Place, placed
			if which := d.Intn(8); which == 0 {
				do, as = release, func(l []api.Hold, id string, _ api.Scope) ([]api.Hold, api.Errno) { return released(l, id) }
			} else if which < 3 {
				do, as = hold.Amend, amended
			}
			next, e := do(l, id, x)
			want, err := as(reckoned, id, x)
			if e != err || shown(next) != shown(want) {
				t.Fatalf("onto %s: %s, error %d, not %s, error %d", short(shown(l)), short(shown(next)), e, short(shown(want)), err)
			}
			count[e]++
			if e == fine {
				l, reckoned = next, want
			}
			r := thrownRec(d)
			if ids := hold.On(l, r); !slices.Equal(ids, onOf(reckoned, r)) || hold.Held(l, r) != (len(ids) > 0) {
				t.Fatalf("On(%s, %+v): %q", short(shown(l)), r, ids)
			}
		}
		if len(l) == mostHolds {
			full++
		}
		if shown(l) != shown(reckoned) || !slices.EqualFunc(l, reckoned, func(a, b api.Hold) bool { return scope.Same(a.Scope, b.Scope) }) {
			t.Errorf("%s, not %s", short(shown(l)), short(shown(reckoned)))
		}
	}
	for _, e := range []api.Errno{fine, errArg, errThere, errMany, errNone, errState} {
		if count[e] < 300 {
			t.Errorf("errors: %v", count)
		}
	}
	if full < 300 {
		t.Errorf("%d rows of %d holds", full, mostHolds)
	}
}

// P22.3: what was held ahead of a Place is held behind it.
func TestPlaceFreesNone(t *testing.T) {
	d := rand.New(rand.NewSource(223))
	count, more := map[bool]int{}, 0
	for range 20000 {
		l, x := thrownList(d), thrown(d)
		behind, e := hold.Place(l, thrownId(d), x)
		if e != fine {
			continue
		}
		for range 3 {
			r := thrownRec(d)
			ahead, now := hold.On(l, r), hold.On(behind, r)
			if hold.Held(l, r) && !hold.Held(behind, r) || len(now) < len(ahead) || !slices.Equal(ahead, now[:len(ahead)]) {
				t.Errorf("%s: %q held %+v, and %q behind a Place of %+v", short(shown(l)), ahead, r, now, x)
			}
			if hold.Held(behind, r) != (hold.Held(l, r) || scope.Match(x, r)) {
				t.Errorf("%s: held of %+v behind a Place of %+v: %v", short(shown(l)), r, x, hold.Held(behind, r))
			}
			count[len(ahead) > 0]++
			more += len(now) - len(ahead)
		}
	}
	if count[true] < 3000 || count[false] < 3000 || more < 3000 {
		t.Errorf("held and not: %v, held by what was placed: %d", count, more)
	}
}

// P22.3: what is not held ahead of a Release is not held behind it; who is held by one hold alone is free once that is released, who is held by two is not.
func TestReleaseHoldsNone(t *testing.T) {
	d := rand.New(rand.NewSource(224))
	none, one, some := 0, 0, 0
	for range 30000 {
		l := thrownList(d)
		for i := range l { // each Id stands once
			l[i].Id = pick(d, "a", "b", "c") + string(inName[i])
		}
		if len(l) == 0 {
			continue
		}
		h := pick(d, l...)
		behind, e := hold.Release(l, h.Id)
		if (e == fine) != h.Active || !h.Active && e != errState {
			t.Fatalf("%s: of %s error %d", short(shown(l)), h.Id, e)
		}
		if e != fine {
			continue
		}
		for range 3 {
			r := thrownRec(d)
			ahead, now := hold.On(l, r), hold.On(behind, r)
			rest := slices.DeleteFunc(slices.Clone(ahead), func(s string) bool { return s == h.Id })
			if !slices.Equal(now, rest) || hold.Held(behind, r) != (len(rest) > 0) {
				t.Errorf("%s: %q held %+v, and %q behind a Release of %s", short(shown(l)), ahead, r, now, h.Id)
			}
			switch {
			case len(ahead) == 0:
				none++
			case len(rest) == 0:
				one++
			default:
				some++
			}
		}
	}
	if none < 3000 || one < 2000 || some < 3000 {
		t.Errorf("held by none: %d, by one alone: %d, by others: %d", none, one, some)
	}
}

// P22.3: one by one all holds of a record are released, in any order: it is free with the last one, not ahead of it.
func TestReleasedOneByOne(t *testing.T) {
	d := rand.New(rand.NewSource(225))
	count := 0
	for range 5000 {
		var l []api.Hold
		for _, id := range strings.Split("abcdefghijkl", "")[:d.Intn(13)] {
			l, _ = hold.Place(l, id, thrownScope(d, 6, 4))
		}
		r := thrownRec(d)
		ids := hold.On(l, r)
		d.Shuffle(len(ids), func(i, k int) { ids[i], ids[k] = ids[k], ids[i] })
		for _, id := range ids {
			if !hold.Held(l, r) {
				t.Fatalf("%s: free ahead of the last Release: %+v", short(shown(l)), r)
			}
			next, e := hold.Release(l, id)
			if e != fine {
				t.Fatalf("%s: Release of %s: error %d", short(shown(l)), id, e)
			}
			l = next
			count++
		}
		if hold.Held(l, r) || len(hold.On(l, r)) > 0 {
			t.Errorf("%s: held behind the last Release: %+v", short(shown(l)), r)
		}
	}
	if count < 5000 {
		t.Errorf("%d were released", count)
	}
}
