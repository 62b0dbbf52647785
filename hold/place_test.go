package hold_test

import (
	"hanaper/api"
	"hanaper/hold"
	"slices"
	"strconv"
	"testing"
)

// P22.1, Place.

func TestLimits(t *testing.T) {
	if api.MaxHolds != mostHolds || api.MaxName != mostName || api.MaxClock != mostClock || api.MaxNodes != mostNodes || api.MaxDepth != mostDepth {
		t.Error("the limits are other ones than the document's")
	}
	if api.OK != fine || api.ErrArg != errArg || api.ErrMany != errMany || api.ErrNone != errNone || api.ErrThere != errThere || api.ErrState != errState {
		t.Error("the errors are other ones than the document's")
	}
}

// The chapter's example.
func TestExample(t *testing.T) {
	l, e := hold.Place(nil, "a", all())
	if e != fine || !hold.Held(l, api.Rec{}) {
		t.Fatalf("%s, error %d", shown(l), e)
	}
	l, e = hold.Release(l, "a")
	if e != fine || hold.Held(l, api.Rec{}) || len(hold.On(l, api.Rec{})) > 0 {
		t.Errorf("%s, error %d", shown(l), e)
	}
}

func TestPlaceByHand(t *testing.T) {
	a, b, c := active("a", all()), past("b", not(ofCase("x"))), active("c", time(5, 9))
	placeTo(t, nil, "a", all(), []api.Hold{a}, fine)
	placeTo(t, []api.Hold{}, "c", time(5, 9), []api.Hold{c}, fine)
	placeTo(t, []api.Hold{a}, "c", time(5, 9), []api.Hold{a, c}, fine)
	placeTo(t, []api.Hold{b}, "a", all(), []api.Hold{b, a}, fine)
	placeTo(t, []api.Hold{c, b}, "a", all(), []api.Hold{c, b, a}, fine)
	placeTo(t, []api.Hold{a, b}, "a", time(5, 9), nil, errThere)
	placeTo(t, []api.Hold{a, b}, "b", time(5, 9), nil, errThere)
	placeTo(t, []api.Hold{a, b}, "A", time(5, 9), nil, errArg)
	placeTo(t, []api.Hold{a, b}, "c", time(9, 5), nil, errArg)
}

// A list of each length, up to eleven holds, and from twelve on.
func TestPlaceOntoMany(t *testing.T) {
	for n := range 40 {
		l := list(n)
		if n < 12 {
			placeTo(t, l, "z", ofSub("s"), append(list(n), active("z", ofSub("s"))), fine)
		} else {
			placeTo(t, l, "z", ofSub("s"), nil, errMany)
		}
		for i := range l { // those that are not active count too
			l[i].Active = false
		}
		if place(t, l, "z", all()) == fine != (n < 12) {
			t.Errorf("of %d", n)
		}
	}
	for _, n := range []int{255, 256, 268, 1 << 16, 1<<16 + 11} {
		placeTo(t, slices.Repeat([]api.Hold{active("a", all())}, n), "z", all(), nil, errMany)
	}
}

// One by one, from none on.
func TestPlaceOneByOne(t *testing.T) {
	var l []api.Hold
	for i, x := range fair()[:12] {
		want := append(slices.Clone(l), active("h"+strconv.Itoa(i), x))
		placeTo(t, l, "h"+strconv.Itoa(i), x, want, fine)
		l, _ = hold.Place(l, "h"+strconv.Itoa(i), x)
	}
	placeTo(t, l, "h12", all(), nil, errMany)
	for i := range l {
		placeTo(t, l, "h"+strconv.Itoa(i), all(), nil, errThere)
	}
}

func TestPlaceNames(t *testing.T) {
	for _, l := range [][]api.Hold{nil, list(3), list(11)} {
		for _, id := range names() {
			placeTo(t, l, id, ofCase("a"), append(slices.Clone(l), active(id, ofCase("a"))), fine)
		}
		for _, id := range notNames() {
			placeTo(t, l, id, ofCase("a"), nil, errArg)
		}
	}
}

func TestPlaceScopes(t *testing.T) {
	for _, l := range [][]api.Hold{nil, list(3), list(11)} {
		for _, x := range fair() {
			placeTo(t, l, "z", x, append(slices.Clone(l), active("z", x)), fine)
		}
		for _, x := range unfair() {
			placeTo(t, l, "z", x, nil, errArg)
		}
	}
}

// Against each hold of a list, active or not, and Ids that are nearly the same.
func TestPlaceThere(t *testing.T) {
	for n := range 14 {
		for i := range n {
			for _, is := range []bool{true, false} {
				l := list(n)
				l[i].Active = is
				placeTo(t, l, l[i].Id, all(), nil, errThere)
				placeTo(t, l, l[i].Id, l[i].Scope, nil, errThere)
				l[i].Scope = api.Scope{Op: 99}
				placeTo(t, l, l[i].Id, all(), nil, errThere)
			}
		}
	}
	near := []string{"", "A", "ab", "b", "aa", "a.", ".a", "a-", "a_", "a0", "a ", " a", "a\x00", "\x00", "c"}
	var l []api.Hold
	for i, id := range near {
		l = append(l[:min(i, 10)], active(id, all()))
		placeTo(t, l, "a", ofCase("x"), append(slices.Clone(l), active("a", ofCase("x"))), fine)
	}
	placeTo(t, []api.Hold{active(longName, all())}, longName[:15], all(), []api.Hold{active(longName, all()), active(longName[:15], all())}, fine)
	placeTo(t, []api.Hold{active(longName[:15], all())}, longName, all(), []api.Hold{active(longName[:15], all()), active(longName, all())}, fine)
}

// Which error goes ahead, where two are due, or more.
func TestPlaceErrorsInOrder(t *testing.T) {
	odd := active("A b", all()) // an Id that may be none
	for _, badId := range []bool{false, true} {
		for _, badScope := range []bool{false, true} {
			for _, there := range []bool{false, true} {
				for _, many := range []int{0, 5, 11, 12, 13, 100} {
					l, id, x, want := list(many), "z", all(), api.Errno(fine)
					if badId {
						id = odd.Id
					}
					if badScope {
						x = time(9, 5)
					}
					if there {
						l = slices.Insert(l, many/2, past(id, all()))
					}
					switch {
					case badId || badScope:
						want = errArg
					case there:
						want = errThere
					case len(l) >= 12:
						want = errMany
					}
					if e := place(t, l, id, x); e != want {
						t.Errorf("a bad Id: %v, a bad Scope: %v, there: %v, of %d: reckoned as error %d", badId, badScope, there, len(l), e)
					}
				}
			}
		}
	}
}

// oddHolds are such as Place does not make: each stays as it was handed in.
func oddHolds() []api.Hold {
	return []api.Hold{
		{}, active("", api.Scope{}), past("A b", ofCase("")), active("\xff", time(9, 5)), past("a", all()), active("a", all()), past("a", not()),
		active("b", and()), active("b", or(not(all(), all()), api.Scope{Op: 9, Name: "x", From: 5, To: -5, Kids: times(3, ofSub("é"))})),
		past("c", nots(60, all())), active("d", api.Scope{Op: opAll, Name: "a", From: 1, To: 2, Kids: times(2, all())}),
	}
}

func TestPlaceOntoOddHolds(t *testing.T) {
	odds := oddHolds()
	placeTo(t, odds, "z", all(), append(oddHolds(), active("z", all())), fine)
	placeTo(t, odds, "a", all(), nil, errThere)
	placeTo(t, odds, "b", all(), nil, errThere)
	for i, h := range odds {
		placeTo(t, odds[i:i+1], "z", all(), []api.Hold{h, active("z", all())}, fine)
		placeTo(t, []api.Hold{h, h, h}, "z", all(), []api.Hold{h, h, h, active("z", all())}, fine)
		place(t, odds, h.Id, all())
	}
}

// vast are scopes that are very deep, and very wide.
func vast() []api.Scope {
	deep := ofCase("a")
	for range 1 << 16 {
		deep = api.Scope{Op: opNot, Kids: []api.Scope{deep}}
	}
	return []api.Scope{deep, or(times(1<<16, ofCase("b"))...)}
}

func TestOfVastScopes(t *testing.T) {
	for _, x := range vast() {
		l := []api.Hold{active("a", x), active("b", all())}
		placed, e := hold.Place(l, "c", all())
		if e != fine || len(placed) != 3 || shown(placed[:2]) != shown(l) {
			t.Errorf("Place: error %d, %d holds", e, len(placed))
		}
		freed, e := hold.Release(l, "b")
		if e != fine || len(freed) != 2 || shown(freed[:1]) != shown(l[:1]) {
			t.Errorf("Release: error %d, %d holds", e, len(freed))
		}
		turned, e := hold.Amend(l, "a", all())
		if e != fine || shown(turned) != shown([]api.Hold{active("a", all()), active("b", all())}) {
			t.Errorf("Amend: error %d, %d holds", e, len(turned))
		}
		if l, e := hold.Place(l, "c", x); e != errArg || len(l) > 0 {
			t.Errorf("Place: error %d, %d holds", e, len(l))
		}
		if l, e := hold.Amend(l, "b", x); e != errArg || len(l) > 0 {
			t.Errorf("Amend: error %d, %d holds", e, len(l))
		}
		onTo(t, l[:1], api.Rec{Case: "b"}, onOf(l[:1], api.Rec{Case: "b"})...)
	}
}

// Two calls onto one list, one after the other, also where it has room.
func TestPlaceTwice(t *testing.T) {
	for n := range 12 {
		for room := range 4 {
			l := make([]api.Hold, n, n+room)
			copy(l, list(n))
			a, _ := hold.Place(l, "a", ofCase("a"))
			b, _ := hold.Place(l, "b", not(ofSub("b")))
			c, _ := hold.Place(l, "c", all())
			for _, x := range []struct {
				got []api.Hold
				as  api.Hold
			}{{a, active("a", ofCase("a"))}, {b, active("b", not(ofSub("b")))}, {c, active("c", all())}} {
				if want := append(list(n), x.as); shown(x.got) != shown(want) {
					t.Errorf("onto %d, with room for %d: %s, not %s", n, room, shown(x.got), shown(want))
				}
			}
			if shown(l) != shown(list(n)) || slices.ContainsFunc(l[n:n+room], func(h api.Hold) bool { return h.Id != "" || h.Active || h.Scope.Op != 0 }) {
				t.Errorf("the list turned: %s", whole(l))
			}
		}
	}
}

// What was answered is placed onto twice, and turned in.
func TestPlaceOntoAnAnswer(t *testing.T) {
	l, _ := hold.Place(nil, "a", ofCase("a"))
	for n := range 9 {
		want := shown(l)
		a, _ := hold.Place(l, "x", all())
		b, _ := hold.Place(l, "y", ofSub("b"))
		c, _ := hold.Release(l, "a")
		d, _ := hold.Amend(l, "a", ofClass("c"))
		if shown(l) != want || shown(a) != want+shown([]api.Hold{active("x", all())}) || shown(b) != want+shown([]api.Hold{active("y", ofSub("b"))}) {
			t.Errorf("%s: placed %s and %s", shown(l), shown(a), shown(b))
		}
		if shown(c) != shown(append([]api.Hold{past("a", ofCase("a"))}, l[1:]...)) || shown(d) != shown(append([]api.Hold{active("a", ofClass("c"))}, l[1:]...)) {
			t.Errorf("%s: released %s, amended %s", shown(l), shown(c), shown(d))
		}
		l, _ = hold.Place(l, "h"+strconv.Itoa(n), not(all()))
	}
}

// No two lists of one answer share memory, also if they did in what was handed in.
func TestPartsOfAnAnswerShareNothing(t *testing.T) {
	kids := append(make([]api.Scope, 0, 9), ofCase("a"), not(ofSub("b")))
	x := or(kids...)
	l := []api.Hold{active("a", x), past("b", x), active("c", and(x, x))}
	for name, do := range map[string]act{"Place": hold.Place, "Release": release, "Amend": hold.Amend} {
		id := "a"
		if name == "Place" {
			id = "d"
		}
		n := len(l) + 1
		for i := range n {
			got, e := do(l, id, x)
			if e != fine {
				t.Fatalf("%s: error %d", name, e)
			}
			if i >= len(got) {
				continue
			}
			rest := slices.Delete(slices.Clone(got), i, i+1)
			want := shown(rest)
			spoil(got[i : i+1 : i+1])
			if shown(rest) != want {
				t.Errorf("%s: the %d'th of the holds shares memory with others", name, i)
			}
		}
		got, _ := do(l, id, x)
		both := got[2].Scope.Kids
		want := shown([]api.Hold{active("x", both[1])})
		spoilScope(&both[0])
		if shown([]api.Hold{active("x", both[1])}) != want {
			t.Errorf("%s: two Kids share memory", name)
		}
	}
	if want := shown([]api.Hold{active("a", or(ofCase("a"), not(ofSub("b"))))}); shown(l[:1]) != want {
		t.Errorf("what was handed in turned: %s, not %s", shown(l[:1]), want)
	}
}
