package hold_test

import (
	"hanaper/api"
	"hanaper/hold"
	"slices"
	"testing"
)

// P22.1, Release and Amend.

func TestReleaseByHand(t *testing.T) {
	x, y := not(ofCase("x")), time(5, 9)
	a, b, c := active("a", all()), active("b", x), active("c", y)
	l := []api.Hold{a, b, c}
	releaseTo(t, []api.Hold{a}, "a", []api.Hold{past("a", all())}, fine)
	releaseTo(t, l, "a", []api.Hold{past("a", all()), b, c}, fine)
	releaseTo(t, l, "b", []api.Hold{a, past("b", x), c}, fine)
	releaseTo(t, l, "c", []api.Hold{a, b, past("c", y)}, fine)
	releaseTo(t, l, "d", nil, errNone)
	releaseTo(t, l, "", nil, errArg)
	releaseTo(t, l, "A", nil, errArg)
	releaseTo(t, nil, "a", nil, errNone)
	releaseTo(t, []api.Hold{}, "a", nil, errNone)
	releaseTo(t, []api.Hold{a, past("b", x), c}, "b", nil, errState)
}

func TestAmendByHand(t *testing.T) {
	x, y, z := not(ofCase("x")), time(5, 9), or(ofSub("z"), all())
	a, b, c := active("a", all()), active("b", x), active("c", y)
	l := []api.Hold{a, b, c}
	amendTo(t, []api.Hold{a}, "a", z, []api.Hold{active("a", z)}, fine)
	amendTo(t, l, "a", z, []api.Hold{active("a", z), b, c}, fine)
	amendTo(t, l, "b", z, []api.Hold{a, active("b", z), c}, fine)
	amendTo(t, l, "c", z, []api.Hold{a, b, active("c", z)}, fine)
	amendTo(t, l, "b", x, l, fine)
	amendTo(t, l, "d", z, nil, errNone)
	amendTo(t, l, "", z, nil, errArg)
	amendTo(t, l, "A", z, nil, errArg)
	amendTo(t, l, "b", time(9, 5), nil, errArg)
	amendTo(t, nil, "a", z, nil, errNone)
	amendTo(t, []api.Hold{}, "a", z, nil, errNone)
	amendTo(t, []api.Hold{a, past("b", x), c}, "b", z, nil, errState)
}

// Each hold of lists of all lengths, also of more holds than are placed: no other one turns.
func TestTurnEach(t *testing.T) {
	for n := range 16 {
		for i := range n {
			for others := range 3 {
				l := list(n)
				for k := range l {
					l[k].Active = k == i || others == 0 || others == 1 && k%2 == 0
				}
				freed, turned := own(l), own(l)
				freed[i].Active = false
				turned[i].Scope = and(ofCase("new"), not(all()))
				releaseTo(t, l, l[i].Id, freed, fine)
				amendTo(t, l, l[i].Id, and(ofCase("new"), not(all())), turned, fine)
				releaseTo(t, freed, l[i].Id, nil, errState)
				amendTo(t, freed, l[i].Id, all(), nil, errState)
				releaseTo(t, l, "h16", nil, errNone)
				amendTo(t, l, "h", all(), nil, errNone)
			}
		}
	}
}

func TestTurnNames(t *testing.T) {
	for _, l := range [][]api.Hold{nil, list(3), list(12)} {
		for _, id := range names() {
			with := append(slices.Clone(l), active(id, ofCase("a")))
			releaseTo(t, with, id, append(slices.Clone(l), past(id, ofCase("a"))), fine)
			amendTo(t, with, id, ofSub("b"), append(slices.Clone(l), active(id, ofSub("b"))), fine)
			releaseTo(t, l, id, nil, errNone)
			amendTo(t, l, id, ofSub("b"), nil, errNone)
		}
		for _, id := range notNames() { // also if there is a hold of that Id
			with := append(slices.Clone(l), active(id, ofCase("a")))
			releaseTo(t, with, id, nil, errArg)
			amendTo(t, with, id, ofSub("b"), nil, errArg)
			releaseTo(t, l, id, nil, errArg)
			amendTo(t, l, id, ofSub("b"), nil, errArg)
		}
	}
}

func TestTurnNearlyTheSameId(t *testing.T) {
	for _, near := range []string{"", "A", "ab", "b", "aa", "a.", ".a", "a-", "a_", "a0", "a ", " a", "a\x00", "\x00"} {
		l := []api.Hold{active(near, all())}
		releaseTo(t, l, "a", nil, errNone)
		amendTo(t, l, "a", all(), nil, errNone)
		l = append(l, active("a", ofCase("a")), past(near, all()))
		releaseTo(t, l, "a", []api.Hold{l[0], past("a", ofCase("a")), l[2]}, fine)
		amendTo(t, l, "a", ofSub("b"), []api.Hold{l[0], active("a", ofSub("b")), l[2]}, fine)
	}
}

func TestAmendScopes(t *testing.T) {
	for _, x := range fair() {
		for _, y := range fair() {
			amendTo(t, []api.Hold{active("a", y), past("b", y), active("c", y)}, "a", x, []api.Hold{active("a", x), past("b", y), active("c", y)}, fine)
			amendTo(t, []api.Hold{active("a", y), past("b", y), active("c", y)}, "c", x, []api.Hold{active("a", y), past("b", y), active("c", x)}, fine)
		}
		releaseTo(t, []api.Hold{active("a", x), active("b", x)}, "b", []api.Hold{active("a", x), past("b", x)}, fine)
	}
	for _, x := range unfair() {
		amendTo(t, []api.Hold{active("a", all()), active("b", x)}, "a", x, nil, errArg)
		amendTo(t, []api.Hold{active("a", all()), active("b", x)}, "b", x, nil, errArg)
		// A scope that may not be stands there as handed in, and is let go.
		amendTo(t, []api.Hold{active("a", x), active("b", x)}, "b", all(), []api.Hold{active("a", x), active("b", all())}, fine)
		releaseTo(t, []api.Hold{active("a", x), active("b", x)}, "b", []api.Hold{active("a", x), past("b", x)}, fine)
	}
}

// Several holds of one Id: the first one is asked, whatever the others are.
func TestTurnTheFirstOfSeveral(t *testing.T) {
	x, y := ofCase("x"), ofSub("y")
	a, gone, b := active("a", x), past("a", x), active("b", x)
	releaseTo(t, []api.Hold{a, gone}, "a", []api.Hold{gone, gone}, fine)
	releaseTo(t, []api.Hold{gone, a}, "a", nil, errState)
	releaseTo(t, []api.Hold{a, a}, "a", []api.Hold{gone, a}, fine)
	releaseTo(t, []api.Hold{b, a, b, a, a}, "a", []api.Hold{b, gone, b, a, a}, fine)
	releaseTo(t, []api.Hold{b, gone, b, a, a}, "a", nil, errState)
	amendTo(t, []api.Hold{a, gone}, "a", y, []api.Hold{active("a", y), gone}, fine)
	amendTo(t, []api.Hold{gone, a}, "a", y, nil, errState)
	amendTo(t, []api.Hold{a, a}, "a", y, []api.Hold{active("a", y), a}, fine)
	amendTo(t, []api.Hold{b, a, b, a, a}, "a", y, []api.Hold{b, active("a", y), b, a, a}, fine)
	// All lists of up to six holds of two Ids, active and not.
	kinds := []api.Hold{a, gone, b, past("b", x)}
	count := map[api.Errno]int{}
	rows := [][]api.Hold{nil}
	for range 6 {
		var next [][]api.Hold
		for _, row := range rows {
			for _, id := range []string{"a", "b"} {
				count[free(t, row, id)]++
				count[amend(t, row, id, y)]++
				count[place(t, row, id, y)]++
			}
			for _, h := range kinds {
				next = append(next, append(slices.Clone(row), h))
			}
		}
		rows = next
	}
	if count[fine] < 1000 || count[errState] < 1000 || count[errNone] < 50 || count[errThere] < 1000 {
		t.Errorf("errors: %v", count)
	}
}

// Which error goes ahead, where two are due, or more: ErrArg of ErrNone and of ErrState; of a hold that is not there nothing is asked.
func TestTurnErrorsInOrder(t *testing.T) {
	for _, badId := range []bool{false, true} {
		for _, badScope := range []bool{false, true} {
			for state := range 3 { // none, not active, active
				for _, n := range []int{0, 5, 11, 12, 100} {
					l, id, x := list(n), "z", all()
					if badId {
						id = "A b"
					}
					if badScope {
						x = nots(8, x)
					}
					if state > 0 {
						l = slices.Insert(l, n/2, api.Hold{Id: id, Scope: ofCase("a"), Active: state == 2})
					}
					want := []api.Errno{errNone, errState, fine}[state]
					if badId {
						want = errArg
					}
					if e := free(t, l, id); e != want {
						t.Errorf("Release, a bad Id: %v, state %d: reckoned as error %d", badId, state, e)
					}
					if badScope {
						want = errArg
					}
					if e := amend(t, l, id, x); e != want {
						t.Errorf("Amend, a bad Id: %v, a bad Scope: %v, state %d: reckoned as error %d", badId, badScope, state, e)
					}
				}
			}
		}
	}
}

func TestTurnOddHolds(t *testing.T) {
	odds := oddHolds()
	for _, h := range odds {
		free(t, odds, h.Id)
		amend(t, odds, h.Id, ofCase("a"))
		free(t, []api.Hold{h}, h.Id)
		amend(t, []api.Hold{h}, h.Id, ofCase("a"))
	}
	freed := oddHolds()
	freed[10].Active = false
	releaseTo(t, odds, "d", freed, fine)
	releaseTo(t, odds, "a", nil, errState)
	releaseTo(t, odds, "", nil, errArg)
	turned := oddHolds()
	turned[7].Scope = all()
	amendTo(t, odds, "b", all(), turned, fine)
	amendTo(t, odds, "c", all(), nil, errState)
}

// What is turned is of another list: two calls on one list, one after the other.
func TestTurnTwice(t *testing.T) {
	l := list(4)
	a, _ := hold.Release(l, "h1")
	b, _ := hold.Amend(l, "h1", all())
	c, _ := hold.Release(l, "h1")
	d, _ := hold.Release(a, "h2")
	e, _ := hold.Amend(b, "h1", ofCase("x"))
	want := func(turn func(l []api.Hold)) string {
		l := list(4)
		turn(l)
		return shown(l)
	}
	for i, x := range [][2]string{
		{shown(l), want(func([]api.Hold) {})},
		{shown(a), want(func(l []api.Hold) { l[1].Active = false })},
		{shown(b), want(func(l []api.Hold) { l[1].Scope = all() })},
		{shown(c), want(func(l []api.Hold) { l[1].Active = false })},
		{shown(d), want(func(l []api.Hold) { l[1].Active, l[2].Active = false, false })},
		{shown(e), want(func(l []api.Hold) { l[1].Scope = ofCase("x") })},
	} {
		if x[0] != x[1] {
			t.Errorf("the %d'th: %s, not %s", i, x[0], x[1])
		}
	}
}

// What is released is not placed again, and not amended, nor active by anything.
func TestReleasedForGood(t *testing.T) {
	l, _ := hold.Release(list(3), "h1")
	placeTo(t, l, "h1", all(), nil, errThere)
	amendTo(t, l, "h1", all(), nil, errState)
	releaseTo(t, l, "h1", nil, errState)
	l, _ = hold.Place(l, "z", all())
	l, _ = hold.Amend(l, "h0", all())
	l, _ = hold.Release(l, "h2")
	if want := []api.Hold{active("h0", all()), past("h1", list(3)[1].Scope), past("h2", list(3)[2].Scope), active("z", all())}; shown(l) != shown(want) {
		t.Errorf("%s, not %s", shown(l), shown(want))
	}
}
