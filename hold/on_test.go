package hold_test

import (
	"hanaper/api"
	"hanaper/hold"
	"hanaper/scope"
	"math"
	"slices"
	"strconv"
	"testing"
)

// P22.2.

func TestOnNoHolds(t *testing.T) {
	for _, r := range []api.Rec{{}, rec("a", "b", "c", 5), rec("", "", "", -1)} {
		onTo(t, nil, r)
		onTo(t, []api.Hold{}, r)
	}
}

func TestOnByHand(t *testing.T) {
	l := []api.Hold{
		active("all", all()),
		active("case", ofCase("a")),
		active("sub", ofSub("b")),
		active("class", ofClass("c")),
		active("time", time(5, 9)),
		active("and", and(ofCase("a"), ofSub("b"))),
		active("or", or(ofClass("c"), time(5, 9))),
		active("not", not(ofCase("a"))),
	}
	onTo(t, l, rec("a", "b", "c", 5), "all", "case", "sub", "class", "time", "and", "or")
	onTo(t, l, rec("a", "b", "x", 10), "all", "case", "sub", "and")
	onTo(t, l, rec("x", "b", "x", 9), "all", "sub", "time", "or", "not")
	onTo(t, l, rec("a", "x", "x", 4), "all", "case")
	onTo(t, l, rec("b", "c", "a", 0), "all", "not")
	onTo(t, l, api.Rec{}, "all", "not")
	onTo(t, l[1:], rec("x", "b", "c", 7), "sub", "class", "time", "or", "not")
	onTo(t, l[1:7], rec("x", "y", "z", 4))
	onTo(t, l[1:7], api.Rec{})
	for i, h := range l { // one that is not active tells nothing
		part := slices.Clone(l)
		part[i].Active = false
		onTo(t, part, rec("a", "b", "c", 5), slices.DeleteFunc([]string{"all", "case", "sub", "class", "time", "and", "or"}, func(s string) bool { return s == h.Id })...)
		onTo(t, []api.Hold{past(h.Id, h.Scope)}, rec("a", "b", "c", 5))
		onTo(t, []api.Hold{past(h.Id, h.Scope)}, api.Rec{})
	}
}

// A record's Id and its state are asked nothing.
func TestOnWhicheverState(t *testing.T) {
	l := []api.Hold{active("x", ofCase("a")), past("y", all())}
	for _, state := range []int{-1, 0, 1, 2, 3, 4, 5, math.MaxInt, math.MinInt} {
		for _, id := range []string{"", "a", "x", "id", "A b"} {
			onTo(t, l, api.Rec{Id: id, Case: "a", Sub: "s", Class: "c", Tick: 3, State: state}, "x")
			onTo(t, l, api.Rec{Id: id, Case: "b", Sub: "a", Class: "a", Tick: 3, State: state})
		}
	}
}

// All lists of six holds of two kinds, each active or not, that hold the record or not.
func TestOnMixed(t *testing.T) {
	count := map[int]int{}
	for bits := range 1 << 12 {
		var l []api.Hold
		var want []string
		for i := range 6 {
			id, is, matches := strconv.Itoa(i), bits>>i&1 == 1, bits>>(6+i)&1 == 1
			x := ofCase("b")
			if matches {
				x = ofCase("a")
			}
			l = append(l, api.Hold{Id: id, Scope: x, Active: is})
			if is && matches {
				want = append(want, id)
			}
		}
		onTo(t, l, rec("a", "b", "b", 0), want...)
		count[len(want)]++
	}
	if count[0] != 729 || count[6] != 1 {
		t.Errorf("how many hold: %v", count)
	}
}

// The Ids are told as they stand: twice, in the list's order, also such as may be none.
func TestOnOrder(t *testing.T) {
	r := rec("a", "b", "c", 5)
	l := []api.Hold{active("z", all()), active("a", ofCase("a")), past("z", all()), active("z", ofSub("b")), active("", all()), active("A b", all()), active("a", ofCase("x")), active("m", all()), active("a", all()), active("\xff", all())}
	onTo(t, l, r, "z", "a", "z", "", "A b", "m", "a", "\xff")
	slices.Reverse(l)
	onTo(t, l, r, "\xff", "a", "m", "A b", "", "z", "a", "z")
	onTo(t, []api.Hold{active("", all())}, r, "")
	for n := range 30 {
		row := slices.Repeat([]api.Hold{active("x", all())}, n)
		onTo(t, row, r, slices.Repeat([]string{"x"}, n)...)
		onTo(t, append(row, active("y", all())), r, append(slices.Repeat([]string{"x"}, n), "y")...)
	}
	// The only one that holds is the first, a middle and the last one.
	for n := range 14 {
		for i := range n {
			l := list(n)
			for k := range l {
				l[k].Scope = ofCase("x")
			}
			l[i].Scope = and(ofCase("a"), time(5, 5))
			onTo(t, l, r, l[i].Id)
			l[i].Active = false
			onTo(t, l, r)
		}
	}
	if n := on(t, slices.Repeat([]api.Hold{active("a", all()), past("b", all())}, 50000), r); n != 50000 {
		t.Errorf("%d of 100000", n)
	}
}

// recs are records that have the names of the tests' scopes, and such as have none of them.
func recs() []api.Rec {
	var l []api.Rec
	for _, a := range []string{"a", "b", ""} {
		for _, b := range []string{"b", longName, "-", "é"} {
			for _, c := range []string{"hr", ".", "_", "A b"} {
				for _, tick := range []int{0, 1, 5, 9, 10, mostClock, -1, math.MaxInt, math.MinInt} {
					l = append(l, rec(a, b, c, tick))
				}
			}
		}
	}
	return append(l, api.Rec{})
}

// Scopes of each kind, right ones and such as may not be: what scope.Match says of them.
func TestOnAsMatch(t *testing.T) {
	count := map[bool]int{}
	right, few := fair(), recs()
	for i, x := range slices.Concat(right, unfair()) {
		for k, r := range few {
			if i >= len(right) && (i+k)%101 > 0 { // of the many that may not be some records
				continue
			}
			found := scope.Match(x, r)
			count[found]++
			if found {
				onTo(t, []api.Hold{active("x", x)}, r, "x")
			} else {
				onTo(t, []api.Hold{active("x", x)}, r)
			}
			onTo(t, []api.Hold{past("x", x)}, r)
		}
	}
	if count[true] < 2000 || count[false] < 2000 {
		t.Errorf("match and not: %v", count)
	}
}

func TestOnOddScopesByHand(t *testing.T) {
	r := rec("a", "b", "c", 5)
	for _, x := range []struct {
		odd  api.Scope
		want bool
	}{
		{api.Scope{}, false}, {api.Scope{Op: 9}, false}, {api.Scope{Op: -1, Kids: times(2, all())}, false}, {api.Scope{Op: 1<<32 + opAll}, false},
		{api.Scope{Op: opAll, Name: "x", From: 7, To: -7, Kids: times(1, ofCase("x"))}, true},
		{and(), true}, {or(), false}, {not(), true}, {not(all(), ofCase("x")), false}, {not(ofCase("x"), all()), true}, {and(ofCase("x")), false}, {or(ofCase("a")), true},
		{time(9, 5), false}, {time(-5, 5), true}, {time(5, math.MaxInt), true}, {ofCase("A b"), false}, {ofSub(""), false},
		{nots(100, all()), true}, {nots(101, all()), false}, {or(append(times(100, ofCase("x")), ofCase("a"))...), true},
	} {
		var want []string
		if x.want {
			want = []string{"odd"}
		}
		onTo(t, []api.Hold{active("odd", x.odd)}, r, want...)
		onTo(t, []api.Hold{past("no", all()), active("odd", x.odd), active("never", ofCase("x"))}, r, want...)
	}
	onTo(t, []api.Hold{active("x", ofCase("")), active("y", ofSub("")), active("z", ofClass("\xff"))}, api.Rec{Class: "\xff"}, "x", "y", "z")
}

// P22.3, by hand.

func TestFreeOnceReleased(t *testing.T) {
	a, b := rec("a", "s", "c", 5), rec("b", "s", "c", 6)
	l, _ := hold.Place(nil, "x", ofCase("a"))
	onTo(t, l, a, "x")
	onTo(t, l, b)
	l, _ = hold.Place(l, "y", ofSub("s"))
	onTo(t, l, a, "x", "y")
	onTo(t, l, b, "y")
	l, _ = hold.Release(l, "x")
	onTo(t, l, a, "y") // two held it
	onTo(t, l, b, "y")
	l, _ = hold.Place(l, "z", not(time(5, 5)))
	onTo(t, l, a, "y")
	onTo(t, l, b, "y", "z")
	l, _ = hold.Release(l, "y")
	onTo(t, l, a)
	onTo(t, l, b, "z")
	l, _ = hold.Amend(l, "z", ofCase("a"))
	onTo(t, l, a, "z")
	onTo(t, l, b)
	l, _ = hold.Release(l, "z")
	onTo(t, l, a)
	onTo(t, l, b)
}
