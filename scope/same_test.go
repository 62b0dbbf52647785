package scope_test

import (
	"hanaper/api"
	"hanaper/scope"
	"math"
	"slices"
	"testing"
)

// P20.3: Same.

// turns are what is done with a scope to make it another one, where it does.
func turns() []func(k *api.Scope) {
	a := ofCase("a")
	return []func(k *api.Scope){
		func(k *api.Scope) { k.Op++ },
		func(k *api.Scope) { k.Op-- },
		func(k *api.Scope) { k.Op += 1 << 32 },
		func(k *api.Scope) { k.Op += 256 },
		func(k *api.Scope) { k.From++ },
		func(k *api.Scope) { k.From = -k.From },
		func(k *api.Scope) { k.From += 1 << 32 },
		func(k *api.Scope) { k.To-- },
		func(k *api.Scope) { k.To = math.MinInt },
		func(k *api.Scope) { k.To += 1 << 32 },
		func(k *api.Scope) { k.From, k.To = k.To, k.From },
		func(k *api.Scope) { k.From, k.To = k.From+1, k.To-1 },
		func(k *api.Scope) { k.Name = "" },
		func(k *api.Scope) { k.Name += "b" },
		func(k *api.Scope) { k.Name = "b" + k.Name },
		func(k *api.Scope) { k.Name += "\x00" },
		func(k *api.Scope) { k.Kids = nil },
		func(k *api.Scope) { k.Kids = []api.Scope{} },
		func(k *api.Scope) { k.Kids = append(k.Kids, a) },
		func(k *api.Scope) { k.Kids = append(k.Kids, api.Scope{}) },
		func(k *api.Scope) { k.Kids = append([]api.Scope{a}, k.Kids...) },
		func(k *api.Scope) { k.Kids = k.Kids[min(1, len(k.Kids)):] },
		func(k *api.Scope) { k.Kids = k.Kids[:max(0, len(k.Kids)-1)] },
		func(k *api.Scope) { slices.Reverse(k.Kids) },
		func(k *api.Scope) { *k = not(*k) },
		func(k *api.Scope) { *k = and(a, *k) },
		func(k *api.Scope) { *k = a },
		func(k *api.Scope) { *k = api.Scope{} },
	}
}

func TestSameOfTurned(t *testing.T) {
	likes, unlikes := 0, 0
	for _, x := range append(some(), few()...) {
		for i := range spots(&x) {
			for _, turn := range turns() {
				y := changed(x, i, turn)
				same := shown(x) == shown(y)
				sameTo(t, x, y, same)
				if same {
					likes++
				} else {
					unlikes++
				}
			}
		}
	}
	if likes < 500 || unlikes < 2000 {
		t.Errorf("%d alike, %d not", likes, unlikes)
	}
}

// All pairs of some that are each another one.
func TestSameOfPairs(t *testing.T) {
	a, b := ofCase("a"), ofSub("a")
	l := []api.Scope{
		{}, all(), a, b, ofClass("a"), ofCase("b"), ofCase("aa"), ofCase(""), ofCase("A"), time(5, 9), time(5, 8), time(4, 9), time(9, 5), time(0, 0), time(-5, 9), time(5, -9), time(5, 9+1<<32),
		and(), or(), not(), and(a), or(a), not(a), and(a, b), and(b, a), or(a, b), or(b, a), not(a, b), not(not(a)), not(b), not(not(b)), and(a, b, a), and(a, a, b), and(and(a, b), a), and(a, and(b, a)),
		and(or(a, b), not(a)), and(or(a, b), not(b)), and(or(a, a), not(a)), and(or(b, a), not(a)), and(or(a, b, a), not(a)), and(and(a, b), not(a)), and(or(a, b), not()), and(or(a, b)),
		{Op: 9}, {Op: -1}, {Op: math.MinInt}, {Op: math.MaxInt}, {Op: opAll, Name: "a"}, {Op: opAll, From: 1}, {Op: opAll, To: 1}, {Op: opAll, Kids: times(1, a)}, {Op: opCase, Name: "a", Kids: times(1, api.Scope{})},
		{Op: 9, Kids: times(1, a)}, {Op: 9, Kids: times(2, a)}, {Op: 9, Kids: []api.Scope{a, b}}, {Op: 9, Kids: []api.Scope{b, a}}, nots(7, a), nots(8, a), nots(9, a), nots(8, b), and(times(300, a)...), and(times(301, a)...), and(append(times(300, a), b)...),
	}
	for i, x := range l {
		for k, y := range l {
			sameTo(t, own(x), own(y), i == k)
		}
	}
}

// Kids of nil and of an empty list, alone and several deep.
func TestSameOfNoKids(t *testing.T) {
	for _, x := range append(plain()[:5], api.Scope{}, api.Scope{Op: 9, Name: "A", From: -1}, and(), not()) {
		var l []api.Scope
		for _, kids := range [][]api.Scope{nil, {}, make([]api.Scope, 0, 5), times(3, all())[:0]} {
			x.Kids = kids
			l = append(l, x)
		}
		for _, a := range l {
			for _, b := range l {
				sameTo(t, a, b, true)
				sameTo(t, and(all(), not(a)), and(all(), not(b)), true)
			}
			sameTo(t, a, api.Scope{Op: x.Op, Name: x.Name, From: x.From, Kids: times(1, api.Scope{})}, false)
		}
	}
}

// 60000 deep, the same, or another one at the end.
func TestSameOfGreatOnes(t *testing.T) {
	for _, op := range []func(...api.Scope) api.Scope{and, or, not} {
		x, y, z := all(), all(), ofCase("")
		for range 60000 {
			x, y, z = op(x), op(y), op(z)
		}
		if !scope.Same(x, y) || scope.Same(x, z) || scope.Same(op(x), y) || scope.Same(x, op(y)) {
			t.Error("Same of some that are 60000 deep")
		}
	}
	x := times(1<<20, ofCase("a"))
	y := slices.Clone(x)
	if !scope.Same(or(x...), or(y...)) {
		t.Error("2^20 Kids")
	}
	y[len(y)-1].Name = "b"
	if scope.Same(or(x...), or(y...)) || scope.Same(or(x...), or(x[1:]...)) {
		t.Error("2^20 Kids, one of them another one")
	}
}
