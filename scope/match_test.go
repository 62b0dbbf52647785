package scope_test

import (
	"hanaper/api"
	"hanaper/scope"
	"math"
	"strings"
	"testing"
)

// P20.2.

func TestMatchAll(t *testing.T) {
	for _, r := range []api.Rec{{}, rec("a", "b", "c", 5), rec("", "", "", -1), {Id: "x", State: -3, Tick: math.MaxInt}} {
		matchTo(t, all(), r, true)
		matchTo(t, not(all()), r, false)
	}
}

// A record that has a name in one field, and elsewhere another one.
func TestMatchNames(t *testing.T) {
	for _, s := range []string{"a", "hr", "A b", "\x00", "\xff", strings.Repeat("x", 1000)} {
		for _, other := range []string{"", "b", s + "a", "a" + s, s + "\x00", s[:len(s)-1], strings.ToUpper(s) + "B", " " + s} {
			for i := range 16 {
				name := func(bit int) string {
					if i>>bit&1 == 1 {
						return s
					}
					return other
				}
				r := api.Rec{Id: name(3), Case: name(0), Sub: name(1), Class: name(2)}
				matchTo(t, ofCase(s), r, i&1 == 1)
				matchTo(t, ofSub(s), r, i>>1&1 == 1)
				matchTo(t, ofClass(s), r, i>>2&1 == 1)
			}
		}
	}
}

// The empty name, which no scope may have, matches what has none.
func TestMatchTheEmptyName(t *testing.T) {
	matchTo(t, ofCase(""), rec("", "b", "c", 5), true)
	matchTo(t, ofCase(""), rec("a", "", "", 5), false)
	matchTo(t, ofSub(""), rec("a", "", "c", 5), true)
	matchTo(t, ofSub(""), rec("", "b", "", 5), false)
	matchTo(t, ofClass(""), rec("a", "b", "", 5), true)
	matchTo(t, ofClass(""), rec("", "", "c", 5), false)
	matchTo(t, ofCase("a"), api.Rec{}, false)
	matchTo(t, ofCase(""), api.Rec{}, true)
}

func TestMatchTimes(t *testing.T) {
	for _, c := range []struct {
		from, to, tick int
		want           bool
	}{
		{5, 9, 4, false}, {5, 9, 5, true}, {5, 9, 6, true}, {5, 9, 8, true}, {5, 9, 9, true}, {5, 9, 10, false}, {5, 9, 0, false}, {5, 9, -5, false},
		{7, 7, 6, false}, {7, 7, 7, true}, {7, 7, 8, false}, {0, 0, 0, true}, {0, 0, 1, false}, {0, 0, -1, false},
		{9, 5, 4, false}, {9, 5, 5, false}, {9, 5, 7, false}, {9, 5, 9, false}, {9, 5, 10, false}, {1, 0, 0, false}, {1, 0, 1, false},
		{0, mostClock, mostClock, true}, {0, mostClock, mostClock + 1, false}, {mostClock, mostClock, mostClock - 1, false},
		{-5, 5, -5, true}, {-5, 5, -6, false}, {-5, -2, -3, true}, {mostClock + 1, mostClock + 9, mostClock + 5, true},
		{math.MinInt, math.MaxInt, math.MinInt, true}, {math.MinInt, math.MaxInt, math.MaxInt, true}, {math.MinInt, math.MaxInt, 0, true},
		{math.MaxInt, math.MinInt, 0, false}, {math.MaxInt, math.MaxInt, math.MaxInt, true}, {math.MinInt, math.MinInt, math.MinInt, true}, {math.MinInt, math.MinInt, math.MaxInt, false},
		{1 << 32, 1<<32 + 5, 3, false}, {0, 5, 1<<32 + 3, false},
	} {
		matchTo(t, time(c.from, c.to), rec("a", "b", "c", c.tick), c.want)
		matchTo(t, not(time(c.from, c.to)), rec("a", "b", "c", c.tick), !c.want)
	}
}

func TestMatchTimesAtTheEdges(t *testing.T) {
	for _, from := range edges() {
		for _, to := range edges() {
			for _, tick := range edges() {
				if matched(time(from, to), api.Rec{Tick: tick}) != scope.Match(time(from, to), api.Rec{Tick: tick}) {
					t.Errorf("Match of %d from %d to %d", tick, from, to)
				}
			}
		}
	}
}

// Rows of Kids of which all match, none does, and all but one, and only one, at each place.
func TestMatchRows(t *testing.T) {
	r := rec("a", "b", "c", 5)
	yes := []api.Scope{all(), ofCase("a"), ofSub("b"), ofClass("c"), time(5, 5), not(ofCase("b"))}
	no := []api.Scope{not(all()), ofCase("b"), ofSub("a"), ofClass("b"), time(6, 9), {}}
	for n := range 30 {
		for i, y := range yes {
			matchTo(t, and(times(n, y)...), r, true)
			matchTo(t, or(times(n, y)...), r, n > 0)
			matchTo(t, and(times(n, no[i])...), r, n == 0)
			matchTo(t, or(times(n, no[i])...), r, false)
			for k := range n {
				most, one := times(n, y), times(n, no[i])
				most[k], one[k] = no[i], y
				matchTo(t, and(most...), r, false)
				matchTo(t, or(one...), r, true)
				matchTo(t, or(most...), r, n > 1)
				matchTo(t, and(one...), r, n == 1)
				matchTo(t, not(most...), r, k == 0)
				matchTo(t, not(one...), r, k != 0)
			}
		}
	}
}

func TestMatchNot(t *testing.T) {
	r := rec("a", "b", "c", 5)
	y, n := ofCase("a"), ofCase("b")
	matchTo(t, not(), r, true)
	matchTo(t, api.Scope{Op: opNot, Kids: []api.Scope{}}, r, true)
	matchTo(t, api.Scope{Op: opNot, Name: "a", From: 1}, r, true)
	matchTo(t, not(not()), r, false)
	matchTo(t, not(y), r, false)
	matchTo(t, not(n), r, true)
	matchTo(t, not(y, n), r, false)
	matchTo(t, not(n, y), r, true)
	matchTo(t, not(n, y, y), r, true)
	matchTo(t, not(api.Scope{}), r, true)
	matchTo(t, not(api.Scope{}, all()), r, true)
	for k := range 12 {
		matchTo(t, nots(k, y), r, k%2 == 0)
		matchTo(t, nots(k, n), r, k%2 == 1)
	}
}

// Each in the other, several deep.
func TestMatchDeep(t *testing.T) {
	r := rec("a", "b", "c", 5)
	y, n := ofSub("b"), time(6, 7)
	matchTo(t, and(or(n, y), not(n)), r, true)
	matchTo(t, and(or(n, y), not(y)), r, false)
	matchTo(t, or(and(y, n), not(or(n, n))), r, true)
	matchTo(t, or(and(y, n), not(or(n, y))), r, false)
	matchTo(t, not(and(or(y, n), or(n, y))), r, false)
	matchTo(t, not(and(or(y, n), or(n, n))), r, true)
	matchTo(t, and(and(and(y, y), y), or(or(n, or(n, y)))), r, true)
	matchTo(t, and(and(and(y, n), y), or(or(n, or(n, y)))), r, false)
	matchTo(t, and(ofCase("a"), not(time(5, 9))), rec("a", "", "", 4), true)
	matchTo(t, and(ofCase("a"), not(time(5, 9))), rec("a", "", "", 9), false)
	matchTo(t, and(ofCase("a"), not(time(5, 9))), rec("b", "", "", 4), false)
	matchTo(t, or(), r, false)
	matchTo(t, and(), r, true)
	matchTo(t, or(and()), r, true)
	matchTo(t, and(or()), r, false)
	matchTo(t, not(or()), r, true)
	matchTo(t, not(and()), r, false)
}

// Another Op matches nothing, whatever it has.
func TestMatchOtherOps(t *testing.T) {
	r := rec("a", "a", "a", 5)
	for _, op := range strange() {
		for _, x := range []api.Scope{{}, {Name: "a"}, {From: 5, To: 5}, {Kids: times(1, all())}, {Name: "a", From: 0, To: 9, Kids: times(3, all())}, {Kids: times(2, not(all()))}} {
			x.Op = op
			matchTo(t, x, r, false)
			matchTo(t, not(x), r, true)
			matchTo(t, or(x, all()), r, true)
			matchTo(t, and(all(), x), r, false)
			matchTo(t, or(x, x), r, false)
		}
	}
	matchTo(t, api.Scope{}, api.Rec{}, false)
}

// What an Op does not ask for turns nothing.
func TestMatchOtherFields(t *testing.T) {
	r, none := rec("a", "a", "a", 5), rec("b", "b", "b", 50)
	yes, no := times(2, all()), times(2, not(all()))
	for _, kids := range [][]api.Scope{nil, yes, no, {{}}} {
		for _, x := range []api.Scope{ofCase("a"), ofSub("a"), ofClass("a"), time(5, 5)} {
			x.Kids = kids
			if x.Op == opTime {
				x.Name = "b"
			} else {
				x.From, x.To = 50, 60
			}
			matchTo(t, x, r, true)
			matchTo(t, x, none, false)
		}
		matchTo(t, api.Scope{Op: opAll, Name: "b", From: 9, To: 1, Kids: kids}, r, true)
	}
	matchTo(t, api.Scope{Op: opAnd, Name: "b", From: 9, To: 1, Kids: yes}, r, true)
	matchTo(t, api.Scope{Op: opAnd, Name: "a", To: 9, Kids: no}, r, false)
	matchTo(t, api.Scope{Op: opOr, Name: "b", From: 9, To: 1, Kids: yes}, r, true)
	matchTo(t, api.Scope{Op: opOr, Name: "a", To: 9, Kids: no}, r, false)
	matchTo(t, api.Scope{Op: opNot, Name: "b", From: 9, To: 1, Kids: no}, r, true)
	matchTo(t, api.Scope{Op: opNot, Name: "a", To: 9, Kids: yes}, r, false)
	// Of a record only Case, Sub, Class and Tick count.
	for _, state := range []int{0, api.StLive, api.StPurged, api.StErased, -9, 99} {
		for _, id := range []string{"", "a", "b"} {
			r.Id, r.State, none.Id, none.State = id, state, id, state
			for _, x := range []api.Scope{ofCase("a"), ofSub("a"), ofClass("a"), time(5, 5), or(ofCase("z"), ofSub("a")), not(ofClass("b"))} {
				matchTo(t, x, r, true)
				matchTo(t, x, none, false)
			}
		}
	}
}

// All small scopes, with what may not be among them, against records: small are all that have at most so many nodes.
func small(nodes int, leaves []api.Scope) []api.Scope {
	if nodes < 1 {
		return nil
	}
	l := append([]api.Scope(nil), leaves...)
	for _, kids := range rows(nodes-1, leaves) {
		l = append(l, and(kids...), or(kids...), not(kids...))
	}
	return l
}

// rows are all rows of small scopes that have at most so many nodes in all.
func rows(nodes int, leaves []api.Scope) [][]api.Scope {
	l := [][]api.Scope{nil}
	for _, first := range small(nodes, leaves) {
		for _, rest := range rows(nodes-nodesOf(first), leaves) {
			l = append(l, append([]api.Scope{first}, rest...))
		}
	}
	return l
}

func TestAllSmallScopes(t *testing.T) {
	leaves := []api.Scope{all(), ofCase("a"), time(5, 9), {Op: 9}}
	recs := []api.Rec{rec("a", "b", "c", 5), rec("b", "a", "a", 5), rec("a", "b", "c", 4), rec("", "", "", 0)}
	var fair, hits int
	for _, x := range small(4, leaves) {
		if held(t, x) {
			fair++
		}
		for _, r := range recs {
			if match(t, x, r) {
				hits++
			}
		}
	}
	if fair < 100 || hits < 1000 {
		t.Errorf("%d may be, %d match", fair, hits)
	}
}

// Far beyond the limits: 60000 deep, and 2^20 Kids.
func TestMatchGreatOnes(t *testing.T) {
	r := rec("a", "b", "c", 5)
	for _, leaf := range []api.Scope{ofCase("a"), ofCase("b")} {
		hit := leaf.Name == "a"
		if scope.Match(nots(60000, leaf), r) != hit || scope.Match(nots(60001, leaf), r) == hit {
			t.Error("60000 nots")
		}
		x, y := leaf, leaf
		for range 60000 {
			x, y = and(all(), x), or(not(all()), y)
		}
		if scope.Match(x, r) != hit || scope.Match(y, r) != hit {
			t.Error("combs 60000 deep")
		}
		row := times(1<<20, all())
		row[len(row)-1] = leaf
		if scope.Match(and(row...), r) != hit || !scope.Match(or(row...), r) || scope.Match(not(row...), r) {
			t.Error("2^20 Kids")
		}
	}
}
