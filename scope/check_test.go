package scope_test

import (
	"hanaper/api"
	"hanaper/scope"
	"math"
	"strings"
	"testing"
)

// P20.1.

func TestLimits(t *testing.T) {
	if api.MaxName != mostName || api.MaxClock != mostClock || api.MaxNodes != mostNodes || api.MaxDepth != mostDepth {
		t.Error("a limit is another one")
	}
	for i, op := range []int{api.ScAll, api.ScCase, api.ScSub, api.ScClass, api.ScTime, api.ScAnd, api.ScOr, api.ScNot} {
		if op != i+1 {
			t.Errorf("kind %d has the number %d", i+1, op)
		}
	}
}

// plain are scopes that may be, one of each Op, and some more.
func plain() []api.Scope {
	a, b := ofCase("a"), ofSub("b")
	return []api.Scope{
		all(), a, b, ofClass("c"), time(5, 9), and(a, b), or(a, b), not(a),
		time(0, 0), time(mostClock, mostClock), ofClass(strings.Repeat("z", mostName)), and(a, a, all()), or(b, not(a), time(1, 2), a), not(not(all())), not(and(or(a, b), not(ofClass("c")))),
	}
}

// few are scopes that may not be, each for another cause.
func few() []api.Scope {
	a := ofCase("a")
	return []api.Scope{
		{}, {Op: 9}, {Op: -1}, {Op: opAll, Name: "a"}, {Op: opAll, From: 1}, {Op: opAll, To: 1}, {Op: opAll, Kids: times(1, a)},
		ofCase(""), ofSub("A"), ofClass(strings.Repeat("a", mostName+1)), {Op: opCase, Name: "a", To: 1}, {Op: opSub, Name: "a", Kids: times(2, a)},
		time(2, 1), time(-1, 1), time(0, mostClock+1), {Op: opTime, Name: "a"}, {Op: opTime, Kids: times(1, a)},
		and(), and(a), or(), or(a), not(), not(a, a), {Op: opAnd, Name: "a", Kids: times(2, a)}, {Op: opOr, To: 1, Kids: times(2, a)}, {Op: opNot, From: -1, Kids: times(1, a)},
	}
}

func TestPlain(t *testing.T) {
	for _, x := range plain() {
		holds(t, x, true)
	}
	for _, x := range few() {
		holds(t, x, false)
	}
}

// Each Op with another Name, with other ticks, with other Kids: whether it may be then hangs on the Op.
func TestNames(t *testing.T) {
	for _, x := range plain() {
		named := x.Op == opCase || x.Op == opSub || x.Op == opClass
		for n := range 40 {
			x.Name = strings.Repeat("b", n)
			holds(t, x, named == (n > 0) && n <= mostName)
		}
		for _, s := range []string{"hr", "a.b-c_1", ".", "-", "_", "0", "...", "sixteen.letters_"} {
			x.Name = s
			holds(t, x, named)
		}
		for _, s := range []string{"A", "hR", "a b", " a", "a ", "a\n", "\x00", "a\x00", "\xff", "a\xff", "é", "aé", "a/b", "a,b", "a:b", "\"a\"", "(", "seventeen_letters", strings.Repeat("a", 256+5), strings.Repeat("a", 1<<16)} {
			x.Name = s
			holds(t, x, false)
		}
	}
}

// Each byte as a name, and at each place of the longest ones.
func TestNamesOfEachByte(t *testing.T) {
	for _, op := range []int{opCase, opSub, opClass} {
		for v := range 256 {
			c := string([]byte{byte(v)})
			right := strings.Contains(inName, c)
			holds(t, api.Scope{Op: op, Name: c}, right)
			for i := range mostName {
				holds(t, api.Scope{Op: op, Name: strings.Repeat("a", i) + c + strings.Repeat("z", mostName-1-i)}, right)
			}
		}
	}
}

func TestTicks(t *testing.T) {
	for _, from := range edges() {
		for _, to := range edges() {
			right := 0 <= from && from <= to && to <= mostClock
			for _, x := range plain() {
				x.From, x.To = from, to
				holds(t, x, x.Op == opTime && right || x.Op != opTime && from == 0 && to == 0)
			}
			holds(t, not(time(from, to)), right)
			holds(t, and(all(), time(from, to)), right)
		}
	}
}

func TestTicksByHand(t *testing.T) {
	for _, x := range []api.Scope{time(0, 0), time(7, 7), time(7, 8), time(0, mostClock), time(mostClock-1, mostClock), time(mostClock, mostClock)} {
		holds(t, x, true)
	}
	for _, x := range []api.Scope{time(1, 0), time(8, 7), time(-1, 0), time(-1, -1), time(-9, 5), time(0, mostClock+1), time(mostClock+1, mostClock+1), time(mostClock, mostClock-1), time(mostClock, 0), time(math.MinInt, math.MaxInt), time(math.MinInt, math.MinInt), time(math.MaxInt, math.MaxInt), time(math.MaxInt, math.MinInt), time(1<<32, 0), time(0, 1<<62)} {
		holds(t, x, false)
	}
}

// No kid, one, two and more of each Op.
func TestKids(t *testing.T) {
	least, most := map[int]int{opAnd: 2, opOr: 2, opNot: 1}, map[int]int{opAnd: mostNodes - 1, opOr: mostNodes - 1, opNot: 1}
	for _, kid := range plain()[:5] {
		for n := range 60 {
			for _, x := range plain()[:8] {
				x.Kids = times(n, kid)
				holds(t, x, least[x.Op] <= n && n <= most[x.Op])
			}
		}
	}
	for _, n := range []int{255, 256, 257, 258, 1<<16 + 1, 1<<16 + 2} {
		for _, x := range plain()[:8] {
			x.Kids = times(n, all())
			holds(t, x, false)
		}
	}
}

// No Kids, as nil and as an empty list.
func TestNoKids(t *testing.T) {
	for _, kids := range [][]api.Scope{nil, {}, make([]api.Scope, 0, 9), times(3, all())[:0]} {
		for _, x := range plain()[:8] {
			x.Kids = kids
			want := api.ErrArg
			if x.Op < opAnd {
				want = api.OK
			}
			if e := scope.Check(x); e != want {
				t.Errorf("Check(%s): error %d, not %d", shown(x), e, want)
			}
			if _, e := scope.Put(x); e != want {
				t.Errorf("Put(%s): error %d, not %d", shown(x), e, want)
			}
		}
	}
}

func TestOtherOps(t *testing.T) {
	for _, op := range strange() {
		for _, x := range plain() {
			x.Op = op
			holds(t, x, false)
			holds(t, not(x), false)
			holds(t, or(all(), x), false)
		}
	}
}

// Each Op with what another one has.
func TestOpsTurned(t *testing.T) {
	for _, x := range plain() {
		for op := range 20 {
			x.Op = op
			held(t, x)
		}
		x.Op, x.Name, x.From, x.To, x.Kids = opAll, "", 0, 0, nil
		holds(t, x, true)
	}
}

// A kid that may not be in the first, a middle and the last place, several deep.
func TestKidsThatMayNotBe(t *testing.T) {
	a, b := ofCase("a"), time(1, 2)
	for _, x := range few() {
		for _, op := range []func(...api.Scope) api.Scope{and, or} {
			for _, y := range []api.Scope{op(x, a), op(b, x), op(x, a, b), op(a, x, b), op(a, b, x), op(x, x), op(a, not(x)), op(not(x), a), op(a, op(a, op(a, b, x), b), b)} {
				holds(t, y, false)
				holds(t, not(y), false)
				holds(t, and(y, b), false)
				holds(t, or(b, a, y, a), false)
			}
			for i := range 22 {
				row := times(22, a)
				row[i] = x
				holds(t, op(row...), false)
			}
		}
		for range mostDepth - 1 {
			x = not(x)
			holds(t, x, false)
		}
	}
}

// comb is a scope so deep, of which each part but the deepest one has a leaf ahead of the next, or behind it.
func comb(op func(...api.Scope) api.Scope, depth int, ahead bool) api.Scope {
	x := ofCase("a")
	for range depth - 1 {
		if ahead {
			x = op(ofSub("b"), x)
		} else {
			x = op(x, ofClass("c"))
		}
	}
	return x
}

// nots is x, so many times turned round.
func nots(n int, x api.Scope) api.Scope {
	for range n {
		x = not(x)
	}
	return x
}

func TestDepth(t *testing.T) {
	a := ofCase("a")
	for n := range 40 {
		right := n+1 <= mostDepth
		holds(t, nots(n, a), right)
		holds(t, nots(n, all()), right)
		for _, ahead := range []bool{true, false} {
			holds(t, comb(and, n+1, ahead), right)
			holds(t, comb(or, n+1, ahead), right)
			holds(t, not(comb(and, n+1, ahead)), n+2 <= mostDepth)
		}
		holds(t, and(nots(n, a), a), n+2 <= mostDepth)
		holds(t, or(a, a, nots(n, a)), n+2 <= mostDepth)
		holds(t, and(a, or(a, nots(n, time(1, 1))), a), n+3 <= mostDepth)
	}
	// Several that are as deep as may be, in one.
	holds(t, and(nots(6, a), nots(6, a), nots(6, a)), true)
	holds(t, and(nots(6, a), nots(7, a), nots(6, a)), false)
	holds(t, and(nots(6, a), nots(6, a), nots(7, a)), false)
	holds(t, and(nots(7, a), nots(6, a)), false)
}

func TestNodes(t *testing.T) {
	a := ofSub("a")
	for _, op := range []func(...api.Scope) api.Scope{and, or} {
		holds(t, op(times(mostNodes-1, a)...), true)
		holds(t, op(times(mostNodes, a)...), false)
		holds(t, not(op(times(mostNodes-2, a)...)), true)
		holds(t, not(op(times(mostNodes-1, a)...)), false)
		for n := 2; n < 24; n++ {
			for k := 2; k < 24; k++ {
				right := n+k+3 <= mostNodes
				holds(t, and(op(times(n, a)...), or(times(k, a)...)), right)
				holds(t, or(and(times(n, a)...), op(times(k, a)...)), right)
				holds(t, op(append(times(n, a), and(times(k, a)...))...), n+k+2 <= mostNodes)
				holds(t, op(append(times(n, a), nots(3, or(times(k, a)...)))...), n+k+5 <= mostNodes)
				holds(t, op(append([]api.Scope{not(and(times(k, a)...))}, times(n, a)...)...), n+k+3 <= mostNodes)
			}
		}
		// A comb of 15 nodes, as deep as may be, with leaves more at its end, or at its top.
		x, y := comb(op, 8, true), comb(op, 8, false)
		for n := range 20 {
			right := 15+n <= mostNodes
			holds(t, changed(x, 0, func(k *api.Scope) { k.Kids = append(k.Kids, times(n, a)...) }), right)
			holds(t, changed(y, 0, func(k *api.Scope) { k.Kids = append(k.Kids, times(n, a)...) }), right)
			holds(t, changed(x, 12, func(k *api.Scope) { k.Kids = append(times(n, a), k.Kids...) }), right)
			holds(t, changed(y, 6, func(k *api.Scope) { k.Kids = append(times(n, a), k.Kids...) }), right)
		}
	}
}

// All leaves of a tree of two Kids, three deep and more.
func TestBushes(t *testing.T) {
	x := all()
	for depth := 1; depth < 12; depth++ {
		holds(t, x, depth <= 4) // 1, 3, 7, 15 nodes; 31
		if depth%2 == 0 {
			x = and(x, x)
		} else {
			x = or(x, x)
		}
	}
}

// Far beyond the limits.
func TestGreatOnes(t *testing.T) {
	for _, op := range []func(...api.Scope) api.Scope{and, or, not} {
		x := all()
		for range 60000 {
			x = op(x)
		}
		if scope.Check(x) != api.ErrArg || scope.Check(and(all(), x)) != api.ErrArg {
			t.Error("one 60000 deep may be")
		}
		if b, e := scope.Put(x); e != api.ErrArg || len(b) != 0 {
			t.Errorf("one 60000 deep is put: %v, error %d", b, e)
		}
	}
	for _, op := range []func(...api.Scope) api.Scope{and, or} {
		x, y := comb(op, 60000, true), comb(op, 60000, false)
		if scope.Check(x) != api.ErrArg || scope.Check(y) != api.ErrArg {
			t.Error("a comb 60000 deep may be")
		}
	}
	row := and(times(1<<20, ofCase("a"))...)
	if scope.Check(row) != api.ErrArg || scope.Check(not(row)) != api.ErrArg {
		t.Error("one of 2^20 Kids may be")
	}
}
