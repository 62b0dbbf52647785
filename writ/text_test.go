package writ_test

import (
	"hanaper/api"
	"hanaper/writ"
	"math"
	"slices"
	"strings"
	"testing"
	"unsafe"
)

// P21.1.

func TestLimits(t *testing.T) {
	if api.MaxName != mostName || api.MaxClock != mostClock || api.MaxNodes != mostNodes || api.MaxDepth != mostDepth {
		t.Error("a limit is another one")
	}
	for i, op := range []int{api.ScAll, api.ScCase, api.ScSub, api.ScClass, api.ScTime, api.ScAnd, api.ScOr, api.ScNot} {
		if op != i+1 {
			t.Errorf("kind %d has the number %d", i+1, op)
		}
	}
}

func TestWrittenByHand(t *testing.T) {
	a, b, c := ofCase("a"), ofSub("b"), ofClass("c")
	written(t, and(a, not(or(b, time(5, 9)))), "case a and not ( subject b or time 5-9 )")
	written(t, all(), "all")
	written(t, a, "case a")
	written(t, b, "subject b")
	written(t, c, "class c")
	written(t, time(5, 9), "time 5-9")
	written(t, not(a), "not case a")
	written(t, and(a, b), "case a and subject b")
	written(t, or(a, b), "case a or subject b")
	written(t, and(a, b, c), "case a and subject b and class c")
	written(t, or(c, b, a, all()), "class c or subject b or case a or all")
	written(t, not(not(b)), "not not subject b")
	written(t, nots(7, all()), "not not not not not not not all")
	written(t, not(and(a, b)), "not ( case a and subject b )")
	written(t, not(or(a, b)), "not ( case a or subject b )")
	written(t, and(not(a), b), "not case a and subject b")
	written(t, and(and(a, b), c), "( case a and subject b ) and class c")
	written(t, and(a, and(b, c)), "case a and ( subject b and class c )")
	written(t, and(or(a, b), c), "( case a or subject b ) and class c")
	written(t, and(a, or(b, c)), "case a and ( subject b or class c )")
	written(t, or(and(a, b), c), "case a and subject b or class c")
	written(t, or(a, and(b, c)), "case a or subject b and class c")
	written(t, or(or(a, b), c), "( case a or subject b ) or class c")
	written(t, or(a, or(b, c)), "case a or ( subject b or class c )")
	written(t, or(not(and(a, b)), and(c, not(or(a, all())))), "not ( case a and subject b ) or class c and not ( case a or all )")
	written(t, and(and(and(a, b), b), or(or(a, b), c)), "( ( case a and subject b ) and subject b ) and ( ( case a or subject b ) or class c )")
	written(t, not(not(and(not(not(a)), b))), "not not ( not not case a and subject b )")
}

func TestWrittenNames(t *testing.T) {
	for op, word := range map[int]string{opCase: "case ", opSub: "subject ", opClass: "class "} {
		for _, c := range inName {
			for _, n := range []int{1, 2, mostName - 1, mostName} {
				s := strings.Repeat("q", n-1) + string(c)
				written(t, api.Scope{Op: op, Name: s}, word+s)
				written(t, not(api.Scope{Op: op, Name: s}), "not "+word+s)
			}
		}
		for _, s := range append(strings.Fields(words), "cases", "-", ".", "_", "5-9", "0", "not.all") {
			if x := (api.Scope{Op: op, Name: s}); s == "(" || s == ")" {
				refused(t, x)
			} else {
				written(t, x, word+s)
				written(t, or(x, and(x, x)), word+s+" or "+word+s+" and "+word+s)
			}
		}
	}
}

func TestWrittenTimes(t *testing.T) {
	for _, v := range []struct {
		from, to int
		text     string
	}{
		{0, 0, "0-0"}, {0, 1, "0-1"}, {1, 1, "1-1"}, {7, 7, "7-7"}, {9, 10, "9-10"}, {10, 100, "10-100"}, {0, mostClock, "0-1099511627776"},
		{1, mostClock, "1-1099511627776"}, {mostClock - 1, mostClock, "1099511627775-1099511627776"}, {mostClock, mostClock, "1099511627776-1099511627776"},
		{255, 256, "255-256"}, {1 << 31, 1 << 32, "2147483648-4294967296"}, {1000000000, 1000000001, "1000000000-1000000001"},
	} {
		written(t, time(v.from, v.to), "time "+v.text)
		written(t, or(not(time(v.from, v.to)), all()), "not time "+v.text+" or all")
	}
	for _, v := range [][2]int{{1, 0}, {-1, 0}, {-1, -1}, {mostClock, mostClock - 1}, {0, mostClock + 1}, {mostClock + 1, mostClock + 1}, {math.MinInt, math.MaxInt}, {math.MaxInt, math.MaxInt}, {1 << 32, 0}} {
		refused(t, time(v[0], v[1]))
		refused(t, not(time(v[0], v[1])))
		refused(t, and(all(), time(v[0], v[1])))
	}
}

// kinds are scopes of each Op, their texts, and whether these stand in brackets in a not, an and, an or.
var kinds = []struct {
	x                  api.Scope
	text               string
	inNot, inAnd, inOr bool
}{
	{all(), "all", false, false, false},
	{ofCase("a"), "case a", false, false, false},
	{ofSub("and"), "subject and", false, false, false},
	{ofClass("0"), "class 0", false, false, false},
	{time(5, 9), "time 5-9", false, false, false},
	{not(all()), "not all", false, false, false},
	{not(and(all(), all())), "not ( all and all )", false, false, false},
	{and(all(), ofCase("b")), "all and case b", true, true, false},
	{and(all(), all(), not(all())), "all and all and not all", true, true, false},
	{or(ofSub("s"), all()), "subject s or all", true, true, true},
	{or(and(all(), all()), time(0, 0), all()), "all and all or time 0-0 or all", true, true, true},
}

// laid is a text, in brackets or without.
func laid(s string, brackets bool) string {
	if brackets {
		return "( " + s + " )"
	}
	return s
}

// Each kind as a kid of each kind, in the first, a middle and the last place.
func TestWrittenKids(t *testing.T) {
	for _, k := range kinds {
		s := laid(k.text, k.inNot)
		written(t, not(k.x), "not "+s)
		written(t, not(not(k.x)), "not not "+s)
		for _, of := range []struct {
			op       func(...api.Scope) api.Scope
			between  string
			brackets bool
		}{{and, " and ", k.inAnd}, {or, " or ", k.inOr}} {
			s, w := laid(k.text, of.brackets), of.between
			written(t, of.op(k.x, all()), s+w+"all")
			written(t, of.op(all(), k.x), "all"+w+s)
			written(t, of.op(k.x, k.x), s+w+s)
			written(t, of.op(k.x, all(), all()), s+w+"all"+w+"all")
			written(t, of.op(all(), k.x, all()), "all"+w+s+w+"all")
			written(t, of.op(all(), all(), k.x), "all"+w+"all"+w+s)
			written(t, not(of.op(all(), k.x)), "not ( all"+w+s+" )")
			for i := range 9 {
				row, l := times(9, ofCase("z")), slices.Repeat([]string{"case z"}, 9)
				row[i], l[i] = k.x, s
				written(t, of.op(row...), strings.Join(l, w))
			}
		}
	}
	// Each pair of them.
	for _, k := range kinds {
		for _, m := range kinds {
			written(t, and(k.x, m.x), laid(k.text, k.inAnd)+" and "+laid(m.text, m.inAnd))
			written(t, or(k.x, m.x), laid(k.text, k.inOr)+" or "+laid(m.text, m.inOr))
			written(t, or(not(k.x), and(m.x, not(m.x))), "not "+laid(k.text, k.inNot)+" or "+laid(m.text, m.inAnd)+" and not "+laid(m.text, m.inNot))
		}
	}
}

func TestWrittenGreatest(t *testing.T) {
	for n := 2; n < 30; n++ {
		for _, of := range []struct {
			op      func(...api.Scope) api.Scope
			between string
		}{{and, " and "}, {or, " or "}} {
			x, s := of.op(times(n, ofSub("s1"))...), "subject s1"+strings.Repeat(of.between+"subject s1", n-1)
			if n < mostNodes {
				written(t, x, s)
			} else {
				refused(t, x)
			}
			if n < mostNodes-1 {
				written(t, not(x), "not ( "+s+" )")
			} else {
				refused(t, not(x))
			}
		}
	}
	// No text is longer than one of this scope.
	x := times(mostNodes-1, time(mostClock, mostClock))
	s, e := writ.Text(and(x...))
	if e != api.OK || len(s) != 846 {
		t.Errorf("the longest text: error %d, %d bytes", e, len(s))
	}
	writes(t, and(x...))
	writes(t, or(x...))
	writes(t, not(and(x[1:]...)))
	writes(t, and(append(times(15, x[0]), or(times(6, x[0])...))...))
}

func TestWrittenDeepest(t *testing.T) {
	for n := range 30 {
		right := n+1 <= mostDepth
		for _, ahead := range []bool{true, false} {
			for _, x := range []api.Scope{nots(n, all()), comb(and, n+1, ahead), comb(or, n+1, ahead)} {
				if writes(t, x) != right {
					t.Errorf("%d deep: may be is %v", n+1, !right)
				}
			}
		}
	}
	a, c := "case a", "class c"
	for range 7 {
		a, c = "subject b and ( "+a+" )", "( "+c+" ) or class c"
	}
	written(t, comb(and, mostDepth, true), strings.Replace(a, "( case a )", "case a", 1))
	written(t, comb(or, mostDepth, false), strings.Replace(c, "( class c )", "case a", 1))
	// The most brackets and nots within one another.
	x := and(all(), all())
	for range 3 {
		x = and(all(), not(x))
	}
	written(t, x, "all and not ( all and not ( all and not ( all and all ) ) )")
}

// few are scopes that may not be, each for another cause.
func few() []api.Scope {
	a := ofCase("a")
	return []api.Scope{
		{}, {Op: 9}, {Op: -1}, {Op: math.MinInt}, {Op: opAll + 256}, {Op: opAll, Name: "a"}, {Op: opAll, From: 1}, {Op: opAll, To: 1}, {Op: opAll, Kids: times(1, a)},
		ofCase(""), ofSub(""), ofClass(""), ofCase("a b"), ofSub("A"), ofClass(strings.Repeat("a", mostName+1)), ofClass(" "), ofSub("("), {Op: opCase, Name: "a", To: 1}, {Op: opSub, Name: "a", Kids: times(2, a)}, {Op: opClass, Name: "a", From: 1, To: 1},
		time(2, 1), time(-1, 1), time(0, mostClock+1), {Op: opTime, Name: "a"}, {Op: opTime, Kids: times(1, a)},
		and(), and(a), or(), or(a), not(), not(a, a), {Op: opAnd, Name: "a", Kids: times(2, a)}, {Op: opOr, To: 1, Kids: times(2, a)}, {Op: opNot, From: -1, Kids: times(1, a)},
		nots(8, a), and(times(24, a)...), or(times(24, a)...), comb(and, 9, true), comb(or, 9, false),
	}
}

func TestWhatMayNotBe(t *testing.T) {
	for _, x := range few() {
		refused(t, x)
		refused(t, not(x))
		for _, op := range []func(...api.Scope) api.Scope{and, or} {
			for _, y := range []api.Scope{op(x, all()), op(all(), x), op(all(), x, all()), op(x, x), op(all(), not(x)), op(all(), op(all(), all(), x))} {
				refused(t, y)
				refused(t, not(y))
			}
		}
	}
	for op := -20; op < 300; op++ {
		for _, x := range []api.Scope{all(), ofCase("a"), time(5, 9), and(all(), all()), not(all())} {
			x.Op = op
			writes(t, x)
		}
	}
}

// Far beyond the limits.
func TestGreatOnes(t *testing.T) {
	for _, op := range []func(...api.Scope) api.Scope{and, or, not} {
		x, y := all(), all()
		for range 50000 {
			x, y = op(x), op(all(), y)
		}
		for _, z := range []api.Scope{x, y, and(all(), x), op(times(1<<18, ofCase("a"))...)} {
			if s, e := writ.Text(z); s != "" || e != api.ErrArg {
				t.Errorf("a great one is written: %d bytes, error %d", len(s), e)
			}
		}
	}
}

// Rules that hold everywhere, 3: a text shares nothing with the names of its scope.
func TestTextSharesNothing(t *testing.T) {
	for _, op := range []int{opCase, opSub, opClass} {
		b := []byte("name")
		x := api.Scope{Op: op, Name: unsafe.String(&b[0], len(b))}
		s, _ := writ.Text(x)
		u, _ := writ.Text(and(x, all()))
		want, more := strings.Clone(s), strings.Clone(u)
		copy(b, "else")
		if s != want || u != more || !strings.HasSuffix(s, " name") {
			t.Errorf("what was written turns with what was handed in: %q, %q", s, u)
		}
	}
}
