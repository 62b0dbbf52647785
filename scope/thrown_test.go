package scope_test

import (
	"hanaper/api"
	"hanaper/scope"
	"math/rand"
	"slices"
	"strings"
	"testing"
)

// Against the tests' own reckoning: what is thrown, right and wrong.

// pick is one of l.
func pick[T any](d *rand.Rand, l ...T) T {
	return l[d.Intn(len(l))]
}

func thrownName(d *rand.Rand) string {
	if d.Intn(4) > 0 {
		return pick(d, "a", "a", "b", "hr")
	}
	b := make([]byte, 1+d.Intn(mostName))
	for i := range b {
		b[i] = inName[d.Intn(len(inName))]
	}
	return string(b)
}

// oddName is a name, or something that is none.
func oddName(d *rand.Rand) string {
	switch d.Intn(6) {
	case 0:
		return pick(d, "", "A", "a b", "\x00", "\xff", strings.Repeat("a", mostName+1), strings.Repeat("z", 300))
	case 1:
		b := []byte(thrownName(d))
		b[d.Intn(len(b))] = byte(d.Intn(256))
		return string(b)
	}
	return thrownName(d)
}

func thrownTick(d *rand.Rand) int {
	switch d.Intn(8) {
	case 0:
		return mostClock - d.Intn(3)
	case 1:
		return d.Intn(mostClock+1) >> d.Intn(40)
	}
	return d.Intn(20)
}

func thrownRec(d *rand.Rand) api.Rec {
	r := rec(oddName(d), oddName(d), oddName(d), thrownTick(d))
	if d.Intn(10) == 0 {
		r.Tick = pick(d, edges()...)
	}
	r.Id, r.State = oddName(d), d.Intn(7)
	return r
}

func thrownLeaf(d *rand.Rand) api.Scope {
	switch op := 1 + d.Intn(5); op {
	case opAll:
		return all()
	case opTime:
		from, to := thrownTick(d), thrownTick(d)
		return time(min(from, to), max(from, to))
	default:
		return api.Scope{Op: op, Name: thrownName(d)}
	}
}

// thrown is a scope of at most so many nodes, and at most so deep; it may be, if these are not beyond the limits.
func thrown(d *rand.Rand, nodes, deep int) api.Scope {
	if nodes < 2 || deep < 2 || d.Intn(8) == 0 {
		return thrownLeaf(d)
	}
	if nodes < 3 || d.Intn(3) == 0 {
		return not(thrown(d, nodes-1, deep-1))
	}
	x := api.Scope{Op: pick(d, opAnd, opOr)}
	for left := nodes - 1; left > 0 && (len(x.Kids) < 2 || d.Intn(3) > 0); {
		most := left
		if len(x.Kids) == 0 {
			most = left - 1 // one is left for the second kid
		}
		k := thrown(d, 1+d.Intn(most), deep-1)
		x.Kids = append(x.Kids, k)
		left -= nodesOf(k)
	}
	return x
}

// odd is x, at some of its places something that it may not have.
func odd(d *rand.Rand, x api.Scope) api.Scope {
	x = own(x)
	l := spots(&x)
	for range 1 + d.Intn(2) {
		k := pick(d, l...)
		switch d.Intn(9) {
		case 0:
			k.Op = pick(d, append(strange(), opAll, opCase, opSub, opClass, opTime, opAnd, opOr, opNot)...)
		case 1:
			k.Name = oddName(d)
		case 2:
			k.From = pick(d, edges()...)
		case 3:
			k.To = pick(d, edges()...)
		case 4:
			k.From, k.To = k.To, k.From
		case 5:
			k.Kids = append(slices.Clone(k.Kids), thrownLeaf(d))
		case 6:
			k.Kids = k.Kids[:max(len(k.Kids)-1, 0)]
		case 7:
			k.Kids = slices.Repeat(k.Kids, 2)
		case 8:
			k.Kids = nil
		}
	}
	return x
}

func TestThrownScopes(t *testing.T) {
	d := rand.New(rand.NewSource(201))
	count := map[bool]int{}
	hits := map[bool]int{}
	for range 20000 {
		x := thrown(d, 1+d.Intn(mostNodes), 1+d.Intn(mostDepth))
		holds(t, x, true)
		y, z := odd(d, x), thrown(d, 1+d.Intn(mostNodes+12), 1+d.Intn(mostDepth+3))
		count[held(t, y)]++
		count[held(t, z)]++
		for range 3 {
			r := thrownRec(d)
			hits[match(t, x, r)]++
			hits[match(t, y, r)]++
			hits[match(t, z, r)]++
		}
		sameTo(t, x, own(x), true)
		sameTo(t, x, y, shown(x) == shown(y))
		sameTo(t, x, z, shown(x) == shown(z))
	}
	if count[true] < 10000 || count[false] < 5000 || hits[true] < 30000 || hits[false] < 30000 {
		t.Errorf("may be and not: %v, match and not: %v", count, hits)
	}
}

// P20.4: the greatest and the deepest among them.
func TestThrownPutAndGot(t *testing.T) {
	d := rand.New(rand.NewSource(202))
	greatest, deepest, longest := 0, 0, 0
	for range 40000 {
		x := thrown(d, mostNodes-d.Intn(2), mostDepth)
		b, e := scope.Put(x)
		y, f := scope.Get(b)
		if e != api.OK || f != api.OK || !scope.Same(x, y) || !scope.Same(y, x) || shown(x) != shown(y) {
			t.Fatalf("%s, put and got: %s, errors %d and %d", shown(x), shown(y), e, f)
		}
		if nodesOf(x) == mostNodes {
			greatest++
		}
		if depthOf(x) == mostDepth {
			deepest++
		}
		longest = max(longest, len(b))
	}
	if greatest < 1000 || deepest < 1000 || longest < 100 {
		t.Errorf("%d of the greatest, %d of the deepest, %d bytes at most", greatest, deepest, longest)
	}
}

// Bytes of scopes, right, of such as may not be, and with one byte that is another one, less, or more; and thrown ones.
func TestThrownBytes(t *testing.T) {
	d := rand.New(rand.NewSource(203))
	count := map[bool]int{}
	for range 20000 {
		x := thrown(d, 1+d.Intn(mostNodes), 1+d.Intn(mostDepth))
		b := bytesOf(x)
		getTo(t, b, x, api.OK)
		i := d.Intn(len(b))
		c := slices.Clone(b)
		c[i] = byte(d.Intn(256))
		count[get(t, c)]++
		c[i] = b[i] ^ 1<<d.Intn(8)
		count[get(t, c)]++
		c[i] = pick(d, b...)
		count[get(t, c)]++
		count[get(t, slices.Delete(c, i, i+1))]++
		count[get(t, slices.Insert(slices.Clone(b), i, byte(d.Intn(12))))]++
		count[get(t, bytesOf(thrown(d, 1+d.Intn(mostNodes+12), 1+d.Intn(mostDepth+3))))]++
		y := odd(d, x)
		count[get(t, bytesOf(y))]++
		z := make([]byte, d.Intn(20))
		for i := range z {
			z[i] = byte(pick(d, 0, 1, 1, 1, 2, 5, 6, 7, 8, 97, d.Intn(256)))
		}
		count[get(t, z)]++
	}
	if count[true] < 20000 || count[false] < 20000 {
		t.Errorf("bytes that are a scope, and not: %v", count)
	}
}

// P20.5.

// turnedOut are the Kids of x, each turned round.
func turnedOut(x api.Scope) []api.Scope {
	var l []api.Scope
	for _, k := range x.Kids {
		l = append(l, not(k))
	}
	return l
}

// dual holds what P20.5 says of these.
func dual(t *testing.T, r api.Rec, kids ...api.Scope) bool {
	t.Helper()
	x, y := and(kids...), or(kids...)
	both, one := scope.Match(not(x), r), scope.Match(not(y), r)
	if both != scope.Match(or(turnedOut(x)...), r) {
		t.Errorf("not (and) of %s, and or (not): not the same of %#v", short(shown(x)), r)
	}
	if one != scope.Match(and(turnedOut(y)...), r) {
		t.Errorf("not (or) of %s, and and (not): not the same of %#v", short(shown(y)), r)
	}
	return both
}

func TestDual(t *testing.T) {
	d := rand.New(rand.NewSource(204))
	count := map[bool]int{}
	for range 30000 {
		r := thrownRec(d)
		a, b := thrown(d, 6, 4), thrown(d, 6, 4)
		count[dual(t, r, a, b)]++
		count[dual(t, r, odd(d, a), b)]++
		count[dual(t, r, a, thrownLeaf(d), odd(d, b), a)]++
		if x := thrown(d, 12, 6); len(x.Kids) > 0 {
			count[dual(t, r, x.Kids...)]++
		}
	}
	if count[true] < 20000 || count[false] < 20000 {
		t.Errorf("matched and not: %v", count)
	}
	for _, r := range []api.Rec{{}, rec("a", "b", "c", 5)} {
		dual(t, r)
		for _, x := range append(some(), few()...) {
			dual(t, r, x)
			for _, y := range append(some(), few()...) {
				dual(t, r, x, y)
				dual(t, r, x, y, x)
			}
		}
	}
}

// By hand: not (a and b) matches what is not a, or not b.
func TestDualByHand(t *testing.T) {
	a, b := ofCase("a"), ofSub("b")
	for i := range 4 {
		isA, isB := i&1 == 1, i&2 == 2
		r := rec("x", "x", "x", 0)
		if isA {
			r.Case = "a"
		}
		if isB {
			r.Sub = "b"
		}
		matchTo(t, not(and(a, b)), r, !isA || !isB)
		matchTo(t, or(not(a), not(b)), r, !isA || !isB)
		matchTo(t, not(or(a, b)), r, !isA && !isB)
		matchTo(t, and(not(a), not(b)), r, !isA && !isB)
	}
}
