package rule_test

import (
	"hanaper/api"
	"hanaper/rule"
	"math"
	"math/rand"
	"slices"
	"testing"
)

// Against the tests' own reckoning: what is thrown, small and great, right and wrong.

// pick is one of l.
func pick[T any](d *rand.Rand, l ...T) T {
	return l[d.Intn(len(l))]
}

// thrownWord is a word, mostly one of few.
func thrownWord(d *rand.Rand) string {
	if d.Intn(8) > 0 {
		return pick(d, "a", "b", "a-b", "ab", "after-a", "x")
	}
	s := ""
	for !isWord(s) {
		s = ""
		for range 1 + d.Intn(mostName) {
			s += string(inWord[d.Intn(len(inWord))])
		}
	}
	return s
}

func thrownDays(d *rand.Rand) int {
	if d.Intn(8) > 0 {
		return pick(d, 0, 1, 2, 7, 14, 30, 60, 365, 730, mostDays)
	}
	return d.Intn(mostDays+1) >> d.Intn(21)
}

// thrown is a condition that may be, of at most so many nodes, at most so deep.
func thrown(d *rand.Rand, most, deep int) api.Expr {
	if most < 3 || deep < 2 || d.Intn(12) == 0 {
		return after(thrownDays(d), thrownWord(d))
	}
	x := api.Expr{Op: pick(d, opOr, opAnd)}
	for left := most - 1; left > 0 && (len(x.Kids) < 2 || d.Intn(4) > 0); {
		room := left
		if len(x.Kids) == 0 {
			room-- // for the second one
		}
		k := thrown(d, pick(d, 1, 1+d.Intn(room), room), deep-1)
		x.Kids = append(x.Kids, k)
		left -= nodesOf(k)
	}
	return x
}

// spoilt is x, one place of it done something with.
func spoilt(d *rand.Rand, x api.Expr) api.Expr {
	a := after(thrownDays(d), thrownWord(d))
	return changed(x, d.Intn(nodesOf(x)), pick(d,
		func(k *api.Expr) { k.Op = pick(d, 0, 1, 2, 3, 4, -1, math.MinInt, math.MaxInt, 1<<32+1) },
		func(k *api.Expr) { k.Days = pick(d, 0, 1, -1, mostDays, mostDays+1, math.MinInt, math.MaxInt, 1<<32) },
		func(k *api.Expr) { k.Mile = pick(d, "", "a", "or", "then", "A", "a.b", "1a", "orr", "a_b", " ") },
		func(k *api.Expr) { k.Kids = nil },
		func(k *api.Expr) { k.Kids = append(k.Kids, a) },
		func(k *api.Expr) { k.Kids = k.Kids[:max(0, len(k.Kids)-1)] },
		func(k *api.Expr) { slices.Reverse(k.Kids) },
		func(k *api.Expr) { *k = or(*k, a) },
		func(k *api.Expr) { *k = and(a, *k) },
		func(k *api.Expr) { *k = or(*k) },
		func(k *api.Expr) { *k = a },
	))
}

func TestThrownConditions(t *testing.T) {
	d := rand.New(rand.NewSource(171))
	var nodes [mostNodes + 1]int
	var depths [mostDepth + 1]int
	var fairs [2]int
	for range 20000 {
		x := thrown(d, 1+d.Intn(mostNodes), 1+d.Intn(mostDepth))
		if !held(t, x) {
			t.Fatalf("%s is to be one that may be", shown(x))
		}
		nodes[nodesOf(x)]++
		depths[depthOf(x)]++
		for range 3 {
			x = spoilt(d, x)
			if held(t, x) {
				fairs[1]++
			} else {
				fairs[0]++
			}
		}
	}
	if slices.Min(nodes[1:2]) == 0 || slices.Min(nodes[3:]) == 0 || slices.Min(depths[1:]) == 0 || min(fairs[0], fairs[1]) < 10000 {
		t.Errorf("nodes %v, depths %v, that may not be and may: %v", nodes, depths, fairs)
	}
}

// Greater ones than may be.
func TestThrownGreatConditions(t *testing.T) {
	d := rand.New(rand.NewSource(172))
	var fairs [2]int
	for range 10000 {
		x := thrown(d, mostNodes-4+d.Intn(10), mostDepth-2+d.Intn(5))
		if held(t, x) {
			fairs[1]++
		} else {
			fairs[0]++
		}
	}
	if min(fairs[0], fairs[1]) < 1000 {
		t.Errorf("that may not be and may: %v", fairs)
	}
}

// All conditions of at most three nodes, out of few parts.
func TestAllOfThreeNodes(t *testing.T) {
	var parts []api.Expr
	for _, op := range []int{0, opAfter, opOr, opAnd, 4} {
		for _, days := range []int{-1, 0, 1} {
			for _, m := range []string{"", "a", "or"} {
				parts = append(parts, api.Expr{Op: op, Days: days, Mile: m})
			}
		}
	}
	count := 0
	for _, x := range parts {
		for _, y := range parts {
			for i, z := range parts {
				if i == 0 {
					x.Kids = []api.Expr{y}
					held(t, x)
				}
				x.Kids = []api.Expr{y, z}
				if held(t, x) {
					count++
				}
				y.Kids, x.Kids = []api.Expr{z}, []api.Expr{y}
				if rule.Check([]api.Rule{of("", x, keep)}) != api.ErrArg {
					t.Errorf("%s may not be", shown(x))
				}
				y.Kids = nil
			}
		}
		x.Kids = nil
		held(t, x)
	}
	if count != 2*2*2 { // or, and; of 0d or 1d after a
		t.Errorf("%d may be", count)
	}
}

// thrownClass is a class, mostly one of few.
func thrownClass(d *rand.Rand) string {
	if d.Intn(6) > 0 {
		return pick(d, "", "a", "b", "hr", "a.b", "tax", "x-1", "default")
	}
	s := ""
	for range 1 + d.Intn(mostName) {
		s += string(inName[d.Intn(len(inName))])
	}
	return s
}

// thrownList is a list of at most so many rules, of conditions of at most so many nodes, that may be but for its classes.
func thrownList(d *rand.Rand, most, nodes int) []api.Rule {
	var l []api.Rule
	for range d.Intn(most + 1) {
		l = append(l, of(thrownClass(d), thrown(d, 1+d.Intn(nodes), mostDepth), pick(d, destroy, review, keep)))
	}
	return l
}

// spoiltList is l, one part of it another one.
func spoiltList(d *rand.Rand, l []api.Rule) []api.Rule {
	l = ownAll(l)
	if len(l) == 0 {
		return append(l, of("", thrown(d, 3, 3), keep))
	}
	i, j := d.Intn(len(l)), d.Intn(len(l))
	switch d.Intn(8) {
	case 0:
		l[i].Class = pick(d, "", "a", "b", "A", "a b", "sixteen.letters_", "seventeen.letters", "\xff")
	case 1:
		l[i].Act = pick(d, destroy, review, keep, 0, 4, -1, 1<<32+1)
	case 2:
		l[i], l[j] = l[j], l[i]
	case 3:
		l = slices.Delete(l, i, i+1)
	case 4:
		l = slices.Insert(l, j, of(thrownClass(d), thrown(d, 3, 3), keep))
	default:
		l[i].When = spoilt(d, l[i].When)
	}
	return l
}

func TestThrownLists(t *testing.T) {
	d := rand.New(rand.NewSource(173))
	seen := map[api.Errno]int{}
	for i := range 30000 {
		l := thrownList(d, []int{3, 6, 12, 14}[i%4], []int{24, 9, 1, 3}[i/4%4])
		for range 3 {
			seen[all(t, l...)]++
			backAgain(t, l)
			for _, s := range []string{"", "a", "hr", "zz", thrownClass(d)} {
				find(t, l, s)
			}
			k := spoiltList(d, l)
			sameTo(t, l, k, shownAll(l) == shownAll(k))
			l = k
		}
	}
	for _, e := range []api.Errno{api.OK, api.ErrMany, api.ErrArg, api.ErrThere, api.ErrLong} {
		if seen[e] < 1000 {
			t.Errorf("the error %d was answered %d times", e, seen[e])
		}
	}
}

// P17.3: of thrown lists that may be, many of which are nearly alike, no two that are not the same are written the same.
func TestThrownTexts(t *testing.T) {
	d := rand.New(rand.NewSource(174))
	texts := map[string]string{}
	near := 0
	for i := range 20000 {
		l := thrownList(d, 1+i%3, 5+i%5)
		for range 6 {
			k := spoiltList(d, l)
			a, e := rule.Print(l)
			b, f := rule.Print(k)
			if e == api.OK && f == api.OK {
				if (a == b) != rule.Same(l, k) || (a == b) != (shownAll(l) == shownAll(k)) {
					t.Errorf("%s and %s are written %q and %q", shownAll(l), shownAll(k), a, b)
				}
				near++
			}
			if e == api.OK {
				if texts[a] != "" && texts[a] != shownAll(l) {
					t.Errorf("%q: %s, and %s", a, shownAll(l), texts[a])
				}
				texts[a] = shownAll(l)
				backAgain(t, l)
			}
			l = k
		}
	}
	if len(texts) < 20000 || near < 20000 {
		t.Errorf("%d texts, %d pairs", len(texts), near)
	}
}

// The same is answered again, whatever was asked between.
func TestAgain(t *testing.T) {
	a := after(1, "a")
	for range 3 {
		right(t, "default keep 1d after a then keep;\n", of("", a, keep))
		wrong(t, api.ErrArg, of("", after(-1, "a"), keep))
		wrong(t, api.ErrThere, of("", a, keep), of("", a, keep))
		wrong(t, api.ErrMany, plain(mostRules+1)...)
		fair(t, or(a, or(a, a)), "1d after a or (1d after a or 1d after a)")
		unfair(t, or(a))
		find(t, plain(3), "c1")
		find(t, plain(3), "x")
	}
}
