package rule_test

import (
	"hanaper/api"
	"hanaper/rule"
	"slices"
	"testing"
	"unsafe"
)

// P17.2: Same.

// sameTo holds Same of two lists against what the document asks, and that neither is changed.
func sameTo(t *testing.T, a, b []api.Rule, want bool) {
	t.Helper()
	x, y := shownAll(a), shownAll(b)
	if rule.Same(a, b) != want || rule.Same(b, a) != want {
		t.Errorf("Same(%s, %s): %v", short(x), short(y), !want)
	}
	if shownAll(a) != x || shownAll(b) != y {
		t.Errorf("what was handed in, %s and %s, is %s and %s behind it", short(x), short(y), short(shownAll(a)), short(shownAll(b)))
	}
}

// turns are what is done with a condition to make it another one, where it does.
func turns() []func(k *api.Expr) {
	a := after(1, "a")
	return []func(k *api.Expr){
		func(k *api.Expr) { k.Op++ },
		func(k *api.Expr) { k.Op-- },
		func(k *api.Expr) { k.Op += 1 << 32 },
		func(k *api.Expr) { k.Days++ },
		func(k *api.Expr) { k.Days-- },
		func(k *api.Expr) { k.Days = -k.Days },
		func(k *api.Expr) { k.Days += 1 << 32 },
		func(k *api.Expr) { k.Mile = "" },
		func(k *api.Expr) { k.Mile += "b" },
		func(k *api.Expr) { k.Mile = "b" + k.Mile },
		func(k *api.Expr) { k.Mile += "\x00" },
		func(k *api.Expr) { k.Kids = nil },
		func(k *api.Expr) { k.Kids = append(k.Kids, a) },
		func(k *api.Expr) { k.Kids = append(k.Kids, api.Expr{}) },
		func(k *api.Expr) { k.Kids = append([]api.Expr{a}, k.Kids...) },
		func(k *api.Expr) { k.Kids = k.Kids[min(1, len(k.Kids)):] },
		func(k *api.Expr) { k.Kids = k.Kids[:max(0, len(k.Kids)-1)] },
		func(k *api.Expr) { slices.Reverse(k.Kids) },
		func(k *api.Expr) { *k = or(*k) },
		func(k *api.Expr) { *k = or(a, *k) },
		func(k *api.Expr) { *k = a },
		func(k *api.Expr) { *k = api.Expr{} },
	}
}

// turned are l, with one part another one, and l itself where nothing turned.
func turned(l []api.Rule) [][]api.Rule {
	var all [][]api.Rule
	put := func(do func(l []api.Rule) []api.Rule) { all = append(all, do(ownAll(l))) }
	for i := range l {
		for _, class := range []string{"", "a", "zz", l[i].Class + "a"} {
			put(func(l []api.Rule) []api.Rule { l[i].Class = class; return l })
		}
		for _, act := range []int{0, destroy, review, keep, 4, l[i].Act + 1<<32} {
			put(func(l []api.Rule) []api.Rule { l[i].Act = act; return l })
		}
		put(func(l []api.Rule) []api.Rule { return slices.Delete(l, i, i+1) })
		put(func(l []api.Rule) []api.Rule { return slices.Insert(l, i, l[i]) })
		put(func(l []api.Rule) []api.Rule { return slices.Insert(l, i, api.Rule{}) })
		put(func(l []api.Rule) []api.Rule { l[i] = api.Rule{}; return l })
		for j := range i {
			put(func(l []api.Rule) []api.Rule { l[i], l[j] = l[j], l[i]; return l })
			put(func(l []api.Rule) []api.Rule { l[i].When, l[j].When = l[j].When, l[i].When; return l })
		}
		for j := range spots(&l[i].When) {
			for _, turn := range turns() {
				put(func(l []api.Rule) []api.Rule { turn(spots(&l[i].When)[j]); return l })
			}
		}
	}
	put(func(l []api.Rule) []api.Rule { return append(l, api.Rule{}) })
	put(func(l []api.Rule) []api.Rule { return append(l, l...) })
	put(func(l []api.Rule) []api.Rule { slices.Reverse(l); return l })
	put(func(l []api.Rule) []api.Rule { return nil })
	return append(all, ownAll(l))
}

func TestSameOfNothing(t *testing.T) {
	none := []api.Rule{}
	sameTo(t, nil, nil, true)
	sameTo(t, nil, none, true)
	sameTo(t, none, make([]api.Rule, 0, 3), true)
	sameTo(t, nil, []api.Rule{{}}, false)
	sameTo(t, none, []api.Rule{{}}, false)
	sameTo(t, []api.Rule{{}}, []api.Rule{{}}, true)
	sameTo(t, []api.Rule{{}}, []api.Rule{{}, {}}, false)
	// Of Kids, too.
	x := api.Expr{Op: opOr, Kids: []api.Expr{{Op: opAfter, Mile: "a", Kids: []api.Expr{}}, {Op: opAfter, Mile: "b", Kids: nil}}}
	y := api.Expr{Op: opOr, Kids: []api.Expr{{Op: opAfter, Mile: "a", Kids: nil}, {Op: opAfter, Mile: "b", Kids: make([]api.Expr, 0, 9)}}}
	sameTo(t, []api.Rule{of("", x, keep)}, []api.Rule{of("", y, keep)}, true)
	sameTo(t, []api.Rule{{When: api.Expr{Kids: nil}}}, []api.Rule{{When: api.Expr{Kids: []api.Expr{}}}}, true)
	sameTo(t, []api.Rule{{When: api.Expr{Kids: nil}}}, []api.Rule{{When: api.Expr{Kids: []api.Expr{{}}}}}, false)
}

func TestSameOfUnlikeLists(t *testing.T) {
	a, b := after(1, "a"), after(2, "b")
	for _, l := range [][]api.Rule{
		{of("", a, keep)},
		{of("hr", a, keep), of("", b, destroy)},
		{of("hr", or(a, b), review), of("", and(b, or(a, b, a), a), destroy), of("x", a, keep)},
		{of("", comb(or, mostDepth, true), keep), of("a", comb(and, 5, false), keep)},
		{of("", or(and(a, b), and(or(a, b), or(and(a, b), and(b, a)))), keep)},
		// And such as may not be.
		{{}},
		{of("A", api.Expr{}, 0), of("A", api.Expr{}, 0)},
		{of("\x00", after(-5, "or", a, or(), and(b)), -1), of("", api.Expr{Op: 9, Days: -1, Mile: "Z", Kids: []api.Expr{{Op: -9}, {}}}, 99)},
		slices.Repeat([]api.Rule{of("", or(a), 4)}, 3),
	} {
		all := turned(l)
		unlike := 0
		for _, k := range all {
			same := shownAll(k) == shownAll(l)
			sameTo(t, l, k, same)
			if !same {
				unlike++
			}
		}
		if unlike < 20 {
			t.Errorf("%s: %d lists that are unlike", shownAll(l), unlike)
		}
		if len(all) > 400 {
			all = all[:400]
		}
		for _, x := range all {
			for _, y := range all[:min(len(all), 60)] {
				if rule.Same(x, y) != (shownAll(x) == shownAll(y)) {
					t.Errorf("Same(%s, %s): %v", shownAll(x), shownAll(y), rule.Same(x, y))
				}
			}
		}
	}
}

// One list that shares its parts with the other one.
func TestSameOfSharedParts(t *testing.T) {
	a := []api.Expr{after(1, "a"), after(2, "b"), after(3, "c")}
	x, y := []api.Rule{of("", or(a...), keep)}, []api.Rule{of("", or(a...), keep)}
	sameTo(t, x, y, true)
	sameTo(t, x, x, true)
	y[0].When.Kids = a[:2]
	sameTo(t, x, y, false)
	y[0].When.Kids = a[1:]
	sameTo(t, x, y, false)
	l := plain(5)
	sameTo(t, l, l[:4], false)
	sameTo(t, l[1:], l[:4], false)
	sameTo(t, l[1:3], l[1:3], true)
}

// P17.2: Find.

// findTo holds Find against what the document asks, and that l is not changed.
func findTo(t *testing.T, l []api.Rule, class string, want api.Rule, there bool) {
	t.Helper()
	ahead := shownAll(l)
	r, ok := rule.Find(l, class)
	if shownAll([]api.Rule{r}) != shownAll([]api.Rule{want}) || ok != there {
		t.Errorf("Find(%s, %q): %s, %v, not %s, %v", short(ahead), class, short(shownAll([]api.Rule{r})), ok, short(shownAll([]api.Rule{want})), there)
	}
	if shownAll(l) != ahead {
		t.Errorf("what was handed in, %s, is %s behind it", short(ahead), short(shownAll(l)))
	}
}

// find holds Find against the tests' own reckoning.
func find(t *testing.T, l []api.Rule, class string) {
	t.Helper()
	best := -1
	for i := len(l) - 1; i >= 0; i-- { // from behind: the first one comes last
		if l[i].Class == class || l[i].Class == "" && (best < 0 || l[best].Class == "") {
			best = i
		}
	}
	if best < 0 {
		findTo(t, l, class, api.Rule{}, false)
		return
	}
	findTo(t, l, class, l[best], true)
}

func TestFind(t *testing.T) {
	a, b, c := after(1, "a"), or(after(2, "b"), after(3, "c")), and(after(4, "d"), after(5, "e"))
	hr, tax, others := of("hr", a, destroy), of("tax", b, review), of("", c, keep)
	for _, l := range [][]api.Rule{{hr, tax, others}, {others, hr, tax}, {hr, others, tax}, {tax, others, hr}} {
		findTo(t, l, "hr", hr, true)
		findTo(t, l, "tax", tax, true)
		findTo(t, l, "", others, true)
		for _, s := range []string{"h", "hrr", "HR", "default", "x", " ", "\x00", "hr ", "hr\x00"} {
			findTo(t, l, s, others, true)
		}
	}
	for _, l := range [][]api.Rule{{hr, tax}, {tax, hr}} {
		findTo(t, l, "hr", hr, true)
		findTo(t, l, "tax", tax, true)
		for _, s := range []string{"", "h", "hrr", "HR", "default", "x", " "} {
			findTo(t, l, s, api.Rule{}, false)
		}
	}
	for _, s := range []string{"", "hr", "default", "A"} {
		findTo(t, nil, s, api.Rule{}, false)
		findTo(t, []api.Rule{}, s, api.Rule{}, false)
		findTo(t, []api.Rule{others}, s, others, true)
	}
}

// Also of lists that may not be: the first one of a class is told.
func TestFindOfWhatMayNotBe(t *testing.T) {
	one, two := of("hr", after(1, "a"), destroy), of("hr", after(2, "b"), keep)
	first, second := of("", after(3, "c"), review), of("", after(4, "d"), 9)
	for _, l := range [][]api.Rule{{one, two, first, second}, {first, one, second, two}, {first, second, one, two}, {one, first, two, second}} {
		findTo(t, l, "hr", one, true)
		findTo(t, l, "", first, true)
		findTo(t, l, "x", first, true)
		slices.Reverse(l)
		findTo(t, l, "hr", two, true)
		findTo(t, l, "", second, true)
		findTo(t, l, "x", second, true)
	}
	for _, x := range few() {
		odd := of("Odd one", x, -1)
		findTo(t, []api.Rule{one, odd}, "Odd one", odd, true)
		findTo(t, []api.Rule{one, odd}, "hr", one, true)
		findTo(t, []api.Rule{one, odd}, "", api.Rule{}, false)
		findTo(t, []api.Rule{one, of("", x, 0)}, "odd", of("", x, 0), true)
	}
	findTo(t, []api.Rule{{}}, "", api.Rule{}, true)
	findTo(t, []api.Rule{{Act: 2}, {Class: "hr", Act: 1}}, "hr", api.Rule{Class: "hr", Act: 1}, true)
	for _, n := range []int{mostRules, mostRules + 1, 300} {
		l := plain(n)
		for i := range l {
			findTo(t, l, l[i].Class, l[i], true)
		}
		findTo(t, l, "", api.Rule{}, false)
		l[n-1].Class = ""
		findTo(t, l, "x", l[n-1], true)
	}
	for _, classes := range [][]string{{"", "a"}, {"", "a", "b"}} {
		for n := range 81 { // all rows of four of these
			var l []api.Rule
			for i := range 4 {
				l = append(l, of(classes[n%len(classes)], after(i, "m"), keep))
				n /= 3
			}
			for _, s := range []string{"", "a", "b", "c"} {
				find(t, l, s)
				find(t, l[:2], s)
			}
		}
	}
}

// Rule 3: what Find answers shares nothing with the list, nor with another answer.
func TestFindSharesNothing(t *testing.T) {
	name := []byte("mile")
	s := unsafe.String(&name[0], len(name))
	x := or(after(1, s), and(after(2, s), or(after(3, s), after(4, s))))
	l := []api.Rule{of(s, x, keep), of("", x, destroy)}
	want := shownAll(ownAll(l[:1]))
	l[0].When.Kids = slices.Grow(l[0].When.Kids, 4)
	r, _ := rule.Find(l, "mile")
	other, _ := rule.Find(l, "mile")
	all := shownAll(l)
	for _, k := range spots(&other.When) {
		k.Op, k.Days, k.Mile = 7, 7, "other"
		_ = append(k.Kids, api.Expr{Op: 8})
	}
	if shownAll(l) != all || shownAll([]api.Rule{r}) != want {
		t.Errorf("the list and another answer turn with an answer: %s, %s", shownAll(l), shownAll([]api.Rule{r}))
	}
	copy(name, "else")
	for _, k := range spots(&l[0].When) {
		k.Op, k.Days = 5, 5
	}
	if shownAll([]api.Rule{r}) != want {
		t.Errorf("an answer turns with the list: %s, not %s", shownAll([]api.Rule{r}), want)
	}
	// Two Kids' lists of one answer, too.
	kids := []api.Expr{after(1, "a"), after(2, "b")}
	r, _ = rule.Find([]api.Rule{of("", or(or(kids...), and(kids...)), keep)}, "")
	r.When.Kids[0].Kids[0].Mile = "c"
	_ = append(r.When.Kids[0].Kids[:1], after(9, "d"))
	if kids[0].Mile != "a" || kids[1].Mile != "b" || shown(r.When.Kids[1]) != shown(and(after(1, "a"), after(2, "b"))) {
		t.Errorf("lists of one answer share: %s", shown(r.When))
	}
}
