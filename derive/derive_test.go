package derive_test

import (
	"fmt"
	"hanaper/api"
	"hanaper/derive"
	"hanaper/term"
	"math"
	"math/rand"
	"slices"
	"testing"
)

// node is a term as it is written out by hand: also one that may not be.
func node(kind int, n uint64, data []byte, kids ...api.Term) api.Term {
	return api.Term{Kind: kind, N: n, Data: data, Kids: kids}
}

var name, key, pair, enc, hash = term.Name, term.Key, term.Pair, term.Enc, term.Hash

func data(s string) api.Term { return term.Data([]byte(s)) }

// list is a list of terms.
func list(l ...api.Term) []api.Term { return l }

// join is lists, one behind the other, in memory of its own.
func join(l ...[]api.Term) []api.Term { return slices.Concat(l...) }

// names are so many names, all unlike, the first one n.
func names(n uint64, count int) []api.Term {
	l := make([]api.Term, count)
	for i := range l {
		l[i] = name(n + uint64(i))
	}
	return l
}

// below is t, under so many TmHash.
func below(t api.Term, depth int) api.Term {
	for range depth {
		t = node(api.TmHash, 0, nil, t) // term.Hash would copy it each time
	}
	return t
}

// full is a pair of pairs, so deep, of the names behind *n, which counts them: it has 2^depth - 1 Parts, all unlike.
func full(depth int, n *uint64) api.Term {
	if depth == 1 {
		*n++
		return name(*n)
	}
	a := full(depth-1, n)
	return pair(a, full(depth-1, n))
}

// shown is t as the tests' messages show it, and a text that only terms that are the same have.
func shown(t api.Term) string {
	s := fmt.Sprintf("(%d %d %x", t.Kind, t.N, t.Data)
	for _, k := range t.Kids {
		s += " " + shown(k)
	}
	return s + ")"
}

// told is a list as the tests' messages show it: of a long one only the beginning.
func told(l []api.Term) string {
	s := ""
	for _, t := range l {
		s += shown(t) + " "
	}
	if len(s) > 600 {
		return s[:600] + ".. of " + fmt.Sprint(len(l))
	}
	return s
}

// copies is l in memory of its own.
func copies(l []api.Term) []api.Term {
	var c []api.Term
	for _, t := range l {
		c = append(c, hash(t).Kids...)
	}
	return c
}

// reckoned is the closure by P6.1, all terms gone through in each round, of a list that has one.
func reckoned(l []api.Term) []api.Term {
	var all []api.Term
	there := map[string]bool{}
	put := func(t api.Term) {
		if !there[shown(t)] {
			there[shown(t)] = true
			all = append(all, t)
		}
	}
	for _, t := range l {
		put(t)
	}
	for ahead := -1; ahead < len(all); {
		ahead = len(all)
		for i := 0; i < ahead; i++ {
			t := all[i]
			if t.Kind == api.TmPair {
				put(t.Kids[0])
				put(t.Kids[1])
			}
			if t.Kind == api.TmEnc && there[shown(t.Kids[1])] {
				put(t.Kids[0])
			}
		}
	}
	return all
}

// made is whether t follows from l by P6.2, reckoned upwards: of all that stands in t, what follows is marked until nothing is new.
func made(l []api.Term, t api.Term) bool {
	known := map[string]bool{}
	for _, k := range reckoned(l) {
		known[shown(k)] = true
	}
	parts := term.Parts(t)
	for ahead := -1; ahead < len(known); {
		ahead = len(known)
		for _, p := range parts {
			switch p.Kind {
			case api.TmPair, api.TmEnc:
				if known[shown(p.Kids[0])] && known[shown(p.Kids[1])] {
					known[shown(p)] = true
				}
			case api.TmHash:
				if known[shown(p.Kids[0])] {
					known[shown(p)] = true
				}
			}
		}
	}
	return known[shown(t)]
}

// covered is P6.3, place by place: above are the terms that the place stands in, each with the place of the Kid that leads to it.
func covered(t, secret api.Term, keys []uint64) bool {
	type step struct {
		t  api.Term
		at int
	}
	within := func(above []step) bool {
		for _, s := range above {
			if s.t.Kind == api.TmHash || s.t.Kind == api.TmEnc && s.at == 0 && slices.Contains(keys, s.t.Kids[1].N) {
				return true
			}
		}
		return false
	}
	var all func(t api.Term, above []step) bool
	all = func(t api.Term, above []step) bool {
		good := shown(t) != shown(secret) || within(above)
		for i, k := range t.Kids {
			good = all(k, append(slices.Clone(above), step{t, i})) && good
		}
		return good
	}
	return all(t, nil)
}

// alike holds a list against the one that the document asks, term by term.
func alike(t *testing.T, what string, got, want []api.Term) {
	t.Helper()
	for i := range min(len(got), len(want)) {
		if shown(got[i]) != shown(want[i]) {
			t.Errorf("%s: at %d %s, not %s", what, i, shown(got[i]), shown(want[i]))
			return
		}
	}
	if len(got) != len(want) {
		t.Errorf("%s: %d terms, not %d: %s", what, len(got), len(want), told(got))
	}
}

// closes holds l's closure against the list that the document asks.
func closes(t *testing.T, what string, l, want []api.Term) {
	t.Helper()
	got, e := derive.Closure(l)
	if e != api.OK {
		t.Errorf("Closure of %s: %d", what, e)
		return
	}
	alike(t, "Closure of "+what, got, want)
}

// follows holds Follows against what the document asks.
func follows(t *testing.T, l []api.Term, a api.Term, want bool) {
	t.Helper()
	if got, e := derive.Follows(l, a); got != want || e != api.OK {
		t.Errorf("Follows of %s, from %s: %t, %d", shown(a), told(l), got, e)
	}
}

// guards holds Guarded against what the document asks.
func guards(t *testing.T, a, secret api.Term, keys []uint64, want bool) {
	t.Helper()
	if got := derive.Guarded(a, secret, keys); got != want {
		t.Errorf("Guarded of %s, in %s, by %d: %t", shown(secret), shown(a), keys, got)
	}
}

// fails asks that both calls answer the error of l, and nothing beside it.
func fails(t *testing.T, what string, l []api.Term, want api.Errno) {
	t.Helper()
	if got, e := derive.Closure(l); e != want || len(got) > 0 {
		t.Errorf("Closure of %s: %d terms, %d", what, len(got), e)
	}
	if is, e := derive.Follows(l, name(1)); is || e != want {
		t.Errorf("Follows from %s: %t, %d", what, is, e)
	}
}

// dice are terms that are thrown of few numbers, so that the same ones stand at many places.
type dice struct{ *rand.Rand }

func throw() dice { return dice{rand.New(rand.NewSource(6))} }

// term is a term, at most so deep.
func (d dice) term(depth int) api.Term {
	kind := 1 + d.Intn(3)
	if depth > 1 {
		kind = 1 + d.Intn(7)
	}
	switch kind {
	case api.TmName:
		return name(uint64(d.Intn(3)))
	case api.TmKey:
		return key(uint64(d.Intn(4)))
	case api.TmData:
		return data([]string{"", "a", "b"}[d.Intn(3)])
	case api.TmHash:
		return hash(d.term(depth - 1))
	case api.TmPair:
		return pair(d.term(depth-1), d.term(depth-1))
	}
	return enc(uint64(d.Intn(2)), d.term(depth-1), key(uint64(d.Intn(4))))
}

// list is a list of fewer than n terms.
func (d dice) list(n, depth int) []api.Term {
	var l []api.Term
	for range d.Intn(n) {
		l = append(l, d.term(depth))
	}
	return l
}

// keys are some of the keys' numbers.
func (d dice) keys() []uint64 {
	var l []uint64
	for n := range uint64(4) {
		if d.Intn(2) == 0 {
			l = append(l, n)
		}
	}
	return l
}

// asked are terms that may be asked for beside l: all that stands in it, simple ones, and ones that are put together.
func (d dice) asked(l []api.Term) []api.Term {
	all := list(name(0), name(9), key(0), key(9), data(""), data("z"))
	for _, t := range l {
		all = append(all, term.Parts(t)...)
	}
	pick := func() api.Term { return all[d.Intn(len(all))] }
	for range 10 {
		all = append(all, hash(pick()), pair(pick(), pick()), enc(uint64(d.Intn(2)), pick(), key(uint64(d.Intn(4)))))
	}
	return slices.DeleteFunc(all, func(t api.Term) bool { return term.Check(t) != api.OK })
}

// The chapter's example.

func TestExample(t *testing.T) {
	a, k := data("a"), key(7)
	follows(t, list(enc(1, a, k), k), a, true)
	follows(t, list(enc(1, a, k)), a, false)
	closes(t, "the example", list(enc(1, a, k), k), list(enc(1, a, k), k, a))
	closes(t, "the first alone", list(enc(1, a, k)), list(enc(1, a, k)))
}

// P6.1: Closure.

func TestClosureByHand(t *testing.T) {
	a, b, n, k, m := data("a"), data("b"), name(9), key(7), key(8)
	for what, c := range map[string][2][]api.Term{
		"a name":                   {list(n), list(n)},
		"a name of 0":              {list(name(0)), list(name(0))},
		"a key":                    {list(k), list(k)},
		"Data":                     {list(a), list(a)},
		"no Data":                  {list(data("")), list(data(""))},
		"a pair":                   {list(pair(a, b)), list(pair(a, b), a, b)},
		"a pair of one twice":      {list(pair(a, a)), list(pair(a, a), a)},
		"an Enc":                   {list(enc(1, a, k)), list(enc(1, a, k))},
		"an Enc of its own key":    {list(enc(1, k, k)), list(enc(1, k, k))},
		"a sum":                    {list(hash(a)), list(hash(a))},
		"a sum of a pair":          {list(hash(pair(a, b))), list(hash(pair(a, b)))},
		"a sum of what is sealed":  {list(hash(enc(1, a, k)), k), list(hash(enc(1, a, k)), k)},
		"all six":                  {list(n, k, a, pair(b, n), enc(1, b, m), hash(m)), list(n, k, a, pair(b, n), enc(1, b, m), hash(m), b)},
		"an Enc and its key":       {list(enc(1, a, k), k), list(enc(1, a, k), k, a)},
		"a key and its Enc":        {list(k, enc(1, a, k)), list(k, enc(1, a, k), a)},
		"an Enc and another key":   {list(enc(1, a, k), m), list(enc(1, a, k), m)},
		"an Enc and a name":        {list(enc(1, a, k), name(7)), list(enc(1, a, k), name(7))},
		"an Enc and its key's sum": {list(enc(1, a, k), hash(k)), list(enc(1, a, k), hash(k))},
		"two nonces":               {list(enc(1, a, k), enc(2, b, k), k), list(enc(1, a, k), enc(2, b, k), k, a, b)},
		"one Enc, two nonces":      {list(enc(1, a, k), enc(2, a, k), k), list(enc(1, a, k), enc(2, a, k), k, a)},
		"the nonce is no key":      {list(enc(8, a, k), m), list(enc(8, a, k), m)},
		"a key beside its Enc":     {list(pair(k, enc(1, a, k))), list(pair(k, enc(1, a, k)), k, enc(1, a, k), a)},
		"a sealed pair":            {list(enc(1, pair(a, b), k), k), list(enc(1, pair(a, b), k), k, pair(a, b), a, b)},
		"sealed twice, both keys":  {list(enc(1, enc(2, a, m), k), k, m), list(enc(1, enc(2, a, m), k), k, m, enc(2, a, m), a)},
		"sealed twice, outer key":  {list(enc(1, enc(2, a, m), k), k), list(enc(1, enc(2, a, m), k), k, enc(2, a, m))},
		"sealed twice, inner key":  {list(enc(1, enc(2, a, m), k), m), list(enc(1, enc(2, a, m), k), m)},
		"sealed twice, one key":    {list(enc(1, enc(2, a, k), k), k), list(enc(1, enc(2, a, k), k), k, enc(2, a, k), a)},
		"a sealed key":             {list(enc(1, m, k), enc(2, a, m), k), list(enc(1, m, k), enc(2, a, m), k, m, a)},
		"keys in a ring":           {list(enc(1, m, k), enc(2, k, m)), list(enc(1, m, k), enc(2, k, m))},
		"the greatest key": {list(enc(math.MaxUint64, a, key(math.MaxUint64)), key(math.MaxUint64)),
			list(enc(math.MaxUint64, a, key(math.MaxUint64)), key(math.MaxUint64), a)},
	} {
		closes(t, what, c[0], c[1])
	}
}

// The order: the list's own terms first, then round by round.
func TestClosureInOrder(t *testing.T) {
	a, b, c, d, k, m := data("a"), data("b"), data("c"), data("d"), key(7), key(8)
	both := pair(pair(a, b), pair(c, d))
	closes(t, "pairs in pairs", list(both), list(both, pair(a, b), pair(c, d), a, b, c, d))
	long := pair(a, pair(b, pair(c, d)))
	closes(t, "pairs, deep behind", list(long), list(long, a, pair(b, pair(c, d)), b, pair(c, d), c, d))
	closes(t, "a pair, and what is in it ahead", list(b, pair(a, b)), list(b, pair(a, b), a))
	closes(t, "a pair, and what is in it behind", list(pair(a, b), d, b), list(pair(a, b), d, b, a))
	closes(t, "a later round behind all of an earlier one", list(pair(pair(a, b), c), pair(d, m)),
		list(pair(pair(a, b), c), pair(d, m), pair(a, b), c, d, m, a, b))
	closes(t, "a key of a later round", list(enc(1, a, k), pair(pair(k, b), c)),
		list(enc(1, a, k), pair(pair(k, b), c), pair(k, b), c, k, b, a))
	closes(t, "two keys, of two rounds", list(enc(1, a, m), enc(2, pair(b, m), k), pair(k, c)),
		list(enc(1, a, m), enc(2, pair(b, m), k), pair(k, c), k, c, pair(b, m), b, m, a))
	closes(t, "keys in turn", list(enc(1, a, key(3)), enc(1, key(3), key(2)), enc(1, key(2), key(1)), key(1)),
		list(enc(1, a, key(3)), enc(1, key(3), key(2)), enc(1, key(2), key(1)), key(1), key(2), key(3), a))
}

// A key that is put behind in a round is there for those that the round comes to later, not for those it has gone through.
func TestClosureOfKeysWithinARound(t *testing.T) {
	a, b, c, d, k := data("a"), data("b"), data("c"), data("d"), key(7)
	closes(t, "a key ahead of its Enc", list(pair(k, b), enc(1, c, k), pair(d, a)),
		list(pair(k, b), enc(1, c, k), pair(d, a), k, b, c, d, a))
	closes(t, "a key behind its Enc", list(enc(1, c, k), pair(k, b), pair(d, a)),
		list(enc(1, c, k), pair(k, b), pair(d, a), k, b, d, a, c))
	closes(t, "keys in turn, ahead", list(key(1), enc(1, key(2), key(1)), enc(1, key(3), key(2)), enc(1, a, key(3)), pair(b, c)),
		list(key(1), enc(1, key(2), key(1)), enc(1, key(3), key(2)), enc(1, a, key(3)), pair(b, c), key(2), key(3), a, b, c))
	closes(t, "what was shut stays in its order", list(enc(1, a, k), enc(2, b, key(1)), enc(3, c, k), pair(pair(k, d), d)),
		list(enc(1, a, k), enc(2, b, key(1)), enc(3, c, k), pair(pair(k, d), d), pair(k, d), d, k, a, c))
	closes(t, "what was shut is ahead of what came to light", list(enc(1, a, k), pair(pair(k, d), enc(2, c, k))),
		list(enc(1, a, k), pair(pair(k, d), enc(2, c, k)), pair(k, d), enc(2, c, k), k, d, c, a))
}

func TestClosureHasEachOnce(t *testing.T) {
	a, b, k := data("a"), data("b"), key(7)
	closes(t, "one term many times", list(a, a, a, a), list(a))
	closes(t, "one pair many times", list(pair(a, b), pair(a, b), b, pair(a, b), b), list(pair(a, b), b, a))
	closes(t, "one Enc many times", list(enc(1, a, k), k, enc(1, a, k), k), list(enc(1, a, k), k, a))
	closes(t, "what two pairs have", list(pair(a, b), pair(b, a), pair(a, a)), list(pair(a, b), pair(b, a), pair(a, a), a, b))
	closes(t, "nil and empty Data", list(node(api.TmData, 0, nil), node(api.TmData, 0, []byte{})), list(data("")))
	closes(t, "nil and no Kids", list(name(1), node(api.TmName, 1, nil, list()...)), list(name(1)))
	many := make([]api.Term, 300)
	for i := range many {
		many[i] = pair(a, enc(1, b, k))
	}
	closes(t, "one pair 300 times", many, list(many[0], a, enc(1, b, k)))
	unlike := list(name(0), name(1), key(0), key(1), data(""), data("a"), data("b"), data("ab"), data("\x00"),
		hash(a), hash(b), hash(hash(a)), enc(1, a, k), enc(2, a, k), enc(1, b, k), enc(1, a, key(8)))
	closes(t, "terms that are all unlike", unlike, unlike)
	closes(t, "these, twice", join(unlike, unlike), unlike)
}

func TestClosureOfNoTerms(t *testing.T) {
	for _, l := range [][]api.Term{nil, {}} {
		closes(t, "no terms", l, nil)
		for _, a := range list(name(0), key(0), data(""), hash(data("")), pair(data(""), data("")), enc(0, data(""), key(0))) {
			follows(t, l, a, false)
		}
	}
}

func TestClosureOfThrownTerms(t *testing.T) {
	d := throw()
	for range 4000 {
		l := d.list(12, 5)
		closes(t, told(l), l, reckoned(l))
	}
	for range 40 {
		l := d.list(60, 4)
		closes(t, told(l), l, reckoned(l))
	}
}

// Keys that come to light one a round, through all the rounds that 2000 Parts can ask for.
func TestClosureOfLongChains(t *testing.T) {
	links := make([]api.Term, 500) // each opens the one ahead of it
	for i := range links {
		links[len(links)-1-i] = enc(uint64(i), key(uint64(i+1)), key(uint64(i)))
	}
	l := make([]api.Term, 0, 251)
	for i := 0; i < len(links); i += 2 {
		l = append(l, pair(links[i], links[i+1]))
	}
	want := append(slices.Clone(l), key(0))
	want = append(want, links...)
	for i := range links {
		want = append(want, key(uint64(i+1)))
	}
	closes(t, "a chain of 500 keys", append(l, key(0)), want)
	follows(t, append(l, key(0)), key(500), true)
	follows(t, append(l, key(1)), key(500), true)
	follows(t, append(l, key(1)), key(0), false)
	follows(t, l, key(500), false)
	follows(t, append(l, key(501)), key(500), false)
}

// P6.1: the errors, of Closure and of Follows.

func TestHowManyTerms(t *testing.T) {
	closes(t, "300 names", names(1, 300), names(1, 300))
	follows(t, names(1, 300), name(300), true)
	follows(t, names(1, 300), name(301), false)
	fails(t, "301 names", names(1, 301), api.ErrMany)
	fails(t, "3000 names", names(1, 3000), api.ErrMany)
	one := make([]api.Term, 301)
	for i := range one {
		one[i] = name(1)
	}
	closes(t, "one name 300 times", one[:300], list(name(1)))
	fails(t, "one name 301 times", one, api.ErrMany)
}

// partsOf is a list of so many Parts in all, at most 300 terms: pairs of pairs, 63 or 255 of them each, and names.
func partsOf(n int) []api.Term {
	var l []api.Term
	next := uint64(0)
	for ; n >= 255; n -= 255 {
		l = append(l, full(8, &next))
	}
	for ; n >= 63; n -= 63 {
		l = append(l, full(6, &next))
	}
	return append(l, names(next+1, n)...)
}

func TestHowManyParts(t *testing.T) {
	for _, n := range []int{1, 255, 1000, 1998, 1999, 2000} {
		l := partsOf(n)
		closes(t, fmt.Sprint(n, " Parts"), l, reckoned(l))
		if all, _ := derive.Closure(l); len(all) != n {
			t.Errorf("Closure of %d unlike Parts: %d", n, len(all))
		}
		follows(t, l, name(1), true)
		follows(t, l, name(0), false)
	}
	for _, n := range []int{2001, 2002, 2300, 9000} {
		fails(t, fmt.Sprint(n, " Parts"), partsOf(n), api.ErrMany)
	}
}

// All Parts count, one by one: also those that are there already, and those that don't come to light.
func TestWhichPartsCount(t *testing.T) {
	n := name(1)
	for what, a := range map[string]api.Term{
		"pairs of one twice":        pair(pair(n, n), hash(pair(n, n))),
		"what a sum has in it":      hash(pair(pair(n, n), pair(n, n))),
		"what is sealed, and keys":  enc(1, hash(enc(2, pair(n, name(2)), key(8))), key(7)),
		"sums in sums":              below(n, 7),
		"a deep one beside a plain": pair(below(n, 5), n),
	} {
		if size := len(term.Parts(a)); size != 8 {
			t.Fatalf("%s: %d Parts", what, size)
		}
		l := make([]api.Term, 250)
		for i := range l {
			l[i] = a
		}
		closes(t, "2000 Parts: "+what, l, reckoned(list(a)))
		follows(t, l, a, true)
		fails(t, "2001 Parts, a name behind: "+what, append(l, n), api.ErrMany)
		fails(t, "2001 Parts, a name ahead: "+what, join(list(n), l), api.ErrMany)
		closes(t, "2000 Parts, a name ahead of 249: "+what, join(names(3, 8), l[1:]), reckoned(append(names(3, 8), a)))
		fails(t, "2001 Parts, names ahead of 249: "+what, join(names(3, 9), l[1:]), api.ErrMany)
	}
}

// wrongs are terms that may not be.
func wrongs() []api.Term {
	n, k := name(1), key(2)
	l := list(
		api.Term{}, node(7, 0, nil), node(-1, 0, nil), node(256, 0, nil), node(math.MaxInt, 0, nil), node(math.MinInt, 0, nil), node(1<<32+1, 0, nil),
		node(api.TmName, 1, []byte("a")), node(api.TmName, 1, nil, n), node(api.TmKey, 1, []byte("a")), node(api.TmKey, 1, nil, n),
		node(api.TmData, 1, nil), node(api.TmData, 0, nil, n), node(api.TmData, 0, make([]byte, 101)),
		node(api.TmPair, 0, nil), node(api.TmPair, 0, nil, n), node(api.TmPair, 0, nil, n, n, n), node(api.TmPair, 1, nil, n, n), node(api.TmPair, 0, []byte("a"), n, n),
		node(api.TmEnc, 1, nil), node(api.TmEnc, 1, nil, k), node(api.TmEnc, 1, nil, n, k, k), node(api.TmEnc, 1, []byte("a"), n, k),
		enc(1, n, n), enc(1, n, data("a")), enc(1, k, hash(k)), enc(1, n, api.Term{}),
		node(api.TmHash, 0, nil), node(api.TmHash, 1, nil, n), node(api.TmHash, 0, nil, n, n), node(api.TmHash, 0, []byte("a"), n),
		below(n, 8), pair(n, below(n, 8)), pair(below(n, 8), n), enc(1, below(n, 8), k))
	for _, t := range slices.Clone(l) {
		l = append(l, hash(t), pair(t, n), pair(n, t), enc(1, t, k), pair(n, hash(enc(1, pair(n, t), k))))
	}
	return l
}

// put is l with t at that place.
func put(l []api.Term, at int, t api.Term) []api.Term {
	return join(l[:at], list(t), l[at:])
}

func TestTermsThatMayNotBe(t *testing.T) {
	for _, w := range wrongs() {
		fails(t, "one alone: "+shown(w), list(w), api.ErrArg)
		fails(t, "one twice: "+shown(w), list(w, w), api.ErrArg)
		for at := range 4 {
			fails(t, fmt.Sprintf("one at %d: %s", at, shown(w)), put(list(pair(name(1), name(2)), key(1), enc(1, data("a"), key(1))), at, w), api.ErrArg)
		}
	}
}

// ErrArg is ahead of ErrMany, wherever what may not be stands.
func TestTermsThatMayNotBeAmongTooMany(t *testing.T) {
	long, heavy, whole := names(1, 301), partsOf(2001), names(1, 299)
	for _, w := range wrongs() {
		for _, at := range []int{0, 1, 150, 299, 300, 301} {
			fails(t, fmt.Sprintf("301 names, at %d %s", at, shown(w)), put(long, at, w), api.ErrArg)
		}
		for _, at := range []int{0, 3, len(heavy)} {
			fails(t, fmt.Sprintf("2001 Parts, at %d %s", at, shown(w)), put(heavy, at, w), api.ErrArg)
		}
		fails(t, "299 names, then "+shown(w), put(whole, 299, w), api.ErrArg)
	}
	fails(t, "many terms, the last may not be", append(names(1, 100000), api.Term{}), api.ErrArg)
}

// P6.2: Follows.

func TestFollowsByHand(t *testing.T) {
	a, b, n, k, m := data("a"), data("b"), name(9), key(7), key(8)
	l := list(pair(a, n), enc(1, b, k), hash(b), m)
	for _, c := range list(
		a, n, m, pair(a, n), enc(1, b, k), hash(b), // there
		pair(n, a), pair(a, a), pair(m, pair(a, m)), pair(hash(b), enc(1, b, k)),
		enc(1, a, m), enc(2, a, m), enc(0, pair(n, n), m), enc(math.MaxUint64, m, m), enc(5, enc(1, b, k), m), enc(5, enc(6, a, m), m),
		hash(a), hash(hash(b)), hash(pair(a, m)), hash(enc(1, b, k)), hash(enc(9, a, m)), below(a, 7),
		pair(hash(enc(3, pair(a, hash(b)), m)), hash(hash(m)))) {
		follows(t, l, c, true)
	}
	for _, c := range list(
		b, k, name(0), name(7), name(8), key(9), key(0), data(""), data("an"), data("aa"),
		pair(a, b), pair(b, a), pair(b, b), pair(a, k), pair(pair(a, n), pair(a, b)),
		enc(2, b, k), enc(1, a, k), enc(1, b, m), enc(1, b, key(9)), enc(2, enc(1, b, k), k), enc(5, enc(2, b, k), m), enc(1, k, m),
		hash(k), hash(pair(b, a)), hash(hash(pair(a, b))), hash(enc(2, b, k)), hash(name(7)), pair(hash(b), hash(k))) {
		follows(t, l, c, false)
	}
}

// What a sum has in it doesn't follow from the sum.
func TestSumsAreNotTurnedBack(t *testing.T) {
	a, b, k := data("a"), data("b"), key(7)
	l := list(hash(a), hash(k), hash(pair(a, b)), hash(hash(b)), hash(enc(1, b, k)), enc(1, b, k))
	for _, c := range list(a, b, k, pair(a, b), hash(b), pair(hash(a), b)) {
		follows(t, l, c, false)
	}
	for _, c := range list(hash(a), hash(hash(a)), hash(hash(hash(b))), hash(pair(a, b)), pair(hash(a), hash(hash(b))), pair(hash(k), enc(1, b, k))) {
		follows(t, l, c, true)
	}
	follows(t, append(l, a), hash(pair(a, a)), true)
	follows(t, append(l, k), b, true)
	follows(t, append(l, k), hash(b), true)
	follows(t, append(l, k), a, false)
}

// What is sealed in what is sealed follows by both keys alone, also if these come to light later.
func TestFollowsThroughSeals(t *testing.T) {
	s, k, m := data("s"), key(7), key(8)
	twice := enc(1, enc(2, s, k), m)
	for _, c := range []struct {
		more []api.Term
		want bool
	}{
		{nil, false},
		{list(k), false},
		{list(m), false},
		{list(k, m), true},
		{list(m, k), true},
		{list(m, name(7), hash(k), data("7")), false},
		{list(pair(k, m)), true},
		{list(pair(hash(k), m)), false},
		{list(m, enc(3, k, m)), true},
		{list(k, enc(3, m, k)), true},
		{list(enc(3, k, m), enc(4, m, k)), false},
		{list(enc(3, k, m), enc(4, m, key(9)), pair(pair(name(1), key(9)), name(2))), true},
		{list(enc(3, k, m), enc(4, m, key(9)), pair(pair(name(1), hash(key(9))), name(2))), false},
		{list(enc(3, pair(s, k), key(9))), false},
		{list(enc(3, pair(s, k), key(9)), key(9)), true},
	} {
		follows(t, append(list(twice), c.more...), s, c.want)
		follows(t, append(slices.Clone(c.more), twice), s, c.want)
		follows(t, append(list(pair(twice, twice)), c.more...), hash(pair(s, s)), c.want)
	}
}

// Of the deepest terms: what is asked for may be as deep as what is there.
func TestFollowsOfDeepTerms(t *testing.T) {
	n := uint64(0)
	whole := full(8, &n)
	follows(t, names(1, 128), whole, true)
	follows(t, names(1, 127), whole, false)
	follows(t, names(2, 127), whole, false)
	follows(t, list(whole), name(128), true)
	follows(t, list(whole), name(129), false)
	follows(t, list(name(1)), below(name(1), 7), true)
	follows(t, list(name(1)), below(name(2), 7), false)
	follows(t, list(below(name(1), 7)), below(name(1), 6), false)
	follows(t, list(below(name(1), 3)), below(name(1), 7), true)
}

func TestFollowsOfThrownTerms(t *testing.T) {
	d := throw()
	yes, no := 0, 0
	for range 600 {
		l := d.list(7, 4)
		for _, a := range d.asked(l) {
			want := made(l, a)
			follows(t, l, a, want)
			if want {
				yes++
			} else {
				no++
			}
		}
	}
	if yes < 1000 || no < 1000 {
		t.Errorf("too few of one kind: %d follow, %d don't", yes, no)
	}
}

// What is asked for may not be: ErrArg, if the list has no error of its own.
func TestFollowsOfWhatMayNotBe(t *testing.T) {
	for _, w := range wrongs() {
		for what, l := range map[string][]api.Term{
			"no terms":  nil,
			"one":       list(name(1)),
			"some":      list(name(1), key(2), key(1), pair(data("a"), hash(name(1)))),
			"300 terms": names(1, 300), "2000 Parts": partsOf(2000),
		} {
			if is, e := derive.Follows(l, w); is || e != api.ErrArg {
				t.Errorf("Follows of %s, from %s: %t, %d", shown(w), what, is, e)
			}
		}
		for what, l := range map[string][]api.Term{"301 terms": names(1, 301), "2001 Parts": partsOf(2001)} {
			if is, e := derive.Follows(l, w); is || e != api.ErrMany {
				t.Errorf("Follows of %s, from %s: %t, %d", shown(w), what, is, e)
			}
		}
		if is, e := derive.Follows(list(w), w); is || e != api.ErrArg {
			t.Errorf("Follows of %s, from itself: %t, %d", shown(w), is, e)
		}
		if is, e := derive.Follows(append(names(1, 301), w), w); is || e != api.ErrArg {
			t.Errorf("Follows of %s, from 301 names and itself: %t, %d", shown(w), is, e)
		}
	}
}

// What is asked for is no part of the limits of the list: it may be there beside 300 terms.
func TestFollowsAsksBesideTheLimits(t *testing.T) {
	n := uint64(5000)
	whole := full(8, &n)
	follows(t, names(1, 300), whole, false)
	follows(t, partsOf(2000), whole, false)
	follows(t, append(names(1, 299), key(1)), enc(1, pair(name(1), name(299)), key(1)), true)
}

// P6.3: Guarded.

func TestGuardedByHand(t *testing.T) {
	s, a, k, m := data("s"), data("a"), key(7), key(8)
	by := func(n ...uint64) []uint64 { return n }
	for _, c := range []struct {
		t    api.Term
		keys []uint64
		want bool
	}{
		{s, nil, false}, // the secret itself
		{s, by(7, 8), false},
		{a, nil, true}, // it doesn't stand there
		{pair(a, k), nil, true},
		{enc(1, a, k), nil, true},
		{data("S"), nil, true},
		{data("ss"), nil, true},
		{pair(a, s), by(7), false},
		{pair(s, a), by(7), false},
		{enc(1, s, k), by(7), true},
		{enc(1, s, k), by(8), false},
		{enc(1, s, k), nil, false},
		{enc(1, s, k), by(), false},
		{enc(7, s, m), by(7), false}, // a nonce is no key
		{enc(1, s, k), by(8, 7), true},
		{enc(1, s, k), by(7, 8), true},
		{enc(1, s, k), by(7, 7), true},
		{enc(1, s, k), by(0, 1, 2, 6, 8, math.MaxUint64), false},
		{enc(1, s, key(0)), by(0), true},
		{enc(1, s, key(0)), nil, false},
		{enc(1, s, key(math.MaxUint64)), by(math.MaxUint64), true},
		{enc(1, pair(a, pair(s, a)), k), by(7), true},
		{enc(1, pair(a, pair(s, a)), k), by(8), false},
		{enc(1, enc(2, s, m), k), by(7), true}, // sealed twice: either key guards
		{enc(1, enc(2, s, m), k), by(8), true},
		{enc(1, enc(2, s, m), k), by(7, 8), true},
		{enc(1, enc(2, s, m), k), by(9), false},
		{pair(enc(1, s, k), enc(2, s, m)), by(7, 8), true}, // each place on its own
		{pair(enc(1, s, k), enc(2, s, m)), by(7), false},
		{pair(enc(1, s, k), enc(2, s, m)), by(8), false},
		{pair(enc(1, s, k), s), by(7), false},
		{pair(s, enc(1, s, k)), by(7), false},
		{pair(enc(1, s, k), enc(2, s, k)), by(7), true},
		{enc(3, pair(enc(1, s, k), s), m), by(7), false},
		{enc(3, pair(enc(1, s, k), s), m), by(8), true},
		{pair(pair(a, enc(1, s, k)), pair(hash(s), enc(2, pair(s, s), m))), by(7, 8), true},
		{pair(pair(a, enc(1, s, k)), pair(hash(s), enc(2, pair(s, s), m))), by(7), false},
		{hash(s), nil, true}, // within a sum
		{hash(hash(s)), nil, true},
		{hash(pair(s, a)), nil, true},
		{hash(enc(1, s, k)), nil, true},
		{pair(hash(s), a), nil, true},
		{pair(hash(s), s), nil, false},
		{pair(s, hash(s)), by(7), false},
		{enc(1, hash(s), k), nil, true},
		{enc(1, pair(hash(s), s), k), by(8), false},
	} {
		guards(t, c.t, s, c.keys, c.want)
	}
}

// A key stands ahead of what it seals, not within it.
func TestGuardedOfKeys(t *testing.T) {
	a, k, m := data("a"), key(7), key(8)
	guards(t, k, k, []uint64{7}, false)
	guards(t, enc(1, a, k), k, []uint64{7}, false)
	guards(t, enc(1, a, k), k, []uint64{8}, false)
	guards(t, enc(1, a, k), k, nil, false)
	guards(t, enc(1, a, k), m, nil, true)
	guards(t, enc(1, k, k), k, []uint64{7}, false)
	guards(t, enc(1, k, m), k, []uint64{8}, true)
	guards(t, enc(1, k, m), k, []uint64{7}, false)
	guards(t, enc(1, k, m), m, []uint64{8}, false)
	guards(t, enc(2, enc(1, a, k), m), k, []uint64{8}, true)
	guards(t, enc(2, enc(1, a, k), m), k, []uint64{7}, false)
	guards(t, enc(2, enc(1, a, k), m), k, nil, false)
	guards(t, hash(enc(1, a, k)), k, nil, true)
	guards(t, hash(k), k, nil, true)
	guards(t, pair(enc(1, k, m), enc(2, a, k)), k, []uint64{8}, false)
	guards(t, enc(1, name(7), k), name(7), []uint64{7}, true)
	guards(t, enc(1, name(7), m), name(7), []uint64{7}, false)
}

// A secret may be of any kind; only the whole of it is one.
func TestGuardedOfAllKinds(t *testing.T) {
	a, b, k := data("a"), data("b"), key(7)
	for _, s := range list(name(0), name(9), data(""), data("s"), key(9), pair(a, b), pair(k, k), enc(1, a, k), enc(0, hash(a), key(0)), hash(a), hash(pair(a, b))) {
		guards(t, s, s, []uint64{0, 7}, false)
		guards(t, hash(s), s, nil, true)
		guards(t, pair(b, s), s, []uint64{7}, false)
		guards(t, enc(3, s, k), s, []uint64{7}, true)
		guards(t, enc(3, s, k), s, []uint64{8}, false)
		guards(t, enc(3, pair(hash(s), enc(4, s, key(8))), k), s, []uint64{8}, true)
		guards(t, enc(3, pair(hash(s), enc(4, s, key(8))), k), s, []uint64{9}, false)
	}
	guards(t, pair(b, a), pair(a, b), nil, true)
	guards(t, enc(2, a, k), enc(1, a, k), nil, true)
	guards(t, enc(1, b, k), enc(1, a, k), nil, true)
	guards(t, pair(a, b), name(0), nil, true)
	guards(t, key(9), name(9), nil, true)
	guards(t, data("a"), pair(data("a"), data("a")), nil, true)
}

func TestGuardedOfThrownTerms(t *testing.T) {
	d := throw()
	yes, no := 0, 0
	for range 1200 {
		a := d.term(6)
		for _, s := range append(d.asked(list(a)), d.term(2)) {
			keys := d.keys()
			want := covered(a, s, keys)
			guards(t, a, s, keys, want)
			if want {
				yes++
			} else {
				no++
			}
		}
	}
	if yes < 1000 || no < 1000 {
		t.Errorf("too few of one kind: %d are guarded, %d aren't", yes, no)
	}
}

// A term that may not be has no Parts, so nothing stands in it but itself; and it stands in none that may be.
func TestGuardedOfWhatMayNotBe(t *testing.T) {
	keys := []uint64{1, 2}
	for _, w := range wrongs() {
		guards(t, w, w, keys, false)
		guards(t, w, hash(w).Kids[0], nil, false)
		guards(t, w, data("s"), keys, true)
		guards(t, w, data("s"), nil, true)
		guards(t, name(1), w, keys, true)
		guards(t, pair(name(1), enc(1, data("a"), key(7))), w, nil, true)
	}
}

// P6.4.

func TestMoreFollowsFromMore(t *testing.T) {
	d := throw()
	for range 200 {
		l, more := d.list(6, 4), d.list(6, 4)
		for _, a := range d.asked(join(l, more)) {
			is, _ := derive.Follows(l, a)
			for _, all := range [][]api.Term{join(l, more), join(more, l), join(l, l), join(more, l, more)} {
				if still, e := derive.Follows(all, a); is && !still || e != api.OK {
					t.Errorf("Follows of %s: from %s, not from %s: %d", shown(a), told(l), told(all), e)
				}
			}
		}
	}
}

func TestWhatFollowsFromWhatFollows(t *testing.T) {
	d := throw()
	for range 150 {
		l := d.list(6, 4)
		asked := d.asked(l)
		var got []api.Term
		for _, a := range asked {
			if is, _ := derive.Follows(l, a); is {
				got = append(got, a)
			}
		}
		for _, a := range append(asked, d.asked(got)...) {
			is, e := derive.Follows(l, a)
			if far, e2 := derive.Follows(got, a); far && !is || e != api.OK || e2 != api.OK {
				t.Errorf("Follows of %s: from what follows, not from %s: %d, %d", shown(a), told(l), e, e2)
			}
			if both, _ := derive.Follows(join(l, got), a); both != is {
				t.Errorf("Follows of %s: from %s %t, with what follows %t", shown(a), told(l), is, both)
			}
		}
	}
}

func TestAllOfTheClosureFollows(t *testing.T) {
	d := throw()
	for range 500 {
		l := d.list(8, 4)
		all, _ := derive.Closure(l)
		for _, a := range all {
			follows(t, l, a, true)
		}
		closes(t, "the closure of "+told(l), all, all)
	}
}

// P6.5.

// kept asks that a secret of l, which is guarded by keys that aren't there, doesn't follow. It tells whether it is such a one.
func kept(t *testing.T, l []api.Term, secret api.Term, keys []uint64) bool {
	t.Helper()
	all, _ := derive.Closure(l)
	for _, a := range l {
		if !derive.Guarded(a, secret, keys) {
			return false
		}
	}
	for _, n := range keys {
		if slices.ContainsFunc(all, func(a api.Term) bool { return term.Same(a, key(n)) }) {
			return false
		}
	}
	follows(t, l, secret, false)
	return true
}

func TestSecretsStay(t *testing.T) {
	d := throw()
	count := 0
	for range 3000 {
		l, keys := d.list(7, 5), d.keys()
		for _, secret := range list(name(0), name(1), key(0), key(1), key(3), data(""), data("a"), data("b"), data("z")) {
			if kept(t, l, secret, keys) {
				count++
			}
		}
	}
	if count < 2000 {
		t.Errorf("only %d secrets were guarded", count)
	}
}

// A secret stays till the key that guards it is there, however it comes to light.
func TestSecretsStayTillTheKeyIsThere(t *testing.T) {
	a, b := data("a"), data("b")
	for _, secret := range list(data("s"), name(9), key(9)) {
		for what, l := range map[string][]api.Term{
			"alone":         list(enc(1, secret, key(7))),
			"in a pair":     list(pair(a, enc(1, pair(b, pair(secret, a)), key(7)))),
			"two places":    list(enc(1, secret, key(7)), pair(hash(secret), enc(2, pair(secret, secret), key(7)))),
			"sealed twice":  list(enc(2, enc(1, secret, key(7)), key(8)), key(8)),
			"behind others": append(names(100, 50), enc(1, secret, key(7)), hash(secret)),
		} {
			more := append(slices.Clone(l), name(7), hash(key(7)), key(6), enc(4, key(7), key(5)))
			if !kept(t, l, secret, []uint64{7}) || !kept(t, more, secret, []uint64{5, 7}) {
				t.Errorf("%s, by 5 and 7: it isn't guarded", what)
			}
			for _, opens := range [][]api.Term{
				list(key(7)), list(pair(b, key(7))), list(enc(4, key(7), key(5)), key(5)), list(enc(4, pair(key(7), a), key(5)), enc(5, key(5), key(4)), pair(a, key(4))),
			} {
				follows(t, join(l, opens), secret, true)
				follows(t, join(opens, l), secret, true)
				follows(t, join(opens, l), hash(pair(secret, secret)), true)
			}
		}
	}
}

// A secret that is put together may follow, guarded as it is: the promise speaks of no pair, no Enc and no sum.
func TestSecretsThatAreMade(t *testing.T) {
	a, b, k := data("a"), data("b"), key(7)
	for _, c := range []struct {
		secret api.Term
		l      []api.Term
	}{
		{pair(a, b), list(a, b, enc(1, pair(a, b), k))},
		{hash(a), list(a, enc(1, hash(a), k))},
		{enc(2, a, key(8)), list(a, key(8), enc(1, hash(enc(2, a, key(8))), k))},
	} {
		for _, at := range c.l {
			guards(t, at, c.secret, []uint64{7}, true)
		}
		follows(t, c.l, c.secret, true)
	}
}

// Rules that hold everywhere, 3: nothing is kept, changed or shared.

// spoil writes over all that t has in memory, also behind its lists' ends.
func spoil(t *api.Term) {
	d := t.Data[:cap(t.Data)]
	for i := range d {
		d[i] ^= 255
	}
	kids := t.Kids[:cap(t.Kids)]
	for i := range kids {
		spoil(&kids[i])
		kids[i] = api.Term{Kind: 77, N: 77}
	}
}

// woven is a list whose closure has what it has at many places.
func woven() []api.Term {
	a, k := data("abc"), key(7)
	return list(pair(hash(pair(a, a)), pair(a, enc(2, pair(a, data("d")), k))), enc(1, pair(data("e"), hash(a)), k), pair(k, a), a, a)
}

func TestClosureSharesNothing(t *testing.T) {
	want := reckoned(woven())
	l := woven()
	got, _ := derive.Closure(l)
	for i := range l {
		spoil(&l[i])
	}
	alike(t, "Closure, its argument changed", got, want)
	for at := range want {
		l := woven()
		got, _ := derive.Closure(l)
		if len(got) != len(want) {
			t.Fatalf("Closure: %d terms", len(got))
		}
		spoil(&got[at])
		alike(t, "the argument, an answer changed", l, woven())
		for i := range want {
			if i != at {
				alike(t, fmt.Sprint("term ", i, ", term ", at, " changed"), got[i:i+1], want[i:i+1])
			}
		}
	}
	l = append(woven(), key(3))
	got, _ = derive.Closure(l[:len(l)-1])
	spare := got[:cap(got)]
	for i := range spare {
		spare[i] = api.Term{Kind: 77}
	}
	alike(t, "the argument, the answer's list changed", l, append(woven(), key(3)))
}

func TestNothingIsChanged(t *testing.T) {
	d := throw()
	for range 300 {
		l := d.list(10, 5)
		room := append(slices.Clone(l), name(1), name(2))
		was := copies(room)
		derive.Closure(room[:len(l)])
		for _, a := range d.asked(l) {
			before, keys := shown(a), d.keys()
			n := slices.Clone(keys)
			derive.Follows(room[:len(l)], a)
			derive.Guarded(a, a, keys)
			for _, k := range room[:len(l)] {
				derive.Guarded(k, a, keys)
			}
			if shown(a) != before || !slices.Equal(n, keys) {
				t.Errorf("%s is another one: %s, %d", before, shown(a), keys)
			}
		}
		alike(t, "what was handed in", room, was)
	}
}

// What one call answers hangs on its arguments alone.
func TestNothingIsKept(t *testing.T) {
	s, k := data("s"), key(7)
	derive.Closure(list(s, k))
	follows(t, list(enc(1, s, k)), s, false)
	follows(t, list(k), s, false)
	closes(t, "an Enc, once more", list(enc(1, s, k)), list(enc(1, s, k)))
	l := woven()
	want := reckoned(l)
	for range 5 {
		closes(t, "the same list", l, want)
	}
}

// Rules that hold everywhere, 1: every call ends, and none panics.

func TestDeepAndWideTerms(t *testing.T) {
	deep := below(name(1), 1<<16-1)
	wide := node(api.TmPair, 0, nil, names(1, 1<<16)...)
	shared := name(1)
	for range 20 { // 2^20 parts in all, in little memory
		shared = node(api.TmPair, 0, nil, shared, shared)
	}
	for what, a := range map[string]api.Term{"deep": deep, "wide": wide, "shared": shared} {
		fails(t, "a term that is "+what, list(name(1), a), api.ErrArg)
		if is, e := derive.Follows(list(name(1)), a); is || e != api.ErrArg {
			t.Errorf("Follows of a term that is %s: %t, %d", what, is, e)
		}
		if derive.Guarded(a, a, nil) || !derive.Guarded(a, name(1), nil) || !derive.Guarded(name(1), a, nil) {
			t.Errorf("Guarded of a term that is %s", what)
		}
	}
}

func TestGuardedByManyKeys(t *testing.T) {
	keys := make([]uint64, 100000)
	for i := range keys {
		keys[i] = uint64(i) * 3
	}
	guards(t, enc(1, name(1), key(299997)), name(1), keys, true)
	guards(t, enc(1, name(1), key(299998)), name(1), keys, false)
}
