package writ_test

import (
	"hanaper/api"
	"hanaper/scope"
	"hanaper/writ"
	"math"
	"math/rand"
	"slices"
	"strings"
	"testing"
)

// Against the tests' own reckoning: what is thrown, right and wrong.

// pick is one of l.
func pick[T any](d *rand.Rand, l ...T) T {
	return l[d.Intn(len(l))]
}

func thrownName(d *rand.Rand) string {
	if d.Intn(3) > 0 {
		return pick(d, "a", "b", "hr", "and", "or", "not", "all", "case", "5-9", "-")
	}
	b := make([]byte, 1+d.Intn(mostName))
	for i := range b {
		b[i] = inName[d.Intn(len(inName))]
	}
	return string(b)
}

func thrownTick(d *rand.Rand) int {
	switch d.Intn(8) {
	case 0:
		return mostClock - d.Intn(3)
	case 1:
		return d.Intn(mostClock+1) >> d.Intn(40)
	}
	return d.Intn(20)
}

func thrownLeaf(d *rand.Rand) api.Scope {
	switch op := 1 + d.Intn(5); op {
	case opAll:
		return all()
	case opTime:
		from, to := thrownTick(d), thrownTick(d)
		return time(min(from, to), max(from, to))
	default:
		return api.Scope{Op: op, Name: thrownName(d)}
	}
}

// thrown is a scope of at most so many nodes, and at most so deep; it may be, if these are not beyond the limits.
func thrown(d *rand.Rand, nodes, deep int) api.Scope {
	if nodes < 2 || deep < 2 || d.Intn(8) == 0 {
		return thrownLeaf(d)
	}
	if nodes < 3 || d.Intn(3) == 0 {
		return not(thrown(d, nodes-1, deep-1))
	}
	x := api.Scope{Op: pick(d, opAnd, opOr)}
	for left := nodes - 1; left > 0 && (len(x.Kids) < 2 || d.Intn(3) > 0); {
		most := left
		if len(x.Kids) == 0 {
			most = left - 1 // one is left for the second kid
		}
		k := thrown(d, 1+d.Intn(most), deep-1)
		x.Kids = append(x.Kids, k)
		left -= nodesOf(k)
	}
	return x
}

// odd is x, at some of its places something that it may not have.
func odd(d *rand.Rand, x api.Scope) api.Scope {
	x = own(x)
	l := spots(&x)
	for range 1 + d.Intn(2) {
		k := pick(d, l...)
		switch d.Intn(8) {
		case 0:
			k.Op = pick(d, 0, 9, -1, math.MinInt, math.MaxInt, 1+d.Intn(8), 1+d.Intn(8), d.Intn(600)-300)
		case 1:
			k.Name = pick(d, "", "A", "a b", " ", "(", "\x00", "é", strings.Repeat("a", mostName+1), "a")
		case 2:
			k.From = pick(d, -1, 0, 1, 20, mostClock, mostClock+1, math.MinInt, math.MaxInt)
		case 3:
			k.To = pick(d, -1, 0, 1, 20, mostClock, mostClock+1, math.MinInt, math.MaxInt)
		case 4:
			k.From, k.To = k.To, k.From
		case 5:
			k.Kids = append(slices.Clone(k.Kids), thrownLeaf(d))
		case 6:
			k.Kids = k.Kids[:max(len(k.Kids)-1, 0)]
		case 7:
			k.Kids = slices.Repeat(k.Kids, 2)
		}
	}
	return x
}

// P21.1 and P21.3: scopes that may be, and such as may not.
func TestThrownScopes(t *testing.T) {
	d := rand.New(rand.NewSource(211))
	count := map[bool]int{}
	for range 12000 {
		x := thrown(d, 1+d.Intn(mostNodes), 1+d.Intn(mostDepth))
		if !writes(t, x) {
			t.Errorf("%s is asked as one that may be", shown(x))
		}
		count[writes(t, odd(d, x))]++
		count[writes(t, thrown(d, 1+d.Intn(mostNodes+12), 1+d.Intn(mostDepth+3)))]++
	}
	if count[true] < 5000 || count[false] < 5000 {
		t.Errorf("may be and not: %v", count)
	}
}

// P21.3: the greatest and the deepest among them.
func TestThrownWrittenAndRead(t *testing.T) {
	d := rand.New(rand.NewSource(212))
	greatest, deepest, longest := 0, 0, 0
	for range 30000 {
		x := thrown(d, mostNodes-d.Intn(2), mostDepth)
		s, e := writ.Text(x)
		y, f := writ.Parse(s)
		if e != api.OK || f != api.OK || !scope.Same(x, y) || shown(x) != shown(y) {
			t.Fatalf("%s, written and read: %s, errors %d and %d", shown(x), shown(y), e, f)
		}
		if nodesOf(x) == mostNodes {
			greatest++
		}
		if depthOf(x) == mostDepth {
			deepest++
		}
		longest = max(longest, len(s))
	}
	if greatest < 1000 || deepest < 1000 || longest < 300 {
		t.Errorf("%d of the greatest, %d of the deepest, %d bytes at most", greatest, deepest, longest)
	}
}

// loose is the text of x, with brackets more where these turn nothing.
func loose(d *rand.Rand, x api.Scope, least int) string {
	s := ""
	bound := map[int]int{opOr: 1, opAnd: 2}[x.Op]
	switch x.Op {
	case opAnd, opOr:
		var l []string
		for _, k := range x.Kids {
			l = append(l, loose(d, k, bound+1))
		}
		s = strings.Join(l, map[int]string{opAnd: " and ", opOr: " or "}[x.Op])
	case opNot:
		s = "not " + loose(d, x.Kids[0], 3)
	default:
		s = textOf(x)
	}
	if bound > 0 && bound < least {
		s = around(1, s)
	}
	for d.Intn(6) == 0 {
		s = around(1, s)
	}
	return s
}

// Right texts with brackets that need not be: what is read, written, is read as the same.
func TestThrownLooseTexts(t *testing.T) {
	d := rand.New(rand.NewSource(213))
	more := 0
	for range 12000 {
		x := thrown(d, 1+d.Intn(mostNodes), 1+d.Intn(mostDepth))
		s := loose(d, x, 0)
		if len(s) > mostText {
			continue
		}
		right(t, s, x)
		if s != textOf(x) {
			more++
		}
		if got := reads(t, s); got != api.OK {
			t.Errorf("%q: error %d", short(s), got)
		}
	}
	if more < 5000 {
		t.Errorf("only %d with brackets more", more)
	}
}

// Texts made of the words, with names and times among them.
func TestThrownWords(t *testing.T) {
	d := rand.New(rand.NewSource(214))
	count := map[api.Errno]int{}
	for i := range 60000 {
		var l []string
		factor := true
		for range 1 + d.Intn(2+i%12) {
			w := pick(d, strings.Fields(words)...)
			if d.Intn(12) > 0 { // mostly such as may stand there
				w = pick(d, "and", "or", ")")
				if factor {
					w = pick(d, "all", "case", "subject", "class", "time", "not", "(")
				}
			}
			factor = w == "not" || w == "and" || w == "or" || w == "("
			switch w {
			case "case", "subject", "class":
				w += " " + thrownName(d)
			case "time":
				x := thrownLeaf(d)
				for x.Op != opTime {
					x = thrownLeaf(d)
				}
				w = textOf(x)
			}
			if d.Intn(100) == 0 {
				w = pick(d, "", "a", "5-9", "All", "time 9-5", "case A", "time 05-9", "(all)")
			}
			l = append(l, w)
		}
		count[reads(t, strings.Join(l, " "))]++
	}
	if count[api.OK] < 8000 || count[api.ErrText] < 20000 {
		t.Errorf("errors: %v", count)
	}
}

// Texts of many nodes, deep ones and long ones.
func TestThrownBeyond(t *testing.T) {
	d := rand.New(rand.NewSource(215))
	count := map[api.Errno]int{}
	for i := range 6000 {
		s := loose(d, thrown(d, 1+d.Intn(mostNodes*2), 2+d.Intn(mostDepth+4)), 0)
		for range i % 4 {
			n := d.Intn(16)
			switch d.Intn(4) {
			case 0:
				s = around(n, s)
			case 1:
				s = strings.Repeat("not ", n) + around(1, s)
			case 2:
				s = around(n, around(n, s)+pick(d, " and ", " or ")+around(n, "all"))
			case 3:
				s += strings.Repeat(pick(d, " and ", " or ")+s, d.Intn(4))
			}
		}
		count[reads(t, s)]++
	}
	for _, e := range []api.Errno{api.OK, api.ErrText, api.ErrArg, api.ErrLong} {
		if count[e] < 200 {
			t.Errorf("errors: %v", count)
		}
	}
}

// Right texts of which one byte is another one, is missing, or is put in, or one word.
func TestThrownChanges(t *testing.T) {
	d := rand.New(rand.NewSource(216))
	count := map[api.Errno]int{}
	for range 8000 {
		s := loose(d, thrown(d, 1+d.Intn(mostNodes), 1+d.Intn(mostDepth)), 0)
		i := d.Intn(len(s))
		c := pick(d, string([]byte{byte(d.Intn(256))}), string(inName[d.Intn(len(inName))]), " ", "(", ")", s[i:i+1], "0", "-")
		count[reads(t, s[:i]+c+s[i+1:])]++
		count[reads(t, s[:i]+s[i+1:])]++
		count[reads(t, s[:i]+c+s[i:])]++
		l := strings.Split(s, " ")
		k, j := d.Intn(len(l)), d.Intn(len(l))
		w := pick(d, append(strings.Fields(words), thrownName(d), "5-9", "")...)
		count[reads(t, strings.Join(slices.Insert(slices.Clone(l), k, w), " "))]++
		count[reads(t, strings.Join(slices.Delete(slices.Clone(l), k, k+1), " "))]++
		l[k], l[j] = l[j], l[k]
		count[reads(t, strings.Join(l, " "))]++
		l[k] = w
		count[reads(t, strings.Join(l, " "))]++
	}
	if count[api.OK] < 4000 || count[api.ErrText] < 20000 {
		t.Errorf("errors: %v", count)
	}
}
