package writ_test

import (
	"fmt"
	"hanaper/api"
	"hanaper/scope"
	"hanaper/writ"
	"math"
	"regexp"
	"slices"
	"strconv"
	"strings"
	"testing"
)

// The limits and the kinds, as the document numbers them.
const (
	mostText  = 1000
	mostDeep  = 40
	mostName  = 16
	mostClock = 1099511627776
	mostNodes = 24
	mostDepth = 8

	opAll   = 1
	opCase  = 2
	opSub   = 3
	opClass = 4
	opTime  = 5
	opAnd   = 6
	opOr    = 7
	opNot   = 8
)

const inName = "abcdefghijklmnopqrstuvwxyz0123456789.-_"

// words are those that a scope is written with.
const words = "all case subject class time not and or ( )"

// Scopes as they are written out by hand.

func all() api.Scope                  { return api.Scope{Op: opAll} }
func ofCase(name string) api.Scope    { return api.Scope{Op: opCase, Name: name} }
func ofSub(name string) api.Scope     { return api.Scope{Op: opSub, Name: name} }
func ofClass(name string) api.Scope   { return api.Scope{Op: opClass, Name: name} }
func time(from, to int) api.Scope     { return api.Scope{Op: opTime, From: from, To: to} }
func and(kids ...api.Scope) api.Scope { return api.Scope{Op: opAnd, Kids: kids} }
func or(kids ...api.Scope) api.Scope  { return api.Scope{Op: opOr, Kids: kids} }
func not(kids ...api.Scope) api.Scope { return api.Scope{Op: opNot, Kids: kids} }

// times is n scopes, all like x.
func times(n int, x api.Scope) []api.Scope {
	return slices.Repeat([]api.Scope{x}, n)
}

// nots is x, so many times turned round.
func nots(n int, x api.Scope) api.Scope {
	for range n {
		x = not(x)
	}
	return x
}

// comb is a scope so deep, of which each part but the deepest one has a leaf ahead of the next, or behind it.
func comb(op func(...api.Scope) api.Scope, depth int, ahead bool) api.Scope {
	x := ofCase("a")
	for range depth - 1 {
		if ahead {
			x = op(ofSub("b"), x)
		} else {
			x = op(x, ofClass("c"))
		}
	}
	return x
}

// own is x in memory of its own, with room behind its Kids in which something stands.
func own(x api.Scope) api.Scope {
	kids := make([]api.Scope, 0, len(x.Kids)+2)
	for _, k := range x.Kids {
		kids = append(kids, own(k))
	}
	x.Kids = append(kids, api.Scope{Op: -7, Name: "behind"}, api.Scope{Op: -8})[:len(kids)]
	return x
}

// spots are all the places of x, of what is above ahead of what is below.
func spots(x *api.Scope) []*api.Scope {
	l := []*api.Scope{x}
	for i := range x.Kids {
		l = append(l, spots(&x.Kids[i])...)
	}
	return l
}

// shown is x as the tests' messages show it, and a text that only scopes that are the same have.
func shown(x api.Scope) string {
	return string(appendShown(nil, x, false))
}

// whole is likewise of x, and of what stands in the room behind its Kids.
func whole(x api.Scope) string {
	return string(appendShown(nil, x, true))
}

func appendShown(b []byte, x api.Scope, room bool) []byte {
	b = strconv.AppendInt(append(b, '{'), int64(x.Op), 10)
	b = strconv.AppendQuote(append(b, ' '), x.Name)
	b = strconv.AppendInt(append(b, ' '), int64(x.From), 10)
	b = strconv.AppendInt(append(b, '-'), int64(x.To), 10)
	for _, k := range x.Kids {
		b = appendShown(append(b, ' '), k, room)
	}
	if room {
		for _, k := range x.Kids[len(x.Kids):cap(x.Kids)] {
			b = appendShown(append(b, '+'), k, false)
		}
	}
	return append(b, '}')
}

// short is a text as the tests' messages show it: of a long one only the ends.
func short(s string) string {
	if len(s) > 400 {
		return s[:250] + " .. " + s[len(s)-120:] + fmt.Sprint(", ", len(s), " bytes")
	}
	return s
}

// The tests' own reckoning.

func nodesOf(x api.Scope) int {
	n := 1
	for _, k := range x.Kids {
		n += nodesOf(k)
	}
	return n
}

func depthOf(x api.Scope) int {
	n := 0
	for _, k := range x.Kids {
		n = max(n, depthOf(k))
	}
	return n + 1
}

// isSmall is whether x has no more nodes than may be, and is no deeper.
func isSmall(x api.Scope) bool {
	return nodesOf(x) <= mostNodes && depthOf(x) <= mostDepth
}

// isWhole is whether x may be, its size not asked.
func isWhole(x api.Scope) bool {
	least, most := 0, 0
	switch x.Op {
	case opNot:
		least, most = 1, 1
	case opAnd, opOr:
		least, most = 2, math.MaxInt
	}
	right := opAll <= x.Op && x.Op <= opNot && least <= len(x.Kids) && len(x.Kids) <= most
	if x.Op == opCase || x.Op == opSub || x.Op == opClass {
		right = right && named.MatchString(x.Name)
	} else {
		right = right && len(x.Name) == 0
	}
	if x.Op == opTime {
		right = right && !(x.From < 0 || x.To > mostClock || x.From > x.To)
	} else {
		right = right && x.From == 0 && x.To == 0
	}
	for _, k := range x.Kids {
		right = right && isWhole(k)
	}
	return right
}

// isFair is whether x may be.
func isFair(x api.Scope) bool {
	return isWhole(x) && isSmall(x)
}

// inBrackets are the kinds of a scope, and of a kid of it that stands in brackets.
var inBrackets = map[[2]int]bool{
	{opNot, opAnd}: true, {opNot, opOr}: true,
	{opAnd, opAnd}: true, {opAnd, opOr}: true,
	{opOr, opOr}: true,
}

// wordsOf are the words of x, whether it may be or not.
func wordsOf(x api.Scope) []string {
	l := map[int][]string{
		opAll:   {"all"},
		opCase:  {"case", x.Name},
		opSub:   {"subject", x.Name},
		opClass: {"class", x.Name},
		opTime:  {"time", fmt.Sprintf("%d-%d", x.From, x.To)},
		opNot:   {"not"},
	}[x.Op]
	for i, k := range x.Kids {
		if i > 0 {
			l = append(l, map[int]string{opAnd: "and", opOr: "or"}[x.Op])
		}
		if inBrackets[[2]int{x.Op, k.Op}] {
			l = append(append(append(l, "("), wordsOf(k)...), ")")
		} else {
			l = append(l, wordsOf(k)...)
		}
	}
	return l
}

// textOf is the text of x, whether it may be or not.
func textOf(x api.Scope) string {
	return strings.Join(wordsOf(x), " ")
}

var (
	named = regexp.MustCompile(`^[a-z0-9._-]{1,16}$`)
	timed = regexp.MustCompile(`^(0|[1-9][0-9]{0,12})-(0|[1-9][0-9]{0,12})$`)
)

// part is a word that binds, or all words of a scope that is put together of none.
type part struct {
	is   string // the word; empty of a scope
	leaf api.Scope
}

// leafOf is the scope that two words tell, if they tell one.
func leafOf(word, more string) (api.Scope, bool) {
	op := opCase + slices.Index([]string{"case", "subject", "class", "time"}, word)
	if op == opTime {
		parts := timed.FindStringSubmatch(more)
		if parts == nil {
			return api.Scope{}, false
		}
		from, _ := strconv.ParseUint(parts[1], 10, 64)
		to, _ := strconv.ParseUint(parts[2], 10, 64)
		return time(int(from), int(to)), from <= to && to <= mostClock
	}
	return api.Scope{Op: op, Name: more}, named.MatchString(more)
}

// partsOf cuts a text; false, if something stands in it that is no part.
func partsOf(s string) ([]part, bool) {
	var l []part
	for rest, more := s, true; more; {
		var word string
		word, rest, more = strings.Cut(rest, " ")
		switch word {
		case "not", "and", "or", "(", ")":
			l = append(l, part{is: word})
		case "all":
			l = append(l, part{leaf: all()})
		case "case", "subject", "class", "time":
			var second string
			second, rest, more = strings.Cut(rest, " ")
			x, ok := leafOf(word, second)
			if !ok {
				return nil, false
			}
			l = append(l, part{leaf: x})
		default:
			return nil, false
		}
	}
	return l, true
}

// stands is whether each part of l stands where it may, and how many brackets and nots are within one another at most.
func stands(l []part) (bool, int) {
	open, most := "", 0 // the brackets and nots that have begun, and not ended
	factor := true      // whether one is asked for
	for _, p := range l {
		if factor != (p.is == "" || p.is == "not" || p.is == "(") {
			return false, 0
		}
		switch p.is {
		case "not":
			open += "!"
		case "(":
			open += p.is
		case ")":
			if !strings.HasSuffix(open, "(") {
				return false, 0
			}
			open = strings.TrimSuffix(open, "(")
		case "and", "or":
			factor = true
		}
		if p.is == "" || p.is == ")" {
			factor, open = false, strings.TrimRight(open, "!")
		}
		most = max(most, len(open))
	}
	return !factor && open == "", most
}

// split is what stands between the words of a kind that are in no bracket.
func split(l []part, between string) [][]part {
	opens, from := 0, 0
	var rows [][]part
	for i, p := range l {
		switch p.is {
		case "(":
			opens++
		case ")":
			opens--
		case between:
			if opens == 0 {
				rows = append(rows, l[from:i])
				from = i + 1
			}
		}
	}
	return append(rows, l[from:])
}

// scopeOf is what parts tell that stand where they may: of several with or between these, else of several with and between, else one.
func scopeOf(l []part) api.Scope {
	for _, of := range []struct {
		op      int
		between string
	}{{opOr, "or"}, {opAnd, "and"}} {
		if rows := split(l, of.between); len(rows) > 1 {
			x := api.Scope{Op: of.op}
			for _, row := range rows {
				x.Kids = append(x.Kids, scopeOf(row))
			}
			return x
		}
	}
	switch l[0].is {
	case "not":
		return not(scopeOf(l[1:]))
	case "(":
		return scopeOf(l[1 : len(l)-1])
	}
	return l[0].leaf
}

// readOf is what Parse is to answer of s.
func readOf(s string) (api.Scope, api.Errno) {
	if len(s) > mostText {
		return api.Scope{}, api.ErrLong
	}
	l, ok := partsOf(s)
	if !ok {
		return api.Scope{}, api.ErrText
	}
	if ok, deep := stands(l); !ok || deep > mostDeep {
		return api.Scope{}, api.ErrText
	}
	x := scopeOf(l)
	if !isSmall(x) {
		return api.Scope{}, api.ErrArg
	}
	return x, api.OK
}

// What is asked for of Text and Parse.

// textTo holds Text of x against what the document asks, and that x is not changed.
func textTo(t *testing.T, x api.Scope, want string, err api.Errno) {
	t.Helper()
	x = own(x)
	ahead := whole(x)
	s, e := writ.Text(x)
	if s != want || e != err {
		t.Errorf("Text(%s): %q, error %d, not %q, error %d", short(ahead), short(s), e, short(want), err)
	}
	if behind := whole(x); behind != ahead {
		t.Errorf("what was handed in, %s, is %s behind it", short(ahead), short(behind))
	}
}

// parseTo holds Parse of s against what the document asks.
func parseTo(t *testing.T, s string, want api.Scope, err api.Errno) {
	t.Helper()
	x, e := writ.Parse(s)
	if shown(x) != shown(want) || e != err {
		t.Errorf("Parse(%q): %s, error %d, not %s, error %d", short(s), short(shown(x)), e, short(shown(want)), err)
	}
}

// written asks by hand what x is written as, and that this is read as x (P21.3).
func written(t *testing.T, x api.Scope, s string) {
	t.Helper()
	textTo(t, x, s, api.OK)
	parseTo(t, s, x, api.OK)
}

// refused asks that x is not written.
func refused(t *testing.T, x api.Scope) {
	t.Helper()
	textTo(t, x, "", api.ErrArg)
}

// writes holds Text of x against the tests' own reckoning, and that its text is read (P21.3). It tells whether x may be.
func writes(t *testing.T, x api.Scope) bool {
	t.Helper()
	if !isFair(x) {
		refused(t, x)
		return false
	}
	written(t, x, textOf(x))
	return true
}

// right asks by hand that s is read as x, and that what was read, written, is read as the same (P21.3).
func right(t *testing.T, s string, x api.Scope) {
	t.Helper()
	parseTo(t, s, x, api.OK)
	again, e := writ.Text(x)
	y, f := writ.Parse(again)
	if e != api.OK || f != api.OK || !scope.Same(x, y) {
		t.Errorf("%q is written as %q, error %d, and that is read as %s, error %d", short(s), short(again), e, short(shown(y)), f)
	}
}

// wrong asks that these are no scopes.
func wrong(t *testing.T, l ...string) {
	t.Helper()
	for _, s := range l {
		parseTo(t, s, api.Scope{}, api.ErrText)
	}
}

// reads holds Parse of s against the tests' own reckoning, and tells the error.
func reads(t *testing.T, s string) api.Errno {
	t.Helper()
	x, e := readOf(s)
	if e == api.OK {
		right(t, s, x)
	} else {
		parseTo(t, s, x, e)
	}
	return e
}
