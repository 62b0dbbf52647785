package hold_test

import (
	"fmt"
	"hanaper/api"
	"hanaper/hold"
	"math"
	"regexp"
	"slices"
	"strconv"
	"strings"
	"testing"
)

// The limits, the kinds and the errors, as the document numbers them.
const (
	mostHolds = 12
	mostName  = 16
	mostClock = 1099511627776
	mostNodes = 24
	mostDepth = 8

	opAll   = 1
	opCase  = 2
	opSub   = 3
	opClass = 4
	opTime  = 5
	opAnd   = 6
	opOr    = 7
	opNot   = 8

	fine     = 0
	errArg   = 1
	errMany  = 4
	errNone  = 5
	errThere = 6
	errState = 13
)

const inName = "abcdefghijklmnopqrstuvwxyz0123456789.-_"

// longName is a name of the most bytes.
const longName = "0123456789.-_xyz"

// Scopes, records and holds as they are written out by hand.

func all() api.Scope                  { return api.Scope{Op: opAll} }
func ofCase(name string) api.Scope    { return api.Scope{Op: opCase, Name: name} }
func ofSub(name string) api.Scope     { return api.Scope{Op: opSub, Name: name} }
func ofClass(name string) api.Scope   { return api.Scope{Op: opClass, Name: name} }
func time(from, to int) api.Scope     { return api.Scope{Op: opTime, From: from, To: to} }
func and(kids ...api.Scope) api.Scope { return api.Scope{Op: opAnd, Kids: kids} }
func or(kids ...api.Scope) api.Scope  { return api.Scope{Op: opOr, Kids: kids} }
func not(kids ...api.Scope) api.Scope { return api.Scope{Op: opNot, Kids: kids} }

func rec(ofCase, sub, class string, tick int) api.Rec {
	return api.Rec{Id: "id", Case: ofCase, Sub: sub, Class: class, Tick: tick, State: api.StLive}
}

func active(id string, x api.Scope) api.Hold { return api.Hold{Id: id, Scope: x, Active: true} }
func past(id string, x api.Scope) api.Hold   { return api.Hold{Id: id, Scope: x} }

// list is so many active holds, h0, h1 and so on, no two about the same.
func list(n int) []api.Hold {
	var l []api.Hold
	for i := range n {
		l = append(l, active("h"+strconv.Itoa(i), or(ofCase("c"+strconv.Itoa(i)), not(time(i, i+5)))))
	}
	return l
}

// times is n scopes, all like x.
func times(n int, x api.Scope) []api.Scope {
	return slices.Repeat([]api.Scope{x}, n)
}

// nots is x, so many times turned round.
func nots(n int, x api.Scope) api.Scope {
	for range n {
		x = not(x)
	}
	return x
}

// fair are scopes that may be, of all kinds, the greatest and the deepest among them.
func fair() []api.Scope {
	return []api.Scope{
		all(), ofCase("a"), ofSub(longName), ofClass("hr"), time(0, 0), time(5, 9), time(0, mostClock), time(mostClock, mostClock),
		not(all()), not(not(ofCase("a"))), and(all(), all()), or(ofCase("a"), ofCase("a")),
		and(ofCase("a"), not(or(ofSub("b"), time(5, 9))), ofClass(".")), or(and(ofSub("-"), not(all())), and(all(), ofClass("_"))),
		nots(mostDepth-1, ofSub("b")), and(times(mostNodes-1, all())...), or(times(mostNodes-1, time(1, 2))...), not(and(times(mostNodes-2, ofCase("b"))...)),
	}
}

// unfair are scopes that may not be: each part of P20.1 is broken by some of them.
func unfair() []api.Scope {
	var l []api.Scope
	for _, op := range []int{0, 9, -1, -8, 10, 255, 257, 258, 1<<32 + opAll, math.MinInt, math.MinInt + opAll, math.MaxInt} {
		l = append(l, api.Scope{Op: op}, api.Scope{Op: op, Name: "a"}, api.Scope{Op: op, Kids: times(2, all())})
	}
	for _, name := range notNames() {
		l = append(l, ofCase(name), ofSub(name), ofClass(name))
	}
	for _, x := range []api.Scope{all(), time(0, 0), not(all()), and(all(), all()), or(all(), all())} { // right, but for a name, or a time
		name, from, to, both := x, x, x, x
		name.Name = "a"
		from.From, to.To = -1, -1
		both.From, both.To = 1, 1
		l = append(l, name, from, to)
		if x.Op != opTime {
			l = append(l, both)
		}
	}
	for _, op := range []int{opCase, opSub, opClass} {
		l = append(l, api.Scope{Op: op, Name: "a", To: 1}, api.Scope{Op: op, Name: "a", From: 1, To: 1}, api.Scope{Op: op, Name: "a", Kids: times(1, all())})
	}
	l = append(l, time(9, 5), time(1, 0), time(mostClock, 0), time(-1, 5), time(-5, -1), time(0, mostClock+1), time(mostClock+1, mostClock+1), time(math.MinInt, math.MaxInt), time(math.MaxInt, math.MinInt))
	l = append(l, api.Scope{Op: opAll, Kids: times(1, all())}, api.Scope{Op: opTime, To: 1, Kids: times(2, all())})
	l = append(l, not(), and(), or(), and(all()), or(all()), not(all(), all()), not(times(3, ofCase("a"))...))
	l = append(l, nots(mostDepth, all()), nots(mostDepth+1, all()), nots(1000, all()), and(times(mostNodes, all())...), or(times(mostNodes, all())...), or(times(5000, all())...), not(or(times(mostNodes-1, ofCase("a"))...)))
	for _, bad := range []api.Scope{{}, ofCase(""), ofSub("A"), time(9, 5), and(all()), not()} { // deep inside, at each place
		l = append(l, not(bad), and(bad, all()), and(all(), bad), or(all(), bad, all()), nots(5, bad), or(all(), and(all(), not(bad))))
	}
	return l
}

// notNames are texts that may be no name.
func notNames() []string {
	l := []string{"", "0123456789.-_xyz0", strings.Repeat("a", 300), strings.Repeat("a", 5000), "é", "a\u0301", "\ufffd", " a", "a ", "a b", "a\n"}
	for c := range 256 {
		b := string([]byte{byte(c)})
		if !strings.Contains(inName, b) {
			l = append(l, b, b+"a", "a"+b, "ab"+b+"cd", longName[1:]+b, b+longName[1:])
		}
	}
	return l
}

// names are texts that may be one: each byte alone and at some places, and all lengths.
func names() []string {
	var l []string
	for i := range inName {
		b := inName[i : i+1]
		l = append(l, b, b+"a", "a"+b, longName[1:]+b, b+longName[1:])
	}
	for n := range mostName {
		l = append(l, longName[:n+1], strings.Repeat("z", n+1))
	}
	return l
}

// ownScope is x in memory of its own, with room behind its Kids in which something stands.
func ownScope(x api.Scope) api.Scope {
	kids := make([]api.Scope, 0, len(x.Kids)+2)
	for _, k := range x.Kids {
		kids = append(kids, ownScope(k))
	}
	x.Kids = append(kids, api.Scope{Op: -7, Name: "behind"}, api.Scope{Op: -8})[:len(kids)]
	return x
}

// own is l in memory of its own, with room behind its end in which holds stand.
func own(l []api.Hold) []api.Hold {
	c := make([]api.Hold, 0, len(l)+3)
	for _, h := range l {
		h.Scope = ownScope(h.Scope)
		c = append(c, h)
	}
	return append(c, active("behind", all()), past("", ownScope(not(all()))), active("h0", api.Scope{}))[:len(l)]
}

// spoilScope makes all of x something else, with what stands behind its Kids.
func spoilScope(x *api.Scope) {
	kids := x.Kids[:cap(x.Kids)]
	for i := range kids {
		spoilScope(&kids[i])
	}
	*x = api.Scope{Op: -1, Name: "spoilt"}
}

// spoil makes all of l something else, with what stands behind its end.
func spoil(l []api.Hold) {
	l = l[:cap(l)]
	for i := range l {
		spoilScope(&l[i].Scope)
		l[i] = api.Hold{Id: "spoilt", Active: !l[i].Active}
	}
}

// shown is l as the tests' messages show it, and a text that only lists that are the same have.
func shown(l []api.Hold) string {
	var b []byte
	for _, h := range l {
		b = appendScope(appendHold(b, h), h.Scope, false)
	}
	return string(b)
}

// whole is likewise of l, and of all that stands in the room behind its end and behind its scopes' Kids.
func whole(l []api.Hold) string {
	var b []byte
	for i, h := range l[:cap(l)] {
		if i == len(l) {
			b = append(b, " +"...)
		}
		b = appendScope(appendHold(b, h), h.Scope, true)
	}
	return string(b)
}

func appendHold(b []byte, h api.Hold) []byte {
	b = strconv.AppendQuote(append(b, ' '), h.Id)
	return append(strconv.AppendBool(append(b, ' '), h.Active), ' ')
}

func appendScope(b []byte, x api.Scope, room bool) []byte {
	b = strconv.AppendInt(append(b, '{'), int64(x.Op), 10)
	b = strconv.AppendQuote(append(b, ' '), x.Name)
	b = strconv.AppendInt(append(b, ' '), int64(x.From), 10)
	b = strconv.AppendInt(append(b, '-'), int64(x.To), 10)
	for _, k := range x.Kids {
		b = appendScope(append(b, ' '), k, room)
	}
	if room {
		for _, k := range x.Kids[len(x.Kids):cap(x.Kids)] {
			b = appendScope(append(b, '+'), k, false)
		}
	}
	return append(b, '}')
}

// short is a text as the tests' messages show it: of a long one only the ends.
func short(s string) string {
	if len(s) > 700 {
		return s[:400] + " .. " + s[len(s)-250:] + fmt.Sprint(", ", len(s), " bytes")
	}
	return s
}

// The tests' own reckoning.

var named = regexp.MustCompile(`^[a-z0-9._-]{1,16}$`)

// isName is whether s may be a name.
func isName(s string) bool {
	return named.MatchString(s)
}

// sizeOf is how many nodes x has, and how deep it is.
func sizeOf(x api.Scope) (nodes, depth int) {
	for _, k := range x.Kids {
		n, d := sizeOf(k)
		nodes, depth = nodes+n, max(depth, d)
	}
	return nodes + 1, depth + 1
}

// isWhole is whether x may be, its size not asked.
func isWhole(x api.Scope) bool {
	bare := api.Scope{Op: x.Op, Kids: x.Kids}
	kids := [2]int{} // at least, at most
	right := opAll <= x.Op && x.Op <= opNot
	switch x.Op {
	case opCase, opSub, opClass:
		right = isName(x.Name)
		bare.Name = x.Name
	case opTime:
		right = !(x.From < 0 || x.To > mostClock || x.From > x.To)
		bare.From, bare.To = x.From, x.To
	case opAnd, opOr:
		kids = [2]int{2, mostNodes}
	case opNot:
		kids = [2]int{1, 1}
	}
	right = right && x.Name == bare.Name && x.From == bare.From && x.To == bare.To
	right = right && kids[0] <= len(x.Kids) && len(x.Kids) <= kids[1]
	for _, k := range x.Kids {
		right = right && isWhole(k)
	}
	return right
}

// isFair is whether x may be.
func isFair(x api.Scope) bool {
	nodes, depth := sizeOf(x)
	return nodes <= mostNodes && depth <= mostDepth && isWhole(x)
}

// matched is whether x matches r.
func matched(x api.Scope, r api.Rec) bool {
	which := make([]bool, len(x.Kids))
	count := 0
	for i, k := range x.Kids {
		which[i] = matched(k, r)
		if which[i] {
			count++
		}
	}
	of := map[int]bool{
		opAll:   true,
		opCase:  x.Name == r.Case,
		opSub:   x.Name == r.Sub,
		opClass: x.Name == r.Class,
		opTime:  !(r.Tick < x.From || r.Tick > x.To),
		opAnd:   count == len(x.Kids),
		opOr:    count > 0,
		opNot:   len(which) == 0 || !which[0],
	}
	return of[x.Op]
}

// placesOf is where the holds of an Id stand.
func placesOf(l []api.Hold, id string) []int {
	var at []int
	for i, h := range l {
		if strings.Compare(h.Id, id) == 0 {
			at = append(at, i)
		}
	}
	return at
}

// placed is what P22.1 says of Place.
func placed(l []api.Hold, id string, x api.Scope) ([]api.Hold, api.Errno) {
	switch {
	case !isName(id) || !isFair(x):
		return nil, errArg
	case len(placesOf(l, id)) > 0:
		return nil, errThere
	case len(l) > mostHolds-1:
		return nil, errMany
	}
	return slices.Insert(own(l), len(l), active(id, x)), fine
}

// ready is where the hold stands that is to be turned, and the error, if there is one.
func ready(l []api.Hold, id string, x api.Scope) (int, api.Errno) {
	at := placesOf(l, id)
	switch {
	case !isName(id) || !isFair(x):
		return 0, errArg
	case len(at) == 0:
		return 0, errNone
	case !l[at[0]].Active:
		return 0, errState
	}
	return at[0], fine
}

// released is what P22.1 says of Release.
func released(l []api.Hold, id string) ([]api.Hold, api.Errno) {
	i, e := ready(l, id, all())
	if e != fine {
		return nil, e
	}
	return slices.Replace(own(l), i, i+1, past(l[i].Id, l[i].Scope)), fine
}

// amended is what P22.1 says of Amend.
func amended(l []api.Hold, id string, x api.Scope) ([]api.Hold, api.Errno) {
	i, e := ready(l, id, x)
	if e != fine {
		return nil, e
	}
	return slices.Replace(own(l), i, i+1, active(l[i].Id, x)), fine
}

// onOf is what P22.2 says of On.
func onOf(l []api.Hold, r api.Rec) []string {
	var ids []string
	for _, h := range l {
		if matched(h.Scope, r) && h.Active {
			ids = append(ids, h.Id)
		}
	}
	return ids
}

// Each call is held against what the document asks, and against rule 3 of Rules that hold everywhere: nothing that was handed in is changed, and nothing is shared by it and what is answered, or by two answers.

// act is a call that answers holds.
type act func(l []api.Hold, id string, x api.Scope) ([]api.Hold, api.Errno)

func release(l []api.Hold, id string, _ api.Scope) ([]api.Hold, api.Errno) {
	return hold.Release(l, id)
}

func answersTo(t *testing.T, name string, do act, l []api.Hold, id string, x api.Scope, want []api.Hold, err api.Errno) {
	t.Helper()
	in, wanted := own(l), shown(want)
	also := own([]api.Hold{active("x", x)}) // x, as a list of one
	ahead, alsoAhead := whole(in), whole(also)
	got, e := do(in, id, also[0].Scope)
	again, f := do(in, id, also[0].Scope)
	if s := shown(got); s != wanted || e != err || err != fine && len(got) > 0 {
		t.Errorf("%s(%s, %q, %s): %s, error %d, not %s, error %d", name, short(shown(in)), id, short(shown(also)), short(s), e, short(wanted), err)
	}
	if whole(in) != ahead || whole(also) != alsoAhead {
		t.Errorf("what was handed in to %s, %s, is %s behind it", name, short(ahead+alsoAhead), short(whole(in)+whole(also)))
	}
	spoil(got)
	if whole(in) != ahead || whole(also) != alsoAhead {
		t.Errorf("what was handed in to %s, %s, turns with the answer: %s", name, short(ahead+alsoAhead), short(whole(in)+whole(also)))
	}
	spoil(in)
	spoil(also)
	if s := shown(again); s != wanted || f != err {
		t.Errorf("%s, asked twice: %s, error %d, once what was answered first and what was handed in was changed, not %s, error %d", name, short(s), f, short(wanted), err)
	}
}

func placeTo(t *testing.T, l []api.Hold, id string, x api.Scope, want []api.Hold, err api.Errno) {
	t.Helper()
	answersTo(t, "Place", hold.Place, l, id, x, want, err)
}

func releaseTo(t *testing.T, l []api.Hold, id string, want []api.Hold, err api.Errno) {
	t.Helper()
	answersTo(t, "Release", release, l, id, api.Scope{}, want, err)
}

func amendTo(t *testing.T, l []api.Hold, id string, x api.Scope, want []api.Hold, err api.Errno) {
	t.Helper()
	answersTo(t, "Amend", hold.Amend, l, id, x, want, err)
}

// place, free and amend hold a call against the tests' own reckoning, and tell the error.

func place(t *testing.T, l []api.Hold, id string, x api.Scope) api.Errno {
	t.Helper()
	want, e := placed(l, id, x)
	placeTo(t, l, id, x, want, e)
	return e
}

func free(t *testing.T, l []api.Hold, id string) api.Errno {
	t.Helper()
	want, e := released(l, id)
	releaseTo(t, l, id, want, e)
	return e
}

func amend(t *testing.T, l []api.Hold, id string, x api.Scope) api.Errno {
	t.Helper()
	want, e := amended(l, id, x)
	amendTo(t, l, id, x, want, e)
	return e
}

// onTo holds On and Held against what the document asks.
func onTo(t *testing.T, l []api.Hold, r api.Rec, want ...string) {
	t.Helper()
	in := own(l)
	ahead := whole(in)
	ids, again := hold.On(in, r), hold.On(in, r)
	if !slices.Equal(ids, want) {
		t.Errorf("On(%s, %+v): %q, not %q", short(ahead), r, ids, want)
	}
	if held := hold.Held(in, r); held != (len(want) > 0) {
		t.Errorf("Held(%s, %+v): %v", short(ahead), r, held)
	}
	ids = ids[:cap(ids)]
	for i := range ids {
		ids[i] = "spoilt"
	}
	if whole(in) != ahead {
		t.Errorf("what was handed in, %s, is %s behind it", short(ahead), short(whole(in)))
	}
	spoil(in)
	if !slices.Equal(again, want) {
		t.Errorf("On, asked twice: %q, once what was answered first and what was handed in was changed, not %q", again, want)
	}
}

// on holds On and Held against the tests' own reckoning, and tells how many there are.
func on(t *testing.T, l []api.Hold, r api.Rec) int {
	t.Helper()
	want := onOf(l, r)
	onTo(t, l, r, want...)
	return len(want)
}
