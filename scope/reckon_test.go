package scope_test

import (
	"bytes"
	"fmt"
	"hanaper/api"
	"hanaper/scope"
	"math"
	"slices"
	"strconv"
	"strings"
	"testing"
)

// The limits and the kinds, as the document numbers them.
const (
	mostName  = 16
	mostClock = 1099511627776
	mostNodes = 24
	mostDepth = 8

	opAll   = 1
	opCase  = 2
	opSub   = 3
	opClass = 4
	opTime  = 5
	opAnd   = 6
	opOr    = 7
	opNot   = 8
)

const inName = "abcdefghijklmnopqrstuvwxyz0123456789.-_"

// Scopes and records as they are written out by hand.

func all() api.Scope                  { return api.Scope{Op: opAll} }
func ofCase(name string) api.Scope    { return api.Scope{Op: opCase, Name: name} }
func ofSub(name string) api.Scope     { return api.Scope{Op: opSub, Name: name} }
func ofClass(name string) api.Scope   { return api.Scope{Op: opClass, Name: name} }
func time(from, to int) api.Scope     { return api.Scope{Op: opTime, From: from, To: to} }
func and(kids ...api.Scope) api.Scope { return api.Scope{Op: opAnd, Kids: kids} }
func or(kids ...api.Scope) api.Scope  { return api.Scope{Op: opOr, Kids: kids} }
func not(kids ...api.Scope) api.Scope { return api.Scope{Op: opNot, Kids: kids} }

func rec(ofCase, sub, class string, tick int) api.Rec {
	return api.Rec{Id: "id", Case: ofCase, Sub: sub, Class: class, Tick: tick, State: api.StLive}
}

// times is n scopes, all like x.
func times(n int, x api.Scope) []api.Scope {
	return slices.Repeat([]api.Scope{x}, n)
}

// strange are ints that are no Op, also such as would wrap round to one.
func strange() []int {
	l := []int{math.MinInt, math.MinInt + 1, math.MinInt32, math.MinInt32 + 5, -1 << 16, -257, -256, 0, 9, 10, 11, 12, 15, 16, 17, 127, 128, 255, 256, 1 << 16, math.MaxInt32, math.MaxInt - 1, math.MaxInt}
	for op := opAll; op <= opNot; op++ {
		l = append(l, -op, op-256, op+256, op+1<<16, op+1<<32, op-1<<32, op+math.MinInt)
	}
	return l
}

// edges are ints about 0 and the last tick, and about some powers of 2, the least and the greatest one.
func edges() []int {
	var l []int
	for _, n := range []int{0, 1 << 8, 1 << 31, 1 << 32, mostClock, 1 << 41, 1 << 62} {
		l = append(l, n-1, n, n+1, -n-1, -n, -n+1)
	}
	return append(l, math.MinInt, math.MinInt+1, math.MaxInt, math.MaxInt-1)
}

// own is x in memory of its own, with room behind its Kids in which something stands.
func own(x api.Scope) api.Scope {
	kids := make([]api.Scope, 0, len(x.Kids)+2)
	for _, k := range x.Kids {
		kids = append(kids, own(k))
	}
	x.Kids = append(kids, api.Scope{Op: -7, Name: "behind"}, api.Scope{Op: -8})[:len(kids)]
	return x
}

// spots are all the places of x, of what is above ahead of what is below.
func spots(x *api.Scope) []*api.Scope {
	l := []*api.Scope{x}
	for i := range x.Kids {
		l = append(l, spots(&x.Kids[i])...)
	}
	return l
}

// changed is x, the i'th of its places done something with.
func changed(x api.Scope, i int, do func(k *api.Scope)) api.Scope {
	x = own(x)
	do(spots(&x)[i])
	return x
}

// shown is x as the tests' messages show it, and a text that only scopes that are the same have.
func shown(x api.Scope) string {
	return string(appendShown(nil, x, false))
}

// whole is likewise of x, and of what stands in the room behind its Kids.
func whole(x api.Scope) string {
	return string(appendShown(nil, x, true))
}

func appendShown(b []byte, x api.Scope, room bool) []byte {
	b = strconv.AppendInt(append(b, '{'), int64(x.Op), 10)
	b = strconv.AppendQuote(append(b, ' '), x.Name)
	b = strconv.AppendInt(append(b, ' '), int64(x.From), 10)
	b = strconv.AppendInt(append(b, '-'), int64(x.To), 10)
	for _, k := range x.Kids {
		b = appendShown(append(b, ' '), k, room)
	}
	if room {
		for _, k := range x.Kids[len(x.Kids):cap(x.Kids)] {
			b = appendShown(append(b, '+'), k, false)
		}
	}
	return append(b, '}')
}

// short is a text as the tests' messages show it: of a long one only the ends.
func short(s string) string {
	if len(s) > 500 {
		return s[:300] + " .. " + s[len(s)-150:] + fmt.Sprint(", ", len(s), " bytes")
	}
	return s
}

// The tests' own reckoning.

func isName(s string) bool {
	return len(s) > 0 && len(s) <= mostName && strings.Trim(s, inName) == "" && strings.IndexFunc(s, func(c rune) bool { return strings.IndexRune(inName, c) < 0 }) < 0
}

func nodesOf(x api.Scope) int {
	n := 1
	for _, k := range x.Kids {
		n += nodesOf(k)
	}
	return n
}

func depthOf(x api.Scope) int {
	n := 0
	for _, k := range x.Kids {
		n = max(n, depthOf(k))
	}
	return n + 1
}

// isWhole is whether x may be, its size not asked.
func isWhole(x api.Scope) bool {
	names := map[int]bool{opCase: true, opSub: true, opClass: true}
	least, most := 0, 0
	switch x.Op {
	case opNot:
		least, most = 1, 1
	case opAnd, opOr:
		least, most = 2, math.MaxInt
	}
	right := opAll <= x.Op && x.Op <= opNot && least <= len(x.Kids) && len(x.Kids) <= most
	if names[x.Op] {
		right = right && isName(x.Name)
	} else {
		right = right && len(x.Name) == 0
	}
	if x.Op == opTime {
		right = right && !(x.From < 0 || x.To > mostClock || x.From > x.To)
	} else {
		right = right && x.From == 0 && x.To == 0
	}
	for _, k := range x.Kids {
		right = right && isWhole(k)
	}
	return right
}

// isFair is whether x may be.
func isFair(x api.Scope) bool {
	return isWhole(x) && nodesOf(x) <= mostNodes && depthOf(x) <= mostDepth
}

// matched is whether x matches r.
func matched(x api.Scope, r api.Rec) bool {
	which := make([]bool, len(x.Kids))
	count := 0
	for i, k := range x.Kids {
		which[i] = matched(k, r)
		if which[i] {
			count++
		}
	}
	of := map[int]bool{
		opAll:   true,
		opCase:  x.Name == r.Case,
		opSub:   x.Name == r.Sub,
		opClass: x.Name == r.Class,
		opTime:  !(r.Tick < x.From || r.Tick > x.To),
		opAnd:   count == len(x.Kids),
		opOr:    count > 0,
		opNot:   len(which) == 0 || !which[0],
	}
	return of[x.Op]
}

// numOf is a number as P1.1 says its bytes.
func numOf(n int) []byte {
	var b []byte
	for v := uint64(n); v > 0; v /= 256 {
		b = append(b, byte(v%256))
	}
	slices.Reverse(b)
	return append([]byte{byte(len(b))}, b...)
}

// bytesOf is x as P20.3 says its bytes, whether it may be or not.
func bytesOf(x api.Scope) []byte {
	b := []byte{byte(x.Op)}
	if x.Op == opCase || x.Op == opSub || x.Op == opClass {
		b = append(append(b, numOf(len(x.Name))...), x.Name...)
	}
	if x.Op == opTime {
		b = append(append(b, numOf(x.From)...), numOf(x.To)...)
	}
	if x.Op == opAnd || x.Op == opOr {
		b = append(b, numOf(len(x.Kids))...)
	}
	for _, k := range x.Kids {
		b = append(b, bytesOf(k)...)
	}
	return b
}

// guess reads bytes as a scope, and what is none as another one that has other bytes, or may not be.
type guess struct {
	rest []byte
	fuel int
}

func (g *guess) byte() byte {
	if len(g.rest) == 0 {
		return 0
	}
	b := g.rest[0]
	g.rest = g.rest[1:]
	return b
}

func (g *guess) num() int {
	n := 0
	for range g.byte() {
		n = n<<8 + int(g.byte())
	}
	return n
}

func (g *guess) scope() api.Scope {
	g.fuel--
	if g.fuel < 0 {
		return api.Scope{}
	}
	x, kids := api.Scope{Op: int(g.byte())}, 0
	switch x.Op {
	case opCase, opSub, opClass:
		for range min(max(g.num(), 0), mostName+1) {
			x.Name += string([]byte{g.byte()})
		}
	case opTime:
		x.From = g.num()
		x.To = g.num()
	case opNot:
		kids = 1
	case opAnd, opOr:
		kids = g.num()
	}
	for range min(max(kids, 0), mostNodes) {
		x.Kids = append(x.Kids, g.scope())
	}
	return x
}

// readOf is the scope whose bytes are b, and whether there is one.
func readOf(b []byte) (api.Scope, bool) {
	g := guess{b, 2 * mostNodes}
	x := g.scope()
	return x, isFair(x) && bytes.Equal(bytesOf(x), b)
}

// heldTo holds Check and Put of x against what the document asks, that x is the same as itself, that what is put is got (P20.4), and that x is not changed.
func heldTo(t *testing.T, x api.Scope, b []byte, err api.Errno) {
	t.Helper()
	x = own(x)
	ahead := whole(x)
	if e := scope.Check(x); e != err {
		t.Errorf("Check(%s): error %d, not %d", short(ahead), e, err)
	}
	put, e := scope.Put(x)
	if !bytes.Equal(put, b) || e != err {
		t.Errorf("Put(%s): %v, error %d, not %v, error %d", short(ahead), put, e, b, err)
	}
	if !scope.Same(x, x) || !scope.Same(x, own(x)) {
		t.Errorf("Same(%s): not the same as itself", short(ahead))
	}
	if err == api.OK {
		got, e := scope.Get(b)
		if e != api.OK || shown(got) != shown(x) || !scope.Same(got, x) || !scope.Same(x, got) {
			t.Errorf("Get(%v): %s, error %d, of what was put as %s", b, short(shown(got)), e, short(ahead))
		}
	}
	if behind := whole(x); behind != ahead {
		t.Errorf("what was handed in, %s, is %s behind it", short(ahead), short(behind))
	}
}

// may asks that x may be, and its bytes.
func may(t *testing.T, x api.Scope, b ...byte) {
	t.Helper()
	heldTo(t, x, b, api.OK)
}

// mayNot asks that x may not be.
func mayNot(t *testing.T, x api.Scope) {
	t.Helper()
	heldTo(t, x, nil, api.ErrArg)
}

// held holds x against the tests' own reckoning, and tells whether it may be.
func held(t *testing.T, x api.Scope) bool {
	t.Helper()
	if !isFair(x) {
		mayNot(t, x)
		return false
	}
	may(t, x, bytesOf(x)...)
	return true
}

// holds asks by hand whether x may be, and by the tests' own reckoning its bytes.
func holds(t *testing.T, x api.Scope, want bool) {
	t.Helper()
	if held(t, x) != want {
		t.Errorf("%s is asked as %v", short(shown(x)), want)
	}
}

// matchTo holds Match against what the document asks, and that x is not changed.
func matchTo(t *testing.T, x api.Scope, r api.Rec, want bool) {
	t.Helper()
	x = own(x)
	ahead := whole(x)
	if scope.Match(x, r) != want {
		t.Errorf("Match(%s, %#v): %v", short(ahead), r, !want)
	}
	if behind := whole(x); behind != ahead {
		t.Errorf("what was handed in, %s, is %s behind it", short(ahead), short(behind))
	}
}

// match holds Match against the tests' own reckoning, and tells what that is.
func match(t *testing.T, x api.Scope, r api.Rec) bool {
	t.Helper()
	want := matched(x, r)
	matchTo(t, x, r, want)
	return want
}

// getTo holds Get against what the document asks, that what is got has these bytes (P20.4), and that these are not changed.
func getTo(t *testing.T, b []byte, want api.Scope, err api.Errno) {
	t.Helper()
	in := append(slices.Clone(b), 1, 250, 97)[:len(b)] // what stands behind b is none of it
	x, e := scope.Get(in)
	if e != err || shown(x) != shown(want) {
		t.Errorf("Get(%v): %s, error %d, not %s, error %d", b, short(shown(x)), e, short(shown(want)), err)
	}
	if !bytes.Equal(in, b) || !bytes.Equal(in[:len(b)+3], append(slices.Clone(b), 1, 250, 97)) {
		t.Errorf("what was handed in, %v, is %v behind it", b, in)
	}
	if err != api.OK {
		return
	}
	if again, e := scope.Put(x); e != api.OK || !bytes.Equal(again, b) {
		t.Errorf("%v, got and put: %v, error %d", b, again, e)
	}
}

// none asks that b is no scope's bytes.
func none(t *testing.T, b ...byte) {
	t.Helper()
	getTo(t, b, api.Scope{}, api.ErrText)
}

// get holds Get against the tests' own reckoning, and tells whether there is a scope.
func get(t *testing.T, b []byte) bool {
	t.Helper()
	x, is := readOf(b)
	if is {
		getTo(t, b, x, api.OK)
	} else {
		none(t, b...)
	}
	return is
}

// sameTo holds Same against what the document asks, and that neither scope is changed.
func sameTo(t *testing.T, a, b api.Scope, want bool) {
	t.Helper()
	x, y := whole(a), whole(b)
	if scope.Same(a, b) != want || scope.Same(b, a) != want {
		t.Errorf("Same(%s, %s): %v", short(x), short(y), !want)
	}
	if whole(a) != x || whole(b) != y {
		t.Errorf("what was handed in, %s and %s, is %s and %s behind it", short(x), short(y), short(whole(a)), short(whole(b)))
	}
}
