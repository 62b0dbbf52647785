package event_test

import (
	"bytes"
	"fmt"
	"hanaper/api"
	"hanaper/event"
	"math"
	"slices"
	"strings"
	"testing"
)

// The limits, the kinds and the errors, as the document numbers them.
const (
	mostName  = 16
	mostClock = 1099511627776
	mostBytes = 44
	mostKind  = 14

	evSchedule = 1
	evCase     = 2
	evSubject  = 3
	evIngest   = 4
	evMile     = 5
	evReclass  = 6
	evHold     = 7
	evRelease  = 8
	evAmend    = 9
	evPurge    = 10
	evErase    = 11
	evShred    = 12
	evKeep     = 13
	evRedact   = 14

	fine    = 0
	errArg  = 1
	errText = 2
)

const inName = "abcdefghijklmnopqrstuvwxyz0123456789.-_"

// longName is a name of the most bytes.
const longName = "0123456789.-_xyz"

// ev is an event as it is written out by hand.
func ev(kind, tick int, a, b string) api.Event {
	return api.Event{Kind: kind, Tick: tick, A: a, B: b}
}

// wordsOf are the kinds' words, in the order of their numbers.
func wordsOf() []string {
	return strings.Fields("schedule case subject ingest mile reclass hold release amend purge erase shred keep redact")
}

// notKinds are ints that are no Kind, also such as would wrap round to one.
func notKinds() []int {
	l := []int{math.MinInt, math.MinInt + 1, math.MinInt32, -1 << 16, -257, -256, -255, 0, 15, 16, 17, 20, 26, 27, 28, 29, 30, 31, 100, 127, 128, 255, 256, 1 << 16, math.MaxInt32, math.MaxInt - 1, math.MaxInt}
	for kind := 1; kind <= mostKind; kind++ {
		l = append(l, -kind, kind-256, kind+256, kind+1<<16, kind+1<<32, kind-1<<32, kind+math.MinInt, kind+mostKind)
	}
	return l
}

// ticks are such as may be: the edges, and about each power of 2, so that each number of bytes is among them.
func ticks() []int {
	l := []int{0, 5, 9, 10, 99, 100, mostClock / 2, mostClock - 255, mostClock - 256, mostClock - 257}
	for k := range 40 {
		l = append(l, 1<<k, 1<<k+1, 2<<k-1)
	}
	return append(l, mostClock)
}

// notTicks are such as may not be.
func notTicks() []int {
	l := []int{-1, -2, -5, -255, -256, -mostClock, -mostClock + 1, -mostClock - 1, math.MinInt, math.MinInt + 1, math.MinInt + 5, math.MinInt32, mostClock + 1, mostClock + 2, mostClock + 256, 2*mostClock - 1, 2 * mostClock, math.MaxInt - 1, math.MaxInt}
	for k := 41; k < 63; k++ {
		l = append(l, 1<<k, 1<<k+1, -1<<k, -1<<k+5)
	}
	return l
}

// names are names: of each byte that may stand in one, of each length.
func names() []string {
	l := []string{"hr", "a.b-c_1", ".", "..", "-", "_", "0", "123", "purge", longName, strings.Repeat("a", mostName), strings.Repeat(".", mostName)}
	for i := range inName {
		l = append(l, inName[i:i+1], "q"+inName[i:i+1], inName[i:i+1]+"q")
	}
	for n := 1; n <= mostName; n++ {
		l = append(l, longName[:n])
	}
	return l
}

// notNames are texts that are neither empty nor a name.
func notNames() []string {
	l := []string{
		" ", "A", "Q", "a b", " a", "a ", "a/b", "a\n", "\x00", "a\x00", "\x00a", "é", "aé", "\xff", "\xc3", "\u2028", "日本", "\ufffd", "a\u0300", "ａ", "１",
		strings.Repeat("a", mostName+1), longName + "0", longName + " ", longName[:15] + "A", "A" + longName[:15], "A" + longName, strings.Repeat("é", 8), strings.Repeat("é", 16), strings.Repeat("a", 256), strings.Repeat("z", 272), strings.Repeat("a", 1<<16+1),
	}
	for v := range 256 {
		s := string([]byte{byte(v)})
		if !strings.Contains(inName, s) {
			l = append(l, s, "q"+s, s+"q", longName[:7]+s+longName[8:])
		}
	}
	for n := mostName + 1; n < 40; n++ {
		l = append(l, strings.Repeat("x", n))
	}
	return l
}

// few are some names, and the empty one.
func few() []string {
	return []string{"", "r", "hr", ".", longName}
}

// short is a text as the tests' messages show it: of a long one only the ends.
func short(s string) string {
	if len(s) > 300 {
		return s[:150] + " .. " + s[len(s)-50:] + fmt.Sprint(", ", len(s), " bytes")
	}
	return s
}

func shown(x api.Event) string {
	return fmt.Sprintf("{%d %d %s %s}", x.Kind, x.Tick, short(fmt.Sprintf("%q", x.A)), short(fmt.Sprintf("%q", x.B)))
}

// The tests' own reckoning.

func isNameOrEmpty(s string) bool {
	for _, c := range []byte(s) {
		if strings.IndexByte(inName, c) < 0 {
			return false
		}
	}
	return len(s) <= mostName
}

// isFair is whether x may be.
func isFair(x api.Event) bool {
	kind, tick := false, !(x.Tick < 0 || x.Tick > mostClock)
	for i := range wordsOf() {
		kind = kind || x.Kind == i+1
	}
	return kind && tick && isNameOrEmpty(x.A) && isNameOrEmpty(x.B)
}

// numOf is a number as P1.1 says its bytes.
func numOf(n int) []byte {
	var b []byte
	for v := uint64(n); v > 0; v /= 256 {
		b = append(b, byte(v%256))
	}
	slices.Reverse(b)
	return append([]byte{byte(len(b))}, b...)
}

// told is an event's bytes, put together of a kind, a tick told in any way, and two names with how long they are.
func told(kind byte, tick []byte, a, b string) []byte {
	return slices.Concat([]byte{kind}, tick, numOf(len(a)), []byte(a), numOf(len(b)), []byte(b))
}

// bytesOf is x as P23.1 says its bytes, whether it may be or not.
func bytesOf(x api.Event) []byte {
	return told(byte(x.Kind), numOf(x.Tick), x.A, x.B)
}

// textOf is x as P23.2 says its text.
func textOf(x api.Event) string {
	if !isFair(x) {
		return ""
	}
	l := []string{fmt.Sprint(x.Tick), wordsOf()[x.Kind-1], x.A, x.B}
	return strings.Join(slices.DeleteFunc(l, func(s string) bool { return s == "" }), " ")
}

// guess reads bytes as an event, and what is none as another one that has other bytes, or may not be.
func guess(b []byte) api.Event {
	next := func() byte {
		if len(b) == 0 {
			return 0
		}
		v := b[0]
		b = b[1:]
		return v
	}
	num := func() int {
		n := 0
		for range next() {
			n = n<<8 + int(next())
		}
		return n
	}
	text := func() string {
		var s []byte
		for range min(max(num(), 0), mostName+1) {
			s = append(s, next())
		}
		return string(s)
	}
	x := api.Event{Kind: int(next())}
	x.Tick = num()
	x.A = text()
	x.B = text()
	return x
}

// readOf is the event whose bytes are b, and whether there is one.
func readOf(b []byte) (api.Event, bool) {
	x := guess(b)
	return x, isFair(x) && bytes.Equal(bytesOf(x), b)
}

// mayTo asks that x may be, with these bytes and this text, and that what is put is got, and has 44 bytes at most (P23.3).
func mayTo(t *testing.T, x api.Event, text string, b ...byte) {
	t.Helper()
	if e := event.Check(x); e != fine {
		t.Errorf("Check(%s): error %d, where it may be", shown(x), e)
	}
	if put, e := event.Put(x); e != fine || !bytes.Equal(put, b) || len(put) > mostBytes {
		t.Errorf("Put(%s): %v, error %d, not %v", shown(x), put, e, b)
	}
	if s := event.Text(x); s != text {
		t.Errorf("Text(%s): %q, not %q", shown(x), s, text)
	}
	if is := event.Ends(x); is != (x.Kind == evPurge || x.Kind == evErase) {
		t.Errorf("Ends(%s): %v", shown(x), is)
	}
	getTo(t, b, x, fine)
}

// mayNot asks that x may not be: no bytes, no text, and no record ends by it.
func mayNot(t *testing.T, x api.Event) {
	t.Helper()
	if e := event.Check(x); e != errArg {
		t.Errorf("Check(%s): error %d, where it may not be", shown(x), e)
	}
	if b, e := event.Put(x); e != errArg || len(b) > 0 {
		t.Errorf("Put(%s): %v, error %d, where it may not be", shown(x), b, e)
	}
	if s := event.Text(x); s != "" {
		t.Errorf("Text(%s): %q, where it may not be", shown(x), s)
	}
	if event.Ends(x) {
		t.Errorf("Ends(%s), where it may not be", shown(x))
	}
}

// held holds x against the tests' own reckoning, and tells whether it may be.
func held(t *testing.T, x api.Event) bool {
	t.Helper()
	if !isFair(x) {
		mayNot(t, x)
		return false
	}
	mayTo(t, x, textOf(x), bytesOf(x)...)
	return true
}

// holds asks by hand whether x may be, and by the tests' own reckoning its bytes and its text.
func holds(t *testing.T, x api.Event, want bool) {
	t.Helper()
	if held(t, x) != want {
		t.Errorf("%s is asked as %v", shown(x), want)
	}
}

// getTo holds Get against what the document asks, that what is got has these bytes (P23.3), and that what is handed in is not changed, nor what stands behind it.
func getTo(t *testing.T, b []byte, want api.Event, err api.Errno) {
	t.Helper()
	for _, behind := range [][]byte{nil, {0}, {1, 1, 97, 0}, {114, 0, 250}} { // none of this is b's
		whole := slices.Concat(b, behind)
		was := slices.Clone(whole)
		x, e := event.Get(whole[:len(b)])
		if e != err || x != want {
			t.Errorf("Get(%v): %s, error %d, not %s, error %d", short(fmt.Sprint(b)), shown(x), e, shown(want), err)
		}
		if !bytes.Equal(whole, was) {
			t.Errorf("what was handed in, %v, is %v behind it", was, whole)
		}
	}
	if err != fine {
		return
	}
	if again, e := event.Put(want); e != fine || !bytes.Equal(again, b) {
		t.Errorf("%v, got and put: %v, error %d", b, again, e)
	}
}

// none asks that b is no event's bytes.
func none(t *testing.T, b ...byte) {
	t.Helper()
	getTo(t, b, api.Event{}, errText)
}

// get holds Get against the tests' own reckoning, and tells whether there is an event.
func get(t *testing.T, b []byte) bool {
	t.Helper()
	x, is := readOf(b)
	if is {
		getTo(t, b, x, fine)
	} else {
		none(t, b...)
	}
	return is
}

// gets asks by hand whether there is an event, and by the tests' own reckoning which.
func gets(t *testing.T, b []byte, want bool) {
	t.Helper()
	if get(t, b) != want {
		t.Errorf("whether %v is an event is asked as %v", short(fmt.Sprint(b)), want)
	}
}
