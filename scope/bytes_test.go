package scope_test

import (
	"bytes"
	"hanaper/api"
	"hanaper/scope"
	"slices"
	"strings"
	"testing"
)

// P20.3: Put, and what is got of it.

func TestPutByHand(t *testing.T) {
	a, b := ofCase("a"), ofSub("b")
	may(t, not(a), 8, 2, 1, 1, 97)
	may(t, all(), 1)
	may(t, a, 2, 1, 1, 97)
	may(t, b, 3, 1, 1, 98)
	may(t, ofClass(".-_"), 4, 1, 3, 46, 45, 95)
	may(t, time(0, 0), 5, 0, 0)
	may(t, time(0, 5), 5, 0, 1, 5)
	may(t, time(5, 9), 5, 1, 5, 1, 9)
	may(t, time(255, 256), 5, 1, 255, 2, 1, 0)
	may(t, time(0, mostClock), 5, 0, 6, 1, 0, 0, 0, 0, 0)
	may(t, time(mostClock-1, mostClock), 5, 5, 255, 255, 255, 255, 255, 6, 1, 0, 0, 0, 0, 0)
	may(t, time(mostClock, mostClock), 5, 6, 1, 0, 0, 0, 0, 0, 6, 1, 0, 0, 0, 0, 0)
	may(t, and(all(), all()), 6, 1, 2, 1, 1)
	may(t, or(all(), all(), all()), 7, 1, 3, 1, 1, 1)
	may(t, and(a, b), 6, 1, 2, 2, 1, 1, 97, 3, 1, 1, 98)
	may(t, or(b, a), 7, 1, 2, 3, 1, 1, 98, 2, 1, 1, 97)
	may(t, not(not(all())), 8, 8, 1)
	may(t, nots(7, all()), 8, 8, 8, 8, 8, 8, 8, 1)
	may(t, and(a, not(time(5, 9))), 6, 1, 2, 2, 1, 1, 97, 8, 5, 1, 5, 1, 9)
	may(t, or(and(all(), not(a)), all()), 7, 1, 2, 6, 1, 2, 1, 8, 2, 1, 1, 97, 1)
	may(t, and(times(23, all())...), append([]byte{6, 1, 23}, bytes.Repeat([]byte{1}, 23)...)...)
	may(t, or(times(23, all())...), append([]byte{7, 1, 23}, bytes.Repeat([]byte{1}, 23)...)...)
	for op := byte(2); op <= 4; op++ {
		for n := 1; n <= mostName; n++ {
			s := strings.Repeat("q", n)
			may(t, api.Scope{Op: int(op), Name: s}, append([]byte{op, 1, byte(n)}, s...)...)
		}
	}
}

func TestPutOfWhatMayNotBe(t *testing.T) {
	for _, x := range few() {
		for _, y := range []api.Scope{x, not(x), and(x, x), or(all(), x)} {
			if b, e := scope.Put(y); e != api.ErrArg || b != nil {
				t.Errorf("Put(%s): %v, error %d", shown(y), b, e)
			}
		}
	}
}

// P20.3: Get.

func TestGetByHand(t *testing.T) {
	getTo(t, []byte{8, 2, 1, 1, 97}, not(ofCase("a")), api.OK)
	getTo(t, []byte{1}, all(), api.OK)
	getTo(t, []byte{3, 1, 2, 104, 114}, ofSub("hr"), api.OK)
	getTo(t, []byte{4, 1, 1, 48}, ofClass("0"), api.OK)
	getTo(t, []byte{5, 0, 0}, time(0, 0), api.OK)
	getTo(t, []byte{5, 0, 6, 1, 0, 0, 0, 0, 0}, time(0, mostClock), api.OK)
	getTo(t, []byte{6, 1, 2, 1, 5, 1, 5, 1, 9}, and(all(), time(5, 9)), api.OK)
	getTo(t, []byte{7, 1, 3, 1, 1, 8, 1}, or(all(), all(), not(all())), api.OK)
}

func TestGetOfNone(t *testing.T) {
	none(t)
	if x, e := scope.Get(nil); e != api.ErrText || shown(x) != shown(api.Scope{}) {
		t.Errorf("Get of no byte: %s, error %d", shown(x), e)
	}
	for op := range 256 {
		v := byte(op)
		if get(t, []byte{v}) != (op == opAll) || get(t, []byte{8, v}) != (op == opAll) {
			t.Errorf("the byte %d alone", v)
		}
		if get(t, []byte{v, 1}) != (op == opNot) {
			t.Errorf("the bytes %d, 1", v)
		}
		named := opCase <= op && op <= opClass
		if get(t, []byte{v, 1, 1, 97}) != named || get(t, []byte{8, v, 1, 1, 97}) != named || get(t, []byte{6, 1, 2, v, 1, 1, 97, 1}) != named {
			t.Errorf("%d and a name", v)
		}
		if get(t, []byte{v, 0, 0}) != (op == opTime) || get(t, []byte{v, 1, 2, 1, 1}) != (op == opAnd || op == opOr) {
			t.Errorf("%d and two numbers, or two Kids", v)
		}
	}
	for _, v := range []byte{0, 9, 10, 11, 16, 17, 128, 129, 200, 255} {
		for _, rest := range [][]byte{nil, {1}, {0, 0}, {1, 1, 97}, {1, 2, 1, 1}, {1, 5, 1, 9}, {2, 1, 1, 97}} {
			none(t, append([]byte{v}, rest...)...)
			none(t, append([]byte{8, v}, rest...)...)
			none(t, append([]byte{7, 1, 2, 1, v}, rest...)...)
		}
	}
}

// Names that are none, are too long, or are told in another way.
func TestGetOfWrongNames(t *testing.T) {
	long := strings.Repeat("a", 300)
	for op := byte(2); op <= 4; op++ {
		for n := range 40 {
			b := append([]byte{op, 1, byte(n)}, long[:n]...)
			if n == 0 {
				b = []byte{op, 0}
			}
			if get(t, b) != (1 <= n && n <= mostName) {
				t.Errorf("a name of %d bytes", n)
			}
		}
		for v := range 256 {
			right := strings.Contains(inName, string([]byte{byte(v)}))
			if get(t, []byte{op, 1, 1, byte(v)}) != right || get(t, []byte{op, 1, 2, 97, byte(v)}) != right || get(t, []byte{8, op, 1, 3, byte(v), 97, 97}) != right {
				t.Errorf("a name with the byte %d", v)
			}
		}
		for _, b := range [][]byte{
			{1, 0}, {1, 0, 97}, {2, 0, 1, 97}, {3, 0, 0, 1, 97}, {8, 0, 0, 0, 0, 0, 0, 0, 1, 97}, {9, 0, 0, 0, 0, 0, 0, 0, 0, 1, 97}, {1, 2, 97}, {1, 1, 97, 97}, {1, 255, 97}, {0, 97}, {97},
			{2, 1, 1, 97}, {8, 0, 0, 0, 1, 0, 0, 0, 1, 97}, {8, 255, 255, 255, 255, 255, 255, 255, 255, 97}, {8, 128, 0, 0, 0, 0, 0, 0, 1, 97}, {255, 1, 97}, {1, 65}, {1, 1, 65}, {1, 2, 97, 32}, {1, 2, 195, 164},
		} {
			none(t, append([]byte{op}, b...)...)
			none(t, append([]byte{8, op}, b...)...)
		}
		none(t, slices.Concat([]byte{op, 2, 1, 1}, []byte(long[:257]))...)
		none(t, slices.Concat([]byte{op, 2, 1, 16}, []byte(long[:16]))...)
		none(t, slices.Concat([]byte{op, 2, 1, 16}, []byte(long[:272]))...)
	}
}

// From and To out of all numbers in all ways of telling one, right and wrong.
func TestGetOfTimes(t *testing.T) {
	nums := [][]byte{
		{0}, {1, 1}, {1, 9}, {1, 255}, {2, 1, 0}, {5, 255, 255, 255, 255, 255}, {6, 1, 0, 0, 0, 0, 0}, // from 0 to MaxClock
		{6, 1, 0, 0, 0, 0, 1}, {6, 2, 0, 0, 0, 0, 0}, {7, 1, 0, 0, 0, 0, 0, 0}, {8, 127, 255, 255, 255, 255, 255, 255, 255}, {8, 128, 0, 0, 0, 0, 0, 0, 0}, {8, 128, 0, 0, 0, 0, 0, 0, 5}, {8, 255, 255, 255, 255, 255, 255, 255, 255},
		{1, 0}, {2, 0, 1}, {2, 0, 0}, {6, 0, 0, 0, 0, 0, 5}, {8, 0, 0, 0, 0, 0, 0, 0, 9}, {9, 0, 0, 0, 0, 0, 0, 0, 0, 9}, {9, 1, 0, 0, 0, 0, 0, 0, 0, 0}, {255},
	}
	const right = 7
	for i, from := range nums {
		for k, to := range nums {
			is := i <= k && k < right
			if get(t, slices.Concat([]byte{5}, from, to)) != is || get(t, slices.Concat([]byte{6, 1, 2, 5}, from, to, []byte{1})) != is {
				t.Errorf("from %v to %v", from, to)
			}
		}
		none(t, append([]byte{5}, from...)...)
		none(t, slices.Concat([]byte{5}, from, from[:len(from)-1])...)
	}
}

// A number of Kids that is too small, too great, greater than the bytes that are left, and told in other ways.
func TestGetOfNumbersOfKids(t *testing.T) {
	for _, op := range []byte{6, 7} {
		for n := range 256 {
			num := []byte{1, byte(n)}
			if n == 0 {
				num = []byte{0}
			}
			for k := range 30 {
				b := slices.Concat([]byte{op}, num, bytes.Repeat([]byte{1}, k))
				if get(t, b) != (n == k && 2 <= n && n < mostNodes) {
					t.Errorf("%d Kids told, %d there", n, k)
				}
			}
			none(t, slices.Concat([]byte{op}, num)...)
			none(t, slices.Concat([]byte{op}, num, bytes.Repeat([]byte{1}, 600))...)
		}
		for _, num := range [][]byte{
			{1, 0}, {2, 0, 2}, {3, 0, 0, 2}, {8, 0, 0, 0, 0, 0, 0, 0, 2}, {9, 0, 0, 0, 0, 0, 0, 0, 0, 2}, {2}, {3}, {255}, {2, 1, 2}, {8, 0, 0, 0, 1, 0, 0, 0, 2}, {5, 1, 0, 0, 0, 2},
			{8, 127, 255, 255, 255, 255, 255, 255, 255}, {8, 128, 0, 0, 0, 0, 0, 0, 2}, {8, 255, 255, 255, 255, 255, 255, 255, 254}, {8, 255, 255, 255, 255, 255, 255, 255, 255}, {7, 255, 255, 255, 255, 255, 255, 255},
		} {
			for k := range 30 {
				none(t, slices.Concat([]byte{op}, num, bytes.Repeat([]byte{1}, k))...)
			}
		}
	}
	// Of a not there stands none.
	none(t, 8, 1, 1, 1)
	none(t, 8, 1, 1, 2, 1, 1, 97)
	none(t, 8, 1, 2, 1, 1)
	none(t, 8, 0)
	none(t, 8)
}

// One node, or one deeper, than may be.
func TestGetBeyondTheLimits(t *testing.T) {
	a := ofCase("a")
	for n := range 40 {
		if get(t, bytesOf(nots(n, a))) != (n < mostDepth) || get(t, bytesOf(comb(and, n+1, true))) != (n < mostDepth) || get(t, bytesOf(comb(or, n+1, false))) != (n < mostDepth) {
			t.Errorf("%d deep", n+1)
		}
		if n > 1 {
			right := n+1 <= mostNodes
			if get(t, bytesOf(and(times(n, a)...))) != right || get(t, bytesOf(or(times(n, all())...))) != right || get(t, bytesOf(not(or(times(n, a)...)))) != (n+2 <= mostNodes) {
				t.Errorf("%d Kids", n)
			}
		}
		x := changed(comb(or, mostDepth, true), 4, func(k *api.Scope) { k.Kids = append(k.Kids, times(n, a)...) })
		if get(t, bytesOf(x)) != (15+n <= mostNodes) {
			t.Errorf("a comb, and %d more", n)
		}
	}
	x := all()
	for depth := 1; depth < 12; depth++ {
		if get(t, bytesOf(x)) != (depth <= 4) {
			t.Errorf("a bush %d deep", depth)
		}
		x = or(x, x)
	}
}

// Very many bytes.
func TestGetOfMany(t *testing.T) {
	for v := range 256 {
		none(t, bytes.Repeat([]byte{byte(v)}, 5000)...)
	}
	for _, part := range [][]byte{{1}, {8}, {8, 8, 8, 8, 8, 8, 8, 1}, {6, 1, 2}, {6, 1, 2, 1}, {7, 1, 24}, {6, 1, 23, 7, 1, 23}, {2, 1, 1, 97}, {5, 0, 0}, {7, 1, 2, 8}} {
		for _, n := range []int{100, 1 << 16, 1 << 20} {
			if x, e := scope.Get(bytes.Repeat(part, n)); e != api.ErrText || shown(x) != shown(api.Scope{}) {
				t.Errorf("Get of %v, %d times: %s, error %d", part, n, short(shown(x)), e)
			}
		}
	}
}

// some are scopes that may be, of all kinds.
func some() []api.Scope {
	a, long := ofCase("a"), ofSub("0123456789.-_xyz")
	return append(plain(), and(long, not(time(0, mostClock)), or(a, not(not(ofClass("b"))), all())), comb(and, mostDepth, true), comb(or, mostDepth, false), nots(7, long), or(append(times(21, all()), not(a))...), and(or(a, a), or(and(all(), all()), not(a)), not(and(or(a, long), time(1, 256), time(256, 256)))))
}

// Cut off at each place, with bytes more at the end and at each place, with one left out.
func TestGetOfOtherLengths(t *testing.T) {
	for _, x := range some() {
		b := bytesOf(x)
		for i := range b {
			none(t, b[:i]...)
			get(t, b[i+1:])
			get(t, slices.Delete(slices.Clone(b), i, i+1))
			for _, v := range []byte{0, 1, 2, 5, 6, 8, 97, 255} {
				get(t, slices.Insert(slices.Clone(b), i, v))
			}
		}
		for v := range 256 {
			none(t, append(slices.Clone(b), byte(v))...)
		}
		none(t, slices.Concat(b, b)...)
		none(t, slices.Concat(b, []byte{1, 1, 97})...)
	}
}

// The most bytes that a scope has.
func TestTheLongest(t *testing.T) {
	for op := range opTime - opCase {
		row := times(mostNodes-1, api.Scope{Op: opCase + op, Name: "0123456789.-_xyz"})
		b := bytesOf(and(row...))
		if len(b) != 440 {
			t.Fatalf("%d bytes", len(b))
		}
		may(t, and(row...), b...)
		for i := range b {
			none(t, b[:i]...)
		}
		none(t, append(b, 1)...)
	}
}

// Each byte as each other one.
func TestGetOfEachByteChanged(t *testing.T) {
	count := map[bool]int{}
	for _, x := range some() {
		b := bytesOf(x)
		for i := range b {
			for v := range 256 {
				c := slices.Clone(b)
				c[i] = byte(v)
				count[get(t, c)]++
			}
		}
	}
	if count[true] < 5000 || count[false] < 50000 {
		t.Errorf("bytes that are a scope, and not: %v", count)
	}
}

// All rows of a few bytes, up to six of them.
func TestGetOfAllShortBytes(t *testing.T) {
	letters := []byte{0, 1, 2, 3, 5, 6, 8, 97}
	count := 0
	rows := [][]byte{nil}
	for range 6 {
		var next [][]byte
		for _, row := range rows {
			for _, v := range letters {
				b := append(slices.Clone(row), v)
				next = append(next, b)
				if get(t, b) {
					count++
				}
			}
		}
		rows = next
	}
	if count < 50 {
		t.Errorf("only %d were scopes", count)
	}
}

// Rules that hold everywhere, 3 and 4.

func TestPutShareNothing(t *testing.T) {
	x := and(ofCase("ab"), not(time(5, 9)))
	want := []byte{6, 1, 2, 2, 1, 2, 97, 98, 8, 5, 1, 5, 1, 9}
	a, _ := scope.Put(x)
	b, _ := scope.Put(x)
	x.Kids[0].Name, x.Kids[1].Kids[0].To = "zz", 8
	if !bytes.Equal(a, want) {
		t.Errorf("what was put turns with what was handed in: %v", a)
	}
	a = a[:cap(a)]
	for i := range a {
		a[i] = 7
	}
	if !bytes.Equal(b, want) {
		t.Errorf("two answers of Put share their bytes: %v", b)
	}
}

// spoil makes all of x something else, with what stands behind its Kids.
func spoil(x *api.Scope) {
	kids := x.Kids[:cap(x.Kids)]
	for i := range kids {
		spoil(&kids[i])
	}
	*x = api.Scope{Op: -1, Name: "spoilt"}
}

func TestGotShareNothing(t *testing.T) {
	for _, want := range some() {
		b := bytesOf(want)
		x, _ := scope.Get(b)
		y, _ := scope.Get(b)
		for i := range b {
			b[i] = 0
		}
		if shown(x) != shown(want) {
			t.Errorf("what was got turns with what was handed in: %s, not %s", shown(x), shown(want))
		}
		spoil(&x)
		if shown(y) != shown(want) {
			t.Errorf("two answers of Get share something: %s, not %s", shown(y), shown(want))
		}
		// Nor do two lists of one answer.
		for i := range spots(&y) {
			z, _ := scope.Get(bytesOf(want))
			k := spots(&z)[i]
			ahead := shown(*k)
			for _, other := range spots(&z) {
				if len(other.Kids) > 0 && other != k && !slices.Contains(spots(other), k) && !slices.Contains(spots(k), other) {
					spoil(other)
				}
			}
			if shown(*k) != ahead {
				t.Errorf("two lists of %s share something", shown(want))
			}
		}
	}
}

// The same is answered again, whatever was asked between.
func TestAgain(t *testing.T) {
	x, y := and(ofCase("a"), not(time(5, 9))), or(times(24, all())...)
	for range 3 {
		may(t, x, bytesOf(x)...)
		mayNot(t, y)
		mayNot(t, nots(8, all()))
		none(t, bytesOf(y)...)
		none(t, 8, 8)
		getTo(t, bytesOf(x), x, api.OK)
		matchTo(t, x, rec("a", "", "", 4), true)
		matchTo(t, x, rec("a", "", "", 9), false)
		sameTo(t, x, own(x), true)
		sameTo(t, x, y, false)
		may(t, or(times(23, all())...), bytesOf(or(times(23, all())...))...)
	}
}
