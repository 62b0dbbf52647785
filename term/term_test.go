package term_test

import (
	"bytes"
	"fmt"
	"hanaper/api"
	"hanaper/term"
	"hanaper/tlv"
	"math"
	"testing"
)

// node is a term as it is written out by hand, with no call of the package.
func node(kind int, n uint64, data []byte, kids ...api.Term) api.Term {
	return api.Term{Kind: kind, N: n, Data: data, Kids: kids}
}

func name(n uint64) api.Term                       { return node(api.TmName, n, nil) }
func key(n uint64) api.Term                        { return node(api.TmKey, n, nil) }
func data(s string) api.Term                       { return node(api.TmData, 0, []byte(s)) }
func pair(a, b api.Term) api.Term                  { return node(api.TmPair, 0, nil, a, b) }
func enc(n uint64, what, sealer api.Term) api.Term { return node(api.TmEnc, n, nil, what, sealer) }
func hash(t api.Term) api.Term                     { return node(api.TmHash, 0, nil, t) }

// bare is a term of n bytes of Data.
func bare(n int) api.Term {
	b := make([]byte, n)
	for i := range b {
		b[i] = byte(i*7 + n)
	}
	return node(api.TmData, 0, b)
}

// below is t, under so many TmHash.
func below(t api.Term, depth int) api.Term {
	for range depth {
		t = hash(t)
	}
	return t
}

// shown is t as the tests' messages show it, and a text that only terms that are the same have.
func shown(t api.Term) string {
	s := fmt.Sprintf("(%d %d %x", t.Kind, t.N, t.Data)
	for _, k := range t.Kids {
		s += " " + shown(k)
	}
	return s + ")"
}

// told is bytes as the tests' messages show them: of many only the first ones.
func told(b []byte) string {
	if len(b) > 40 {
		return fmt.Sprint(b[:40], " and so on, ", len(b), " in all")
	}
	return fmt.Sprint(b)
}

// alike holds a term against the one that the document asks, field by field.
func alike(t *testing.T, what string, got, want api.Term) {
	t.Helper()
	if shown(got) != shown(want) {
		t.Errorf("%s: %s, not %s", what, shown(got), shown(want))
	}
}

// reckoned is t's bytes by P5.2, of a term that may be.
func reckoned(t api.Term) []byte {
	b := []byte{byte(t.Kind)}
	switch t.Kind {
	case api.TmName, api.TmKey, api.TmEnc:
		b = append(b, tlv.Num(t.N)...)
	case api.TmData:
		b = append(b, tlv.Text(t.Data)...)
	}
	for _, k := range t.Kids {
		b = append(b, reckoned(k)...)
	}
	return b
}

// flat is t's Parts by P5.3, of a term that may be.
func flat(t api.Term) []api.Term {
	l := []api.Term{t}
	for _, k := range t.Kids {
		l = append(l, flat(k)...)
	}
	return l
}

// numbers are numbers of all lengths.
func numbers() []uint64 {
	l := []uint64{0, 1, 7, 255, 256, 65535, 65536, math.MaxInt64, math.MaxInt64 + 1, math.MaxUint64 - 1, math.MaxUint64}
	for k := 16; k < 64; k += 8 {
		l = append(l, 1<<k-1, 1<<k)
	}
	return l
}

// simple are terms without Kids.
func simple() []api.Term {
	l := []api.Term{data(""), data("a"), data("b"), data("\x00"), data("\x00\x00"), data("ab"), data("\xff"), bare(99), bare(100)}
	for _, n := range numbers() {
		l = append(l, name(n), key(n))
	}
	return l
}

// mixed are terms of all kinds, and of kinds within kinds, each once, none above MaxTerm bytes.
func mixed() []api.Term {
	l := simple()
	few := []api.Term{name(0), name(9), key(0), key(7), data(""), data("a"), pair(name(1), name(2)), enc(3, data("a"), key(7)), hash(data("a"))}
	for _, a := range few {
		l = append(l, hash(a), hash(hash(a)), enc(0, a, key(0)), enc(5, a, key(7)), enc(math.MaxUint64, a, key(math.MaxUint64)))
		for _, b := range few {
			l = append(l, pair(a, b), pair(hash(a), enc(1, b, key(2))), hash(pair(b, hash(a))), enc(8, pair(a, b), key(9)))
		}
	}
	return append(l, below(name(4), 7), below(pair(name(1), data("x")), 6), full(2), long(400))
}

// full is a pair of pairs, so deep, of names.
func full(depth int) api.Term {
	if depth == 1 {
		return name(uint64(depth))
	}
	return pair(full(depth-1), full(depth-1))
}

// long is a term of so many bytes, from 316 to 415 of them: each Data has 3 bytes more than it holds, each pair one.
func long(n int) api.Term {
	return pair(pair(bare(100), bare(100)), pair(bare(100), bare(n-315)))
}

// sealed is a term of so many bytes, from 322 to 421 of them, that ends in a key, not in Data.
func sealed(n int) api.Term {
	return enc(1, long(n-6), key(1))
}

// wrong is a term that may not be, and why.
type wrong struct {
	why string
	t   api.Term
}

// flaws are terms that may not be, for what they are themselves.
func flaws() []wrong {
	a, k := name(1), key(2)
	l := []wrong{
		{"Data, with N", node(api.TmData, 1, []byte("a"))},
		{"Data, with the greatest N", node(api.TmData, math.MaxUint64, nil)},
		{"a pair with N", node(api.TmPair, 1, nil, a, k)},
		{"a sum with N", node(api.TmHash, 1, nil, a)},
		{"a name with Data", node(api.TmName, 1, []byte("a"))},
		{"a name of 0 with Data", node(api.TmName, 0, []byte{0})},
		{"a key with Data", node(api.TmKey, 1, []byte("a"))},
		{"a pair with Data", node(api.TmPair, 0, []byte("a"), a, k)},
		{"an Enc with Data", node(api.TmEnc, 1, []byte("a"), a, k)},
		{"a sum with Data", node(api.TmHash, 0, []byte("a"), a)},
		{"Data of 101 bytes", bare(101)},
		{"Data of 1000 bytes", bare(1000)},
	}
	for _, kind := range []int{0, 7, 8, -1, -6, 100, 255, 256, 257, 260, 1 << 32, 1<<32 + 1, math.MaxInt, math.MinInt} {
		l = append(l, wrong{fmt.Sprint("kind ", kind), node(kind, 0, nil)})
		l = append(l, wrong{fmt.Sprint("kind ", kind, " with N"), node(kind, 1, nil)})
		l = append(l, wrong{fmt.Sprint("kind ", kind, " with Data"), node(kind, 0, []byte("a"))})
		l = append(l, wrong{fmt.Sprint("kind ", kind, " with Kids"), node(kind, 0, nil, a, k)})
	}
	for kind, most := range map[int]int{api.TmName: 0, api.TmKey: 0, api.TmData: 0, api.TmPair: 2, api.TmEnc: 2, api.TmHash: 1} {
		for _, n := range []int{0, 1, 2, 3, 4, 100} {
			if n != most {
				l = append(l, wrong{fmt.Sprintf("kind %d with %d Kids", kind, n), node(kind, 0, nil, keys(n)...)})
			}
		}
	}
	for _, t := range []api.Term{a, name(0), data("a"), data(""), pair(k, k), enc(1, k, k), hash(k), {}, {Kind: 7}} {
		l = append(l, wrong{"an Enc whose key is " + shown(t), enc(1, k, t)})
	}
	return l
}

// keys are so many keys.
func keys(n int) []api.Term {
	l := make([]api.Term, n)
	for i := range l {
		l[i] = key(uint64(i))
	}
	return l
}

// wrongs are terms that may not be, for what they are themselves, or what is in them.
func wrongs() []wrong {
	l := []wrong{
		{"a name, 9 deep", below(name(1), 8)},
		{"Data, 9 deep", below(data(""), 8)},
		{"a name, 10 deep", below(name(1), 9)},
		{"pairs, 9 deep", full(9)},
		{"a pair, its first Kid 8 deep", pair(below(name(1), 8), name(1))},
		{"a pair, its second Kid 8 deep", pair(name(1), below(name(1), 8))},
		{"an Enc, what it seals 8 deep", enc(1, below(name(1), 8), key(1))},
		{"deeper than 8, on one way alone", pair(pair(name(1), name(2)), pair(name(3), pair(name(4), below(name(1), 5))))},
	}
	for _, f := range flaws() {
		l = append(l, f,
			wrong{"within a sum: " + f.why, hash(f.t)},
			wrong{"the first of a pair: " + f.why, pair(f.t, name(1))},
			wrong{"the second of a pair: " + f.why, pair(name(1), f.t)},
			wrong{"sealed: " + f.why, enc(1, f.t, key(1))},
			wrong{"the key of an Enc: " + f.why, enc(1, name(1), f.t)},
			wrong{"deep inside: " + f.why, pair(hash(name(3)), enc(2, hash(pair(data("a"), hash(pair(name(1), f.t)))), key(1)))},
			wrong{"at the 8th depth: " + f.why, below(f.t, 7)},
			wrong{"the last of many: " + f.why, pair(full(6), pair(full(5), pair(full(4), f.t)))})
	}
	return l
}

// huge are terms that may be, of more than MaxTerm bytes.
func huge() []api.Term {
	most := bare(100)
	for range 7 {
		most = pair(most, most)
	}
	return []api.Term{long(401), long(402), long(415), sealed(401), sealed(402), hash(long(400)), hash(sealed(400)), full(8), most}
}

// P5.1: what makes terms.

func TestMakers(t *testing.T) {
	for _, n := range numbers() {
		alike(t, "Name", term.Name(n), name(n))
		alike(t, "Key", term.Key(n), key(n))
	}
	for _, b := range [][]byte{nil, {}, {0}, []byte("a"), bare(100).Data, bare(101).Data, bare(5000).Data} {
		alike(t, "Data", term.Data(b), node(api.TmData, 0, b))
	}
	for _, a := range mixed() {
		alike(t, "Hash", term.Hash(a), hash(a))
		alike(t, "Pair, ahead", term.Pair(a, name(1)), pair(a, name(1)))
		alike(t, "Pair, behind", term.Pair(data("x"), a), pair(data("x"), a))
		alike(t, "Pair of one twice", term.Pair(a, a), pair(a, a))
		for _, n := range []uint64{0, 5, math.MaxUint64} {
			alike(t, "Enc", term.Enc(n, a, key(7)), enc(n, a, key(7)))
			alike(t, "Enc, as key", term.Enc(n, key(7), a), enc(n, key(7), a))
		}
	}
}

func TestMakersWithinMakers(t *testing.T) {
	got := term.Hash(term.Pair(term.Enc(5, term.Data([]byte("a")), term.Key(7)), term.Name(9)))
	alike(t, "all six", got, hash(pair(enc(5, data("a"), key(7)), name(9))))
}

// What may not be is made all the same: Check tells it.
func TestMakersOfWhatMayNotBe(t *testing.T) {
	for _, w := range wrongs() {
		alike(t, "Hash: "+w.why, term.Hash(w.t), hash(w.t))
		alike(t, "Pair: "+w.why, term.Pair(w.t, w.t), pair(w.t, w.t))
		alike(t, "Enc: "+w.why, term.Enc(3, w.t, w.t), enc(3, w.t, w.t))
		for what, made := range map[string]api.Term{
			"Hash": term.Hash(w.t), "Pair, ahead": term.Pair(w.t, name(1)), "Pair, behind": term.Pair(name(1), w.t),
			"Enc": term.Enc(1, w.t, key(1)), "Enc, as key": term.Enc(1, key(1), w.t),
		} {
			if e := term.Check(made); e != api.ErrArg {
				t.Errorf("Check of %s: %s: %d", what, w.why, e)
			}
		}
	}
}

// P5.1: Check.

func TestCheckOfWhatMayBe(t *testing.T) {
	for _, a := range append(mixed(), huge()...) {
		if e := term.Check(a); e != api.OK {
			t.Errorf("Check of %s: %d", shown(a), e)
		}
	}
}

func TestCheckOfEmptyLists(t *testing.T) {
	none, nobody := []byte{}, []api.Term{}
	for _, a := range []api.Term{
		{Kind: api.TmName, N: 1, Data: none, Kids: nobody},
		{Kind: api.TmKey, N: 1, Data: none, Kids: nobody},
		{Kind: api.TmData, Data: none, Kids: nobody},
		{Kind: api.TmPair, Data: none, Kids: []api.Term{name(1), name(2)}},
		{Kind: api.TmEnc, N: 1, Data: none, Kids: []api.Term{name(1), key(2)}},
		{Kind: api.TmHash, Data: none, Kids: []api.Term{name(1)}},
	} {
		if e := term.Check(a); e != api.OK {
			t.Errorf("Check of %s with empty lists: %d", shown(a), e)
		}
	}
}

func TestCheckOfDepth(t *testing.T) {
	for depth := 1; depth <= 20; depth++ {
		want := api.OK
		if depth > 8 {
			want = api.ErrArg
		}
		for what, a := range map[string]api.Term{
			"sums":                    below(name(1), depth-1),
			"sums of Data":            below(data("a"), depth-1),
			"a pair, deep ahead":      pairs(depth, true),
			"a pair, deep behind":     pairs(depth, false),
			"what is sealed is":       sealings(depth),
			"a sum behind a flat one": deepBehind(depth),
		} {
			if e := term.Check(a); e != want {
				t.Errorf("Check of %s, %d deep: %d", what, depth, e)
			}
		}
	}
}

// pairs is a pair so deep, on one side.
func pairs(depth int, ahead bool) api.Term {
	t := name(1)
	for range depth - 1 {
		if ahead {
			t = pair(t, name(2))
		} else {
			t = pair(name(2), t)
		}
	}
	return t
}

// sealings is a term so deep, sealed again and again.
func sealings(depth int) api.Term {
	t := name(1)
	for range depth - 1 {
		t = enc(1, t, key(1))
	}
	return t
}

// deepBehind is a term so deep, and not so in what stands first.
func deepBehind(depth int) api.Term {
	if depth == 1 {
		return key(1)
	}
	return pair(name(1), below(name(1), depth-2))
}

func TestCheckOfWhatMayNotBe(t *testing.T) {
	for _, w := range wrongs() {
		if e := term.Check(w.t); e != api.ErrArg {
			t.Errorf("Check of %s: %d", w.why, e)
		}
	}
}

// P5.2: Put.

func TestExample(t *testing.T) {
	b, e := term.Put(term.Enc(5, term.Data([]byte("a")), term.Key(7)))
	if e != api.OK || !bytes.Equal(b, []byte{5, 1, 5, 3, 1, 1, 97, 2, 1, 7}) {
		t.Errorf("Put of the example: %d, %d", b, e)
	}
}

// byHand are terms, and their bytes.
func byHand() map[string]api.Term {
	top := "\x08\xff\xff\xff\xff\xff\xff\xff\xff"
	return map[string]api.Term{
		"\x01\x00":                              name(0),
		"\x01\x01\x09":                          name(9),
		"\x01\x02\x01\x02":                      name(258),
		"\x01" + top:                            name(math.MaxUint64),
		"\x02\x00":                              key(0),
		"\x02\x01\x07":                          key(7),
		"\x02" + top:                            key(math.MaxUint64),
		"\x03\x00":                              data(""),
		"\x03\x01\x01a":                         data("a"),
		"\x03\x01\x02\x00\x00":                  data("\x00\x00"),
		"\x03\x01\x64" + string(bare(100).Data): bare(100),
		"\x04\x01\x00\x02\x00":                  pair(name(0), key(0)),
		"\x05\x00\x01\x00\x02\x00":              enc(0, name(0), key(0)),
		"\x05" + top + "\x03\x00\x02\x01\x01":   enc(math.MaxUint64, data(""), key(1)),
		"\x06\x03\x01\x01b":                     hash(data("b")),
		"\x06\x06\x06\x06\x06\x06\x06\x01\x00":  below(name(0), 7),
		"\x04\x05\x01\x05\x03\x01\x01a\x02\x01\x07\x06\x04\x01\x01\x01\x01\x01\x02": pair(enc(5, data("a"), key(7)), hash(pair(name(1), name(2)))),
	}
}

func TestPutByHand(t *testing.T) {
	for want, a := range byHand() {
		if b, e := term.Put(a); e != api.OK || string(b) != want {
			t.Errorf("Put of %s: %d, %d, not %d", shown(a), b, e, []byte(want))
		}
	}
}

func TestPutOfWhatMayBe(t *testing.T) {
	for _, a := range mixed() {
		if b, e := term.Put(a); e != api.OK || !bytes.Equal(b, reckoned(a)) {
			t.Errorf("Put of %s: %d, %d", shown(a), b, e)
		}
	}
}

func TestPutOfWhatMayNotBe(t *testing.T) {
	for _, w := range wrongs() {
		if b, e := term.Put(w.t); e != api.ErrArg || len(b) > 0 {
			t.Errorf("Put of %s: %d, %d", w.why, b, e)
		}
	}
	// ErrArg comes ahead of ErrLong.
	for _, a := range huge() {
		for _, bad := range []api.Term{pair(a, api.Term{}), pair(api.Term{Kind: 7}, a), pair(a, bare(101)), below(a, 8)} {
			if b, e := term.Put(bad); e != api.ErrArg || len(b) > 0 {
				t.Errorf("Put of a long term that may not be: %d bytes, %d", len(b), e)
			}
		}
	}
}

func TestPutOfLongTerms(t *testing.T) {
	for n := 390; n <= 408; n++ {
		for _, a := range []api.Term{long(n), sealed(n)} {
			b, e := term.Put(a)
			if n <= 400 && (e != api.OK || len(b) != n || !bytes.Equal(b, reckoned(a))) {
				t.Errorf("Put of %d bytes: %d of them, %d", n, len(b), e)
			}
			if n > 400 && (e != api.ErrLong || len(b) > 0) {
				t.Errorf("Put of %d bytes: %d of them, %d", n, len(b), e)
			}
		}
	}
	for _, a := range huge() {
		if b, e := term.Put(a); e != api.ErrLong || len(b) > 0 {
			t.Errorf("Put of a term of %d bytes: %d of them, %d", len(reckoned(a)), len(b), e)
		}
	}
}

// P5.2: Get.

// gets holds Get of b against the term that the document asks.
func gets(t *testing.T, b []byte, want api.Term, size int) {
	t.Helper()
	got, n, e := term.Get(b)
	if e != api.OK || n != size || shown(got) != shown(want) {
		t.Errorf("Get of %s: %s, %d, %d, not %s", told(b), shown(got), n, e, shown(want))
	}
}

// none asks that Get of b finds no term.
func none(t *testing.T, why string, b []byte) {
	t.Helper()
	got, n, e := term.Get(b)
	if e != api.ErrText || n != 0 || shown(got) != shown(api.Term{}) {
		t.Errorf("Get of %s, %s: %s, %d, %d", why, told(b), shown(got), n, e)
	}
}

// behind are bytes that may stand behind a term's.
func behind() [][]byte {
	return [][]byte{nil, {0}, {1}, {255}, {1, 2}, {1, 0}, {5, 1, 5, 3, 1, 1, 97, 2, 1, 7}, make([]byte, 400), make([]byte, 5000), bytes.Repeat([]byte{255}, 401)}
}

func TestGetByHand(t *testing.T) {
	for b, a := range byHand() {
		for _, more := range behind() {
			gets(t, append([]byte(b), more...), a, len(b))
		}
	}
}

func TestGetOfWhatMayBe(t *testing.T) {
	for _, a := range mixed() {
		b := reckoned(a)
		for _, more := range behind() {
			gets(t, append(bytes.Clone(b), more...), a, len(b))
		}
	}
}

func TestGetOfBytesCutOff(t *testing.T) {
	for _, a := range mixed() {
		b := reckoned(a)
		for n := range b {
			none(t, shown(a)+", cut off", b[:n])
		}
	}
}

func TestGetOfNoBytes(t *testing.T) {
	none(t, "nil", nil)
	none(t, "no byte", []byte{})
}

func TestGetOfNoKind(t *testing.T) {
	for kind := range 256 {
		if kind >= 1 && kind <= 6 {
			continue
		}
		for _, rest := range [][]byte{nil, {0}, {1, 7}, {1, 1, 97}, {1, 0, 2, 0}} {
			b := append([]byte{byte(kind)}, rest...)
			none(t, "no kind", b)
			none(t, "no kind in a sum", append([]byte{6}, b...))
			none(t, "no kind in a pair, behind", append([]byte{4, 1, 0}, b...))
			none(t, "no kind in a pair, ahead", append(append([]byte{4}, b...), 1, 0))
			none(t, "no kind, sealed", append(append([]byte{5, 0}, b...), 2, 0))
			none(t, "no kind as a key", append([]byte{5, 0, 1, 0}, b...))
		}
	}
}

func TestGetOfWrongNumbersAndTexts(t *testing.T) {
	for why, b := range map[string]string{
		"a number with a 0 ahead":            "\x01\x01\x00",
		"a number with a 0 ahead, of two":    "\x01\x02\x00\x07",
		"a number of nine bytes":             "\x01\x09\x01\x01\x01\x01\x01\x01\x01\x01\x01",
		"a number of 255 bytes":              "\x01\xff\x01\x01\x01\x01\x01\x01\x01\x01\x01",
		"a key's number with a 0 ahead":      "\x02\x01\x00",
		"a key's number of nine bytes":       "\x02\x09\x01\x01\x01\x01\x01\x01\x01\x01\x01",
		"a nonce with a 0 ahead":             "\x05\x01\x00\x01\x00\x02\x00",
		"a nonce of nine bytes":              "\x05\x09\x01\x01\x01\x01\x01\x01\x01\x01\x01\x01\x00\x02\x00",
		"a text whose length has a 0 ahead":  "\x03\x02\x00\x01a",
		"a text whose length is 0, in two":   "\x03\x01\x00",
		"a text whose length has nine bytes": "\x03\x09\x01\x01\x01\x01\x01\x01\x01\x01\x01",
		"a text of 2^64 - 1 bytes":           "\x03\x08\xff\xff\xff\xff\xff\xff\xff\xff",
		"a text of 2^63 bytes":               "\x03\x08\x80\x00\x00\x00\x00\x00\x00\x00",
		"a text of 101 bytes":                "\x03\x01\x65" + string(bare(101).Data),
		"a text of 256 bytes":                "\x03\x02\x01\x00" + string(bare(256).Data),
	} {
		none(t, why, []byte(b))
		none(t, why+", bytes behind", append([]byte(b), make([]byte, 300)...))
		none(t, "within a sum: "+why, []byte("\x06"+b))
		none(t, "ahead in a pair: "+why, []byte("\x04"+b+"\x01\x00"))
		none(t, "behind in a pair: "+why, []byte("\x04\x01\x00"+b))
		none(t, "sealed: "+why, []byte("\x05\x01\x01"+b+"\x02\x00"))
	}
}

func TestGetOfWhatMayNotBe(t *testing.T) {
	for why, a := range map[string]api.Term{
		"9 deep":            below(name(1), 8),
		"10 deep":           below(name(1), 9),
		"9 deep, ahead":     pairs(9, true),
		"9 deep, behind":    pairs(9, false),
		"9 deep, sealed":    sealings(9),
		"350 deep":          below(name(1), 350),
		"Data of 101 bytes": bare(101),
		"a name as key":     enc(1, key(1), name(1)),
		"Data as key":       enc(1, key(1), data("a")),
		"a pair as key":     enc(1, key(1), pair(key(1), key(1))),
		"an Enc as key":     enc(1, key(1), enc(1, key(1), key(1))),
		"a sum as key":      enc(1, key(1), hash(key(1))),
		"deep inside":       pair(hash(enc(2, enc(1, key(1), name(1)), key(1))), name(1)),
	} {
		b := reckoned(a)
		none(t, why, b)
		none(t, why+", bytes behind", append(b, make([]byte, 50)...))
	}
	for _, kind := range []byte{4, 5, 6} {
		none(t, "one kind alone, again and again", bytes.Repeat([]byte{kind}, 5000))
	}
}

func TestGetOfLongTerms(t *testing.T) {
	for n := 390; n <= 408; n++ {
		for _, a := range []api.Term{long(n), sealed(n)} {
			b := reckoned(a)
			for _, more := range behind() {
				if all := append(bytes.Clone(b), more...); n <= 400 {
					gets(t, all, a, n)
				} else {
					none(t, fmt.Sprint("a term of ", n, " bytes"), all)
				}
			}
		}
	}
	for _, a := range huge() {
		none(t, "a long term", reckoned(a))
		none(t, "a long term, bytes behind", append(reckoned(a), 1, 2, 3))
	}
}

// P5.3: Same.

// differ are terms no two of which are the same, some of them for one byte, one number or one kid.
func differ() []api.Term {
	l := append(mixed(), huge()...)
	l = append(l,
		pair(name(1), pair(name(2), name(3))), pair(pair(name(1), name(2)), name(3)),
		enc(3, data("a"), key(8)), enc(4, data("a"), key(7)), enc(3, data("b"), key(7)), enc(3, data(""), key(7)),
		hash(pair(name(1), name(2))), hash(pair(name(2), name(1))),
		pair(key(1), name(2)), pair(name(2), name(2)), pair(name(2), name(1)),
		below(name(4), 5), below(name(5), 7), below(name(4), 8),
		node(0, 0, nil), node(7, 0, nil), node(-1, 0, nil), node(0, 1, nil), node(0, 0, []byte("a")),
		node(api.TmName, 1, []byte("a")), node(api.TmName, 1, []byte("b")), node(api.TmName, 1, nil, name(1)),
		node(api.TmPair, 0, nil), node(api.TmPair, 0, nil, name(1)), node(api.TmPair, 0, nil, name(1), name(2), name(3)),
		node(api.TmPair, 1, nil, name(1), name(2)), node(api.TmPair, 0, []byte("a"), name(1), name(2)),
		bare(101), bare(102))
	for _, at := range []int{0, 1, 50, 98, 99} {
		other := bare(100)
		other.Data[at] ^= 1
		l = append(l, other, hash(other))
	}
	var once []api.Term
	seen := map[string]int{}
	for _, a := range l {
		if seen[shown(a)]++; seen[shown(a)] == 1 {
			once = append(once, a)
		}
	}
	return once
}

func TestSame(t *testing.T) {
	l := differ()
	for i, a := range l {
		for k, b := range l {
			if got := term.Same(a, b); got != (i == k) {
				t.Errorf("Same of %s and %s: %t", shown(a), shown(b), got)
			}
		}
		if again := deepCopy(a); !term.Same(a, again) || !term.Same(again, a) {
			t.Errorf("Same of %s and its copy: false", shown(a))
		}
	}
}

// deepCopy is a in memory of its own.
func deepCopy(a api.Term) api.Term {
	c := api.Term{Kind: a.Kind, N: a.N, Data: bytes.Clone(a.Data)}
	for _, k := range a.Kids {
		c.Kids = append(c.Kids, deepCopy(k))
	}
	return c
}

func TestSameOfEmptyLists(t *testing.T) {
	for _, kind := range []int{0, 1, 2, 3, 4, 5, 6, 7} {
		a := api.Term{Kind: kind}
		b := api.Term{Kind: kind, Data: []byte{}, Kids: []api.Term{}}
		if !term.Same(a, b) || !term.Same(b, a) || !term.Same(hash(a), hash(b)) {
			t.Errorf("Same of nil and empty lists, kind %d: false", kind)
		}
	}
}

func TestSameOfWhatMayNotBe(t *testing.T) {
	for _, w := range wrongs() {
		if !term.Same(w.t, deepCopy(w.t)) {
			t.Errorf("Same of %s and its copy: false", w.why)
		}
		for _, a := range []api.Term{{}, name(1), hash(w.t), pair(w.t, w.t)} {
			if shown(a) != shown(w.t) && (term.Same(w.t, a) || term.Same(a, w.t)) {
				t.Errorf("Same of %s and %s: true", w.why, shown(a))
			}
		}
	}
}

// P5.3: Parts.

// lists holds a list of terms against the one that the document asks.
func lists(t *testing.T, what string, got, want []api.Term) {
	t.Helper()
	if len(got) != len(want) {
		t.Errorf("%s: %d terms, not %d", what, len(got), len(want))
		return
	}
	for i := range want {
		alike(t, fmt.Sprint(what, ", ", i), got[i], want[i])
	}
}

func TestPartsByHand(t *testing.T) {
	a, k, n := data("a"), key(7), name(9)
	lists(t, "a name", term.Parts(n), []api.Term{n})
	lists(t, "Data", term.Parts(data("")), []api.Term{data("")})
	lists(t, "a pair", term.Parts(pair(n, a)), []api.Term{pair(n, a), n, a})
	lists(t, "a pair of one twice", term.Parts(pair(a, a)), []api.Term{pair(a, a), a, a})
	lists(t, "an Enc", term.Parts(enc(5, a, k)), []api.Term{enc(5, a, k), a, k})
	lists(t, "a sum", term.Parts(hash(a)), []api.Term{hash(a), a})
	lists(t, "an Enc of a pair", term.Parts(enc(5, pair(n, a), k)), []api.Term{enc(5, pair(n, a), k), pair(n, a), n, a, k})
	lists(t, "a pair of two deep ones", term.Parts(pair(hash(pair(a, n)), hash(k))),
		[]api.Term{pair(hash(pair(a, n)), hash(k)), hash(pair(a, n)), pair(a, n), a, n, hash(k), k})
}

func TestPartsOfWhatMayBe(t *testing.T) {
	for _, a := range append(mixed(), huge()...) {
		lists(t, "Parts of "+shown(a), term.Parts(a), flat(a))
	}
	if n := len(term.Parts(full(8))); n != 255 {
		t.Errorf("Parts of the fullest term: %d", n)
	}
}

func TestPartsOfWhatMayNotBe(t *testing.T) {
	for _, w := range wrongs() {
		if l := term.Parts(w.t); len(l) > 0 {
			t.Errorf("Parts of %s: %d", w.why, len(l))
		}
	}
}

// P5.4.

func TestThereAndBack(t *testing.T) {
	for _, a := range mixed() {
		b, e := term.Put(a)
		if e != api.OK {
			t.Errorf("Put of %s: %d", shown(a), e)
			continue
		}
		for _, more := range behind() {
			got, n, e := term.Get(append(bytes.Clone(b), more...))
			if e != api.OK || n != len(b) || !term.Same(got, a) {
				t.Errorf("Get of what was put of %s: %s, %d, %d", shown(a), shown(got), n, e)
			}
		}
	}
}

// noOther asks that b's term, if it has one, has no other bytes than those at b's beginning.
func noOther(t *testing.T, b []byte) {
	t.Helper()
	got, n, e := term.Get(b)
	if e != api.OK {
		return
	}
	if again, e := term.Put(got); e != api.OK || !bytes.Equal(again, b[:n]) {
		t.Errorf("%d and %d are both %s", b[:n], again, shown(got))
	}
}

func TestNoOtherBytes(t *testing.T) {
	for i := range 1 << 16 {
		b := []byte{byte(i >> 8), byte(i)}
		noOther(t, b)
		noOther(t, append([]byte{6}, b...))
		noOther(t, append(b, 1, 2, 0, 1, 3))
		noOther(t, append([]byte{5, 0, 3}, append(b, 2, 0)...))
		noOther(t, append([]byte{4, 1}, append(b, 1, 7, 9)...))
	}
}

func TestNoOtherBytesAboutTerms(t *testing.T) {
	for _, a := range mixed() {
		b := reckoned(a)
		if len(b) > 60 {
			continue
		}
		for at := range b {
			for x := range 256 {
				other := bytes.Clone(b)
				other[at] = byte(x)
				noOther(t, other)
				noOther(t, append(bytes.Clone(b[:at]), append([]byte{byte(x)}, b[at:]...)...))
			}
			noOther(t, append(bytes.Clone(b[:at]), b[at+1:]...))
		}
	}
}

func TestNoBytesBeginWithOthers(t *testing.T) {
	var all [][]byte
	for _, a := range differ() {
		if b, e := term.Put(a); e == api.OK {
			all = append(all, b)
		}
	}
	for i, a := range all {
		for k, b := range all {
			if i != k && bytes.HasPrefix(b, a) {
				t.Errorf("%d begins with %d", b, a)
			}
		}
	}
}

// Rules that hold everywhere, 3: nothing is kept, changed or shared.

// spoil writes over all that t has in memory, also behind its lists' ends.
func spoil(t *api.Term) {
	d := t.Data[:cap(t.Data)]
	for i := range d {
		d[i] ^= 255
	}
	kids := t.Kids[:cap(t.Kids)]
	for i := range kids {
		spoil(&kids[i])
		kids[i] = api.Term{Kind: 77, N: 77}
	}
}

func TestMakersShareNothing(t *testing.T) {
	b := []byte("abc")
	d := term.Data(b)
	b[1] = 'x'
	alike(t, "Data, its bytes changed", d, data("abc"))
	spoil(&d)
	if string(b) != "axc" {
		t.Errorf("bytes that were handed in: %s", b)
	}
	inner := func() api.Term { return pair(hash(data("abc")), enc(1, bare(101), data("key"))) }
	for what, f := range map[string]func(a api.Term) api.Term{
		"Hash":        term.Hash,
		"Pair, ahead": func(a api.Term) api.Term { return term.Pair(a, name(1)) },
		"Pair, twice": func(a api.Term) api.Term { return term.Pair(a, a) },
		"Enc":         func(a api.Term) api.Term { return term.Enc(1, a, key(1)) },
		"Enc, as key": func(a api.Term) api.Term { return term.Enc(1, name(1), a) },
	} {
		a := inner()
		made := f(a)
		spoil(&a)
		alike(t, what+", its argument changed", made, f(inner()))
		a = inner()
		made = f(a)
		spoil(&made)
		alike(t, what+", its answer changed", a, inner())
	}
	twice := term.Pair(inner(), inner())
	spoil(&twice.Kids[0])
	alike(t, "Pair, its first Kid changed", twice.Kids[1], inner())
	a := inner()
	twice = term.Pair(a, a)
	spoil(&twice.Kids[0])
	alike(t, "Pair of one twice, its first Kid changed", twice.Kids[1], inner())
}

func TestPutSharesNothing(t *testing.T) {
	for _, a := range mixed() {
		before := shown(a)
		b, _ := term.Put(a)
		want := bytes.Clone(b)
		all := b[:cap(b)]
		for i := range all {
			all[i] ^= 255
		}
		if shown(a) != before {
			t.Errorf("Put, its answer changed: %s is %s", before, shown(a))
		}
		if again, _ := term.Put(a); !bytes.Equal(again, want) {
			t.Errorf("Put of %s once more: %d", before, again)
		}
		b = bytes.Clone(want)
		c := deepCopy(a)
		got, _ := term.Put(c)
		spoil(&c)
		if !bytes.Equal(got, b) {
			t.Errorf("Put of %s, its argument changed: %d", before, got)
		}
	}
}

func TestGetSharesNothing(t *testing.T) {
	for _, a := range mixed() {
		b := reckoned(a)
		want := bytes.Clone(b)
		got, _, _ := term.Get(b)
		if !bytes.Equal(b, want) {
			t.Errorf("Get changed %d", want)
		}
		for i := range b {
			b[i] ^= 255
		}
		alike(t, "Get, its bytes changed", got, a)
		b = bytes.Clone(want)
		got, _, _ = term.Get(b)
		spoil(&got)
		if !bytes.Equal(b, want) {
			t.Errorf("Get, its answer changed: %d is %d", want, b)
		}
	}
}

func TestPartsShareNothing(t *testing.T) {
	whole := func() api.Term { return pair(hash(pair(data("abc"), data("d"))), enc(1, hash(data("e")), key(2))) }
	want := flat(whole())
	for at := range want {
		a := whole()
		l := term.Parts(a)
		if len(l) != len(want) {
			t.Fatalf("Parts: %d", len(l))
		}
		spoil(&l[at])
		alike(t, "Parts, the answer changed", a, whole())
		for i := range want {
			if i != at {
				alike(t, fmt.Sprint("part ", i, ", part ", at, " changed"), l[i], want[i])
			}
		}
	}
	a := whole()
	l := term.Parts(a)
	spoil(&a)
	lists(t, "Parts, the argument changed", l, want)
}

func TestSameAndCheckChangeNothing(t *testing.T) {
	for _, a := range differ() {
		before, b := shown(a), deepCopy(a)
		term.Check(a)
		term.Same(a, b)
		term.Parts(a)
		if shown(a) != before || shown(b) != before {
			t.Errorf("%s is another one", before)
		}
	}
}

// Rules that hold everywhere, 1: every call ends, and none panics.

func TestDeepAndWideTerms(t *testing.T) {
	deep, same, other := below(name(1), 1<<16-1), below(name(1), 1<<16-1), below(name(2), 1<<16-1)
	wide := node(api.TmPair, 0, nil, keys(1<<16)...)
	shared := name(1)
	for range 20 { // 2^20 parts in all, in little memory
		shared = pair(shared, shared)
	}
	for what, a := range map[string]api.Term{"deep": deep, "wide": wide, "shared": shared} {
		if e := term.Check(a); e != api.ErrArg {
			t.Errorf("Check of a %s term: %d", what, e)
		}
		if b, e := term.Put(a); e != api.ErrArg || len(b) > 0 {
			t.Errorf("Put of a %s term: %d bytes, %d", what, len(b), e)
		}
		if l := term.Parts(a); len(l) > 0 {
			t.Errorf("Parts of a %s term: %d", what, len(l))
		}
		if !term.Same(term.Hash(a), hash(a)) || !term.Same(term.Pair(name(1), a), pair(name(1), a)) || term.Same(a, name(1)) {
			t.Errorf("Same of a %s term", what)
		}
	}
	if !term.Same(deep, same) || term.Same(deep, other) {
		t.Error("Same of deep terms")
	}
}
