package lex_test

import (
	"hanaper/api"
	"hanaper/lex"
	"math/rand"
	"regexp"
	"slices"
	"strconv"
	"strings"
	"testing"
)

const (
	mostText = 600
	mostName = 16
	mostDays = 1048576
)

// The kinds, as the document numbers them.
const (
	word   = 1
	quoted = 2
	days   = 3
	open   = 4
	closed = 5
	end    = 6
)

var (
	passed  = regexp.MustCompile(`^(?:[ \n\t]|#[^\n]*)*`)
	formed  = regexp.MustCompile(`^(?:([a-z][a-z0-9_-]*)|"([a-z0-9._-]{1,16})"|([0-9]+[a-z])|(\()|(\))|(;))`)
	spanned = regexp.MustCompile(`^(0|[1-9][0-9]{0,6})([dwmy])$`)
)

// spanOf is how many days s tells, and its error, as chapter 15 has it.
func spanOf(s string) (int, api.Errno) {
	parts := spanned.FindStringSubmatch(s)
	if parts == nil {
		return 0, api.ErrText
	}
	n, _ := strconv.Atoi(parts[1])
	n *= map[string]int{"d": 1, "w": 7, "m": 30, "y": 365}[parts[2]]
	if n > mostDays {
		return 0, api.ErrTime
	}
	return n, api.OK
}

// firstOf is the token that s begins with, how many bytes it has, and the error.
func firstOf(s string) (lex.Token, int, api.Errno) {
	parts := formed.FindStringSubmatch(s)
	if parts == nil {
		return lex.Token{}, 0, api.ErrText
	}
	kind := 1 + slices.IndexFunc(parts[1:], func(p string) bool { return p != "" })
	t := lex.Token{Kind: kind, Text: parts[kind]}
	if kind != days {
		return t, len(parts[0]), api.OK
	}
	n, e := spanOf(t.Text)
	t.N = n
	return t, len(parts[0]), e
}

// reckoned is what P16.1 asks for of s.
func reckoned(s string) ([]lex.Token, int, api.Errno) {
	if len(s) > mostText {
		return nil, 0, api.ErrLong
	}
	var l []lex.Token
	for at := 0; ; {
		at += len(passed.FindString(s[at:]))
		if at == len(s) {
			return l, at, api.OK
		}
		t, n, e := firstOf(s[at:])
		if e != api.OK {
			return nil, at, e
		}
		t.At = at
		l = append(l, t)
		at += n
	}
}

// short is a text as the tests' messages show it: of a long one only the ends.
func short(s string) string {
	if len(s) > 80 {
		return strconv.Quote(s[:40]) + " .. " + strconv.Quote(s[len(s)-30:]) + " of " + strconv.Itoa(len(s))
	}
	return strconv.Quote(s)
}

// allTo holds All against what the document asks, and what P16.2 says of it.
func allTo(t *testing.T, s string, want []lex.Token, place int, err api.Errno) {
	t.Helper()
	l, at, e := lex.All(s)
	if !slices.Equal(l, want) || at != place || e != err {
		t.Errorf("All(%s): %v, %d, error %d, not %v, %d, error %d", short(s), l, at, e, want, place, err)
	}
	if e == api.OK && !apart(s, l) {
		t.Errorf("All(%s): what is not a token of %v is neither blank nor a remark, or they don't stand in order", short(s), l)
	}
}

// right asks that s has these tokens.
func right(t *testing.T, s string, want ...lex.Token) {
	t.Helper()
	allTo(t, s, want, len(s), api.OK)
}

// wrong asks that the first wrong token of s is at a place.
func wrong(t *testing.T, s string, place int, err api.Errno) {
	t.Helper()
	allTo(t, s, nil, place, err)
}

// all holds All against the tests' own reckoning, and tells the error.
func all(t *testing.T, s string) api.Errno {
	t.Helper()
	l, at, e := reckoned(s)
	allTo(t, s, l, at, e)
	return e
}

// apart is whether tokens stand in s in order, not in one another, with nothing but blanks and remarks between them, ahead of them and behind them.
func apart(s string, l []lex.Token) bool {
	from := 0
	for i := 0; i <= len(l); i++ {
		to, text := len(s), ""
		if i < len(l) {
			to, text = l[i].At, l[i].Text
			if l[i].Kind == quoted {
				text = `"` + text + `"`
			}
		}
		if to < from || to > len(s) || !nothing(s[from:to], i == len(l)) || !strings.HasPrefix(s[to:], text) {
			return false
		}
		if text == "" && i < len(l) {
			return false
		}
		from = to + len(text)
	}
	return true
}

// nothing is whether gap is blanks and whole remarks, at the end of a text also one that no line feed ends.
func nothing(gap string, last bool) bool {
	remark := false
	for _, c := range []byte(gap) {
		switch {
		case c == 10:
			remark = false
		case remark, c == 32, c == 9:
		case c == '#':
			remark = true
		default:
			return false
		}
	}
	return last || !remark
}

// Against the tests' own reckoning.

// All texts of up to four bytes, out of few.
func TestAllShortTexts(t *testing.T) {
	const signs = "az09dy\"# \n\t();-_.$"
	var count [2]int
	var hold func(s string)
	hold = func(s string) {
		count[min(int(all(t, s)), 1)]++
		for i := 0; i < len(signs) && len(s) < 4; i++ {
			hold(s + signs[i:i+1])
		}
	}
	hold("")
	if count[0] < 20000 || count[1] < 40000 {
		t.Errorf("right texts, and wrong ones: %v", count)
	}
}

// All texts of three bytes of which one is any byte.
func TestEachByteBetween(t *testing.T) {
	const signs = "b7y\"# \n();-"
	for c := range 256 {
		for _, a := range signs {
			for _, b := range signs {
				all(t, string(a)+string([]byte{byte(c)})+string(b))
				all(t, `"`+string(a)+string([]byte{byte(c)})+string(b)+`"`)
				all(t, string(a)+string(b)+string([]byte{byte(c)}))
				all(t, string([]byte{byte(c)})+string(a)+string(b))
			}
		}
	}
}

// thrownOut is a text of n bytes, out of some, with others here and there.
func thrownOut(d *rand.Rand, n int, signs string, others int) string {
	b := make([]byte, n)
	for i := range b {
		b[i] = signs[d.Intn(len(signs))]
		if others > 0 && d.Intn(others) == 0 {
			b[i] = byte(d.Intn(256))
		}
	}
	return string(b)
}

func TestThrownBytes(t *testing.T) {
	d := rand.New(rand.NewSource(161))
	var count [2]int
	for _, signs := range []string{"ab19dy\"# \n();", "abcxyz0123456789dwmy-_.\"# \n\t();", "a1d \n", "\"a.\"b ", "#\n a", "0123456789dwmy ", "(); #\n", "az-_09 ;$\r\x00\x80\xff"} {
		for i := range 20000 {
			n := d.Intn(24)
			if i%20 == 0 {
				n = d.Intn(mostText + 8)
			}
			count[min(int(all(t, thrownOut(d, n, signs, 60*(i%2)))), 1)]++
		}
	}
	if count[0] < 20000 || count[1] < 20000 {
		t.Errorf("right texts, and wrong ones: %v", count)
	}
}

// What is thrown out of right tokens and gaps.

// thrownToken is a token, and its bytes.
func thrownToken(d *rand.Rand) (lex.Token, string) {
	const letters = "abcdefghijklmnopqrstuvwxyz"
	switch kind := 1 + d.Intn(6); kind {
	case word:
		s := thrownOut(d, 1, letters, 0) + thrownOut(d, d.Intn(1+d.Intn(24)), letters+"0123456789-_", 0)
		return lex.Token{Kind: word, Text: s}, s
	case quoted:
		s := thrownOut(d, 1+d.Intn(mostName), letters+"0123456789.-_", 0)
		return lex.Token{Kind: quoted, Text: s}, `"` + s + `"`
	case days:
		unit := d.Intn(4)
		each := []int{1, 7, 30, 365}[unit]
		n := d.Intn(mostDays/each+1) >> d.Intn(20)
		s := strconv.Itoa(n) + "dwmy"[unit:unit+1]
		return lex.Token{Kind: days, Text: s, N: n * each}, s
	default:
		s := "();"[kind-open : kind-open+1]
		return lex.Token{Kind: kind, Text: s}, s
	}
}

// thrownGap is a gap, which has some bytes at least if it must.
func thrownGap(d *rand.Rand, must bool) string {
	s := ""
	for must && s == "" || d.Intn(3) == 0 {
		switch d.Intn(4) {
		case 0:
			s += "#" + strings.ReplaceAll(thrownOut(d, d.Intn(12), "a1\"#( ;$\t", 4), "\n", "") + "\n"
		default:
			s += thrownOut(d, 1+d.Intn(3), " \n\t", 0)
		}
	}
	return s
}

// thrownRight is a text of at most so many bytes, and its tokens.
func thrownRight(d *rand.Rand, most int) (string, []lex.Token) {
	var l []lex.Token
	s := ""
	for range d.Intn(1 + d.Intn(60)) {
		k, text := thrownToken(d)
		must := len(l) > 0 && l[len(l)-1].Kind == word && (k.Kind == word || k.Kind == days) // they would be one word
		gap := thrownGap(d, must)
		if len(s)+len(gap)+len(text) > most {
			break
		}
		k.At = len(s) + len(gap)
		l = append(l, k)
		s += gap + text
	}
	if gap := thrownGap(d, false); len(s)+len(gap) <= most {
		s += gap
	}
	if d.Intn(4) == 0 && len(s) < most {
		s += ("#" + thrownOut(d, 20, "a1\"#( ;$\t", 0))[:1+d.Intn(min(20, most-len(s)))]
	}
	return s, l
}

// P16.1 and P16.2: right texts.
func TestThrownRightTexts(t *testing.T) {
	d := rand.New(rand.NewSource(162))
	var kinds [7]int
	for range 20000 {
		s, l := thrownRight(d, mostText)
		right(t, s, l...)
		all(t, s)
		for _, k := range l {
			kinds[k.Kind]++
		}
	}
	for kind := word; kind <= end; kind++ {
		if kinds[kind] < 5000 {
			t.Errorf("%d of the kind %d were thrown", kinds[kind], kind)
		}
	}
}

// Right texts with one byte another one, put in, or taken out; all their beginnings, and all their ends.
func TestThrownTextsChanged(t *testing.T) {
	d := rand.New(rand.NewSource(163))
	for range 3000 {
		s, _ := thrownRight(d, 200)
		for range 20 {
			i, c := d.Intn(len(s)+1), string([]byte{byte(d.Intn(256))})
			all(t, s[:i]+c+s[i:])
			all(t, s[:i])
			all(t, s[i:])
			if i < len(s) {
				all(t, s[:i]+c+s[i+1:])
				all(t, s[:i]+s[i+1:])
			}
		}
	}
}

// P16.2: two right texts, a line feed between, have the tokens of both.

// joined holds two right texts against what they are together.
func joined(t *testing.T, a, b string) {
	t.Helper()
	l, _, e := lex.All(a)
	more, _, f := lex.All(b)
	if e != api.OK || f != api.OK {
		t.Errorf("%s, error %d, and %s, error %d, are to be right", short(a), e, short(b), f)
	}
	for _, k := range more {
		k.At += len(a) + 1
		l = append(l, k)
	}
	right(t, a+"\n"+b, l...)
}

func TestTwoTexts(t *testing.T) {
	texts := []string{"", " ", "\n", "\t", "#", "# a", "#\n", "a", "a ", " a", "a#b", "\"a\"", "2y", "(", ")", ";", "a;", "class \"hr\" keep 2y", "a # ;\n b # \"", "1d2w3m4y"}
	for _, a := range texts {
		for _, b := range texts {
			joined(t, a, b)
		}
	}
	d := rand.New(rand.NewSource(164))
	for range 10000 {
		a, _ := thrownRight(d, mostText/2)
		b, _ := thrownRight(d, mostText/2-1)
		joined(t, a, b)
	}
}

// A wrong text behind a right one is wrong at its own place.
func TestWrongTextBehind(t *testing.T) {
	d := rand.New(rand.NewSource(165))
	for range 10000 {
		a, _ := thrownRight(d, mostText/2)
		b := thrownOut(d, d.Intn(40), "ab19dy\"# \n();.", 30)
		_, at, e := reckoned(b)
		if e != api.OK {
			wrong(t, a+"\n"+b, len(a)+1+at, e)
		}
	}
}
