package parse_test

import (
	"hanaper/api"
	"hanaper/parse"
	"math"
	"regexp"
	"slices"
	"strconv"
	"strings"
	"testing"
)

// The limits and the kinds, as the document numbers them.
const (
	mostText  = 600
	mostDays  = 1048576
	mostRules = 12
	mostNodes = 24
	mostDepth = 8

	opAfter = 1
	opOr    = 2
	opAnd   = 3

	destroy = 1
	review  = 2
	keep    = 3
)

// plenty is more fuel than any text takes.
const plenty = 10000

// Conditions and rules as they are written out by hand.

func after(days int, mile string) api.Expr {
	return api.Expr{Op: opAfter, Days: days, Mile: mile}
}

func or(kids ...api.Expr) api.Expr  { return api.Expr{Op: opOr, Kids: kids} }
func and(kids ...api.Expr) api.Expr { return api.Expr{Op: opAnd, Kids: kids} }

func of(class string, when api.Expr, act int) api.Rule {
	return api.Rule{Class: class, When: when, Act: act}
}

// shownAll is l as the tests' messages show it, and a text that only lists that are the same have.
func shownAll(l []api.Rule) string {
	b := []byte("[")
	for _, r := range l {
		b = appendShown(append(strconv.AppendQuote(b, r.Class), ' '), r.When)
		b = append(strconv.AppendInt(append(b, ' '), int64(r.Act), 10), ';')
	}
	return string(append(b, ']'))
}

func appendShown(b []byte, x api.Expr) []byte {
	b = strconv.AppendInt(append(b, '{'), int64(x.Op), 10)
	b = strconv.AppendInt(append(b, ' '), int64(x.Days), 10)
	b = strconv.AppendQuote(append(b, ' '), x.Mile)
	for _, k := range x.Kids {
		b = appendShown(append(b, ' '), k)
	}
	return append(b, '}')
}

// short is a text as the tests' messages show it: of a long one only the ends.
func short(s string) string {
	if len(s) > 160 {
		return strconv.Quote(s[:100]) + " .. " + strconv.Quote(s[len(s)-40:]) + " of " + strconv.Itoa(len(s))
	}
	return strconv.Quote(s)
}

// The tests' own reckoning: what each token is, by chapter 16.

// word is a token: what it is to a schedule (a word of one, or one of the kinds below), its bytes, how many days it tells, and where it begins.
type word struct {
	is, text string
	days, at int
}

const (
	nine   = "class default keep after or and then destroy review"
	mile   = "a milestone"
	long   = "a word that is no milestone's name"
	name   = "a name"
	span   = "a span"
	open   = "("
	closed = ")"
	ending = ";"
)

var (
	passed  = regexp.MustCompile(`^(?:[ \n\t]|#[^\n]*)*`)
	letters = regexp.MustCompile(`^[a-z][a-z0-9_-]*`)
	formed  = regexp.MustCompile(`^(?:"[a-z0-9._-]{1,16}"|[0-9]+[a-z]|[();])`)
	spanned = regexp.MustCompile(`^(0|[1-9][0-9]{0,6})([dwmy])$`)
)

// wordOf is what a token of letters is.
func wordOf(s string) string {
	switch {
	case slices.Contains(strings.Fields(nine), s):
		return s
	case len(s) > 16:
		return long
	}
	return mile
}

// daysOf is how many days s tells, and its error, as chapter 15 has it.
func daysOf(s string) (int, api.Errno) {
	parts := spanned.FindStringSubmatch(s)
	if parts == nil {
		return 0, api.ErrText
	}
	n, _ := strconv.Atoi(parts[1])
	n *= map[string]int{"d": 1, "w": 7, "m": 30, "y": 365}[parts[2]]
	if n > mostDays {
		return 0, api.ErrTime
	}
	return n, api.OK
}

// firstOf is the token that s begins with, and its error.
func firstOf(s string) (word, api.Errno) {
	if w := letters.FindString(s); w != "" {
		return word{is: wordOf(w), text: w}, api.OK
	}
	w := formed.FindString(s)
	switch {
	case w == "":
		return word{}, api.ErrText
	case w[0] == '"':
		return word{is: name, text: w}, api.OK
	case len(w) == 1:
		return word{is: w, text: w}, api.OK
	}
	n, e := daysOf(w)
	return word{is: span, text: w, days: n}, e
}

// cut is the tokens of s; or the place of the one that is wrong, and its error.
func cut(s string) ([]word, int, api.Errno) {
	if len(s) > mostText {
		return nil, 0, api.ErrLong
	}
	var l []word
	for at := 0; ; {
		at += len(passed.FindString(s[at:]))
		if at == len(s) {
			return l, at, api.OK
		}
		w, e := firstOf(s[at:])
		if e != api.OK {
			return nil, at, e
		}
		w.at = at
		l = append(l, w)
		at += len(w.text)
	}
}

// What may stand where, by what was ahead of it. Behind a token there is asked for what it leads to.
var grammar = map[string]map[string]string{
	"rule":       {"class": "class", "default": "keep"},
	"class":      {name: "keep"},
	"keep":       {"keep": "fact"},
	"fact":       {span: "after", open: "fact"},
	"after":      {"after": "milestone"},
	"milestone":  {mile: "what else"},
	"what else":  {"or": "fact", "and": "fact", "then": "act"},
	"in bracket": {"or": "fact", "and": "fact", closed: "what else"},
	"act":        {"destroy": "end", "review": "end", "keep": "end"},
	"end":        {ending: "rule"},
}

// reckoning is what a text is to be read as: where each 1 of fuel is asked for, in order, and what is answered with all of these.
type reckoning struct {
	places []int
	rules  []api.Rule
	at     int
	err    api.Errno
}

// with is what Rules is to answer with so much fuel.
func (r reckoning) with(fuel int) ([]api.Rule, int, api.Errno) {
	if fuel = max(fuel, 0); fuel < len(r.places) {
		return nil, r.places[fuel], api.ErrFuel
	}
	return r.rules, r.at, r.err
}

// reckoned is what P18.1 and P18.2 ask for of s.
func reckoned(s string) reckoning {
	l, at, e := cut(s)
	if e != api.OK {
		return reckoning{at: at, err: e}
	}
	r := gone(append(l, word{is: "the text's end", at: at}))
	if r.err != api.OK {
		return r
	}
	rules := rulesOf(l)
	if e := checked(rules); e != api.OK {
		return reckoning{places: r.places, err: e}
	}
	r.rules = rules
	return r
}

// next is what is asked for behind a token, nothing if that may not stand there; and how many brackets are open then.
func next(asked string, opens int, is string) (string, int) {
	if asked == "what else" && opens > 0 {
		asked = "in bracket"
	}
	switch is {
	case open:
		opens++
	case closed:
		opens--
	}
	return grammar[asked][is], opens
}

// gone is how tokens, the text's end behind them, are gone through.
func gone(l []word) reckoning {
	var r reckoning
	opens, asked := 0, "rule"
	for i, w := range l {
		r.at = w.at
		if asked == "rule" && i == len(l)-1 {
			return r
		}
		r.places = append(r.places, w.at)
		ahead := asked
		if asked, opens = next(asked, opens, w.is); asked == "" {
			break
		}
		if w.is == open || ahead == "keep" {
			r.at = l[i+1].at
			r.places = append(r.places, r.at)
		}
		if opens >= mostDepth {
			break
		}
	}
	r.err = api.ErrText
	return r
}

// split is what stands between the words of a kind that are in no bracket.
func split(l []word, between string) [][]word {
	opens, from := 0, 0
	var all [][]word
	for i, w := range l {
		switch w.is {
		case open:
			opens++
		case closed:
			opens--
		case between:
			if opens == 0 {
				all = append(all, l[from:i])
				from = i + 1
			}
		}
	}
	return append(all, l[from:])
}

// conditionOf is what the tokens of a condition tell: of several with or between the earliest, else of several with and between the latest, else one.
func conditionOf(l []word) api.Expr {
	for _, of := range []struct {
		op      int
		between string
	}{{opOr, "or"}, {opAnd, "and"}} {
		if parts := split(l, of.between); len(parts) > 1 {
			x := api.Expr{Op: of.op}
			for _, p := range parts {
				x.Kids = append(x.Kids, conditionOf(p))
			}
			return x
		}
	}
	if l[0].is == open {
		return conditionOf(l[1 : len(l)-1])
	}
	return after(l[0].days, l[2].text)
}

// rulesOf is what the tokens of rules tell, which are right.
func rulesOf(l []word) []api.Rule {
	var rules []api.Rule
	for _, part := range split(l, ending) {
		if len(part) == 0 { // behind the last rule
			continue
		}
		var r api.Rule
		if part[0].is == "class" {
			r.Class = strings.Trim(part[1].text, `"`)
			part = part[1:]
		}
		r.When = conditionOf(part[2 : len(part)-2])
		r.Act = 1 + slices.Index([]string{"destroy", "review", "keep"}, part[len(part)-1].is)
		rules = append(rules, r)
	}
	return rules
}

func nodesOf(x api.Expr) int {
	n := 1
	for _, k := range x.Kids {
		n += nodesOf(k)
	}
	return n
}

func depthOf(x api.Expr) int {
	n := 0
	for _, k := range x.Kids {
		n = max(n, depthOf(k))
	}
	return n + 1
}

// checked is the error of rules that were read: their parts are right, but there may be too many.
func checked(l []api.Rule) api.Errno {
	if len(l) > mostRules {
		return api.ErrMany
	}
	count := map[string]int{}
	for _, r := range l {
		if nodesOf(r.When) > mostNodes || depthOf(r.When) > mostDepth {
			return api.ErrArg
		}
		count[r.Class]++
	}
	if len(count) < len(l) {
		return api.ErrThere
	}
	return api.OK
}

// What is asked for of Rules and Cost.

// rulesTo holds Rules against what the document asks.
func rulesTo(t *testing.T, s string, fuel int, want []api.Rule, place int, err api.Errno) {
	t.Helper()
	l, at, e := parse.Rules(s, fuel)
	if shownAll(l) != shownAll(want) || at != place || e != err {
		t.Errorf("Rules(%s, %d): %s, %d, error %d, not %s, %d, error %d", short(s), fuel, shownAll(l), at, e, shownAll(want), place, err)
	}
}

// costTo holds Cost against what the document asks.
func costTo(t *testing.T, s string, want int, err api.Errno) {
	t.Helper()
	if n, e := parse.Cost(s); n != want || e != err {
		t.Errorf("Cost(%s): %d, error %d, not %d, error %d", short(s), n, e, want, err)
	}
}

// answers asks what s is read as with fuel enough, with whatever more, and what it costs.
func answers(t *testing.T, s string, want []api.Rule, place int, err api.Errno) {
	t.Helper()
	for _, fuel := range []int{plenty, plenty + 1, 1 << 32, math.MaxInt - 1, math.MaxInt} {
		rulesTo(t, s, fuel, want, place, err)
	}
	cost := 0
	if err == api.OK {
		cost = len(reckoned(s).places)
	}
	costTo(t, s, cost, err)
}

// right asks that s is read as these rules.
func right(t *testing.T, s string, want ...api.Rule) {
	t.Helper()
	answers(t, s, want, len(s), api.OK)
	eachFuel(t, s)
}

// wrong asks for an error of s, its place, and that it is the same with all fuel that is enough for it.
func wrong(t *testing.T, s string, place int, err api.Errno) {
	t.Helper()
	answers(t, s, nil, place, err)
	eachFuel(t, s)
}

// held holds s, with so much fuel, against the tests' own reckoning, and tells the error.
func held(t *testing.T, s string, fuel int) api.Errno {
	t.Helper()
	l, at, e := reckoned(s).with(fuel)
	rulesTo(t, s, fuel, l, at, e)
	return e
}

// eachFuel holds s against the tests' own reckoning with each fuel from below 0 on to more than enough, and tells the error that more does not mend.
func eachFuel(t *testing.T, s string) api.Errno {
	t.Helper()
	r := reckoned(s)
	hold := func(fuel int) {
		l, at, e := r.with(fuel)
		rulesTo(t, s, fuel, l, at, e)
	}
	for fuel := -2; fuel <= len(r.places)+3; fuel++ {
		hold(fuel)
	}
	for _, fuel := range []int{math.MinInt, math.MinInt + 1, -1 << 32, 1 << 32, math.MaxInt - 1, math.MaxInt} {
		hold(fuel)
	}
	cost := 0
	if r.err == api.OK {
		cost = len(r.places)
	}
	costTo(t, s, cost, r.err)
	return r.err
}
