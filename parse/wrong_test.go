package parse_test

import (
	"hanaper/api"
	"hanaper/parse"
	"math"
	"strings"
	"testing"
)

// P18.2: lex.All's errors, with little and with much fuel.

func TestErrorsOfTokens(t *testing.T) {
	const good = "default keep 1d after a then keep;"
	for _, x := range []struct {
		s     string
		place int
		err   api.Errno
	}{
		{"$", 0, api.ErrText},
		{"A", 0, api.ErrText},
		{"7", 0, api.ErrText},
		{" \xff", 1, api.ErrText},
		{`class "hr`, 6, api.ErrText},
		{`class "HR" keep`, 6, api.ErrText},
		{`class "" keep`, 6, api.ErrText},
		{`class "seventeen.letters" keep`, 6, api.ErrText},
		{"default keep 1", 13, api.ErrText},
		{"default keep 01d", 13, api.ErrText},
		{"default keep 1h after a then keep;", 13, api.ErrText},
		{"default keep 12345678d after a then keep;", 13, api.ErrText},
		{"default keep 1048577d after a then keep;", 13, api.ErrTime},
		{"default keep 149797w after a then keep;", 13, api.ErrTime},
		{"default keep 34953m after a then keep;", 13, api.ErrTime},
		{"default keep 2873y after a then keep;", 13, api.ErrTime},
		{"default keep 1d after a or 9999999y", 27, api.ErrTime},
		// Ahead of what is no rule, of what is none of a condition, and of what rules may not be.
		{"then then $", 10, api.ErrText},
		{"keep 2873y", 5, api.ErrTime},
		{good + ".", 34, api.ErrText},
		{good + " " + good + "\n2873y", 70, api.ErrTime},
		{"default keep (((((((((1d after a)))))))))!", 41, api.ErrText},
		{many(13) + "=", 442, api.ErrText},
	} {
		wrong(t, x.s, x.place, x.err)
		for _, fuel := range []int{math.MinInt, -1, 0, 1, 2, 3, 100, math.MaxInt} {
			rulesTo(t, x.s, fuel, nil, x.place, x.err)
		}
	}
}

// Texts that are too long, whatever is in them.
func TestLongTexts(t *testing.T) {
	const good = "default keep 1d after a then keep;"
	for n := mostText - 3; n <= mostText+3; n++ {
		for _, s := range []string{good + strings.Repeat(" ", n-len(good)), "#" + strings.Repeat("a", n-len(good)-2) + "\n" + good} {
			if n <= mostText {
				right(t, s, of("", after(1, "a"), keep))
			} else {
				wrong(t, s, 0, api.ErrLong)
			}
		}
	}
	for _, s := range []string{strings.Repeat("$", mostText+1), strings.Repeat("(", mostText+1), strings.Repeat(" ", 1<<16), strings.Repeat(good, 18), strings.Repeat("a", 1<<20)} {
		wrong(t, s, 0, api.ErrLong)
		rulesTo(t, s, 0, nil, 0, api.ErrLong)
		rulesTo(t, s, math.MinInt, nil, 0, api.ErrLong)
	}
	wrong(t, strings.Repeat("$", mostText), 0, api.ErrText)
	wrong(t, strings.Repeat("(", mostText), 0, api.ErrText)
	wrong(t, "default keep "+strings.Repeat("(", mostText-13), 21, api.ErrText)
}

// P18.2: what may not stand where it stands.

// others are a token of each kind, and of each word.
func others() []string {
	return append(strings.Fields(nine), "closed", "x", "seventeen-letters", `"hr"`, `"class"`, `"then"`, "1d", "0y", "(", ")", ";")
}

// Each token behind each beginning, by hand: what may be there is followed by the text's end, which may not.
func TestEachTokenBehindBeginnings(t *testing.T) {
	const (
		fact   = "1d 0y ("
		miles  = "closed x"
		names  = `"hr" "class" "then"`
		behind = "or and then"
		within = "or and )"
		acts   = "destroy review keep"
	)
	for _, x := range []struct{ beginning, may string }{
		{"", "class default"},
		{"class", names},
		{`class "hr"`, "keep"},
		{"default", "keep"},
		{"default keep", fact},
		{`class "hr" keep`, fact},
		{"default keep 2y", "after"},
		{"default keep 2y after", miles},
		{"default keep 2y after a", behind},
		{"default keep 2y after a or", fact},
		{"default keep 2y after a and", fact},
		{"default keep 2y after a or 2y", "after"},
		{"default keep 2y after a and 2y", "after"},
		{"default keep 2y after a or 2y after", miles},
		{"default keep 2y after a and 2y after", miles},
		{"default keep 2y after a or 2y after b", behind},
		{"default keep 2y after a and 2y after b", behind},
		{"default keep 2y after a and 2y after b or 2y after c", behind},
		{"default keep 2y after a or 2y after b and 2y after c", behind},
		{"default keep (", fact},
		{"default keep (2y", "after"},
		{"default keep (2y after", miles},
		{"default keep (2y after a", within},
		{"default keep (2y after a or", fact},
		{"default keep (2y after a and", fact},
		{"default keep (2y after a or 2y after b", within},
		{"default keep (2y after a and 2y after b", within},
		{"default keep (2y after a)", behind},
		{"default keep (2y after a or 2y after b) and", fact},
		{"default keep 2y after a or (2y after b)", behind},
		{"default keep 2y after a and (", fact},
		{"default keep ((", fact},
		{"default keep ((2y after a", within},
		{"default keep ((2y after a)", within},
		{"default keep ((2y after a))", behind},
		{"default keep ((2y after a) or (2y after b", within},
		{"default keep (((2y after a) or 2y after b)", within},
		{"default keep 2y after a then", acts},
		{`class "hr" keep (2y after a) then`, acts},
		{"default keep 2y after a then destroy", ";"},
		{"default keep 2y after a then review", ";"},
		{"default keep 2y after a then keep", ";"},
		{"default keep 2y after a then keep;", "class default"},
		{"default keep 2y after a then keep; class", names},
		{`default keep 2y after a then keep; class "hr" keep`, fact},
		{`default keep 2y after a then keep; class "hr" keep 2y after b`, behind},
	} {
		if x.beginning != "" && !strings.HasSuffix(x.beginning, ";") {
			wrong(t, x.beginning, len(x.beginning), api.ErrText)
			wrong(t, x.beginning+" # then\n", len(x.beginning)+8, api.ErrText)
		}
		for _, token := range others() {
			s, ahead := x.beginning+" "+token, len(x.beginning)+1
			switch {
			case !strings.Contains(" "+x.may+" ", " "+token+" "):
				wrong(t, s, ahead, api.ErrText)
				wrong(t, s+" keep", ahead, api.ErrText)
				wrong(t, x.beginning+" #\n "+token+" 1d", ahead+3, api.ErrText)
			case token != ";":
				wrong(t, s, len(s), api.ErrText)
				wrong(t, s+" ", len(s)+1, api.ErrText)
			case eachFuel(t, s) != api.OK:
				t.Errorf("%q is to be right", s)
			}
		}
	}
}

// At the place of each token of several texts another one, none, one more, and the text's end.
func TestEachTokenOfTexts(t *testing.T) {
	count := map[api.Errno]int{}
	for _, s := range []string{
		"default keep 1d after a then keep ;",
		`class "hr" keep 2y after closed then destroy ;`,
		"default keep 1d after a or 1w after b and 1m after c then review ;",
		"default keep ( 1d after a or 1w after b ) and 1m after c then review ;",
		"default keep ( ( 1d after a ) and ( 2d after b or 3d after c ) ) then keep ;",
		`class "a" keep 1d after a then keep ; class "hr" keep ( 1d after b ) then destroy ; default keep 0d after c then review ;`,
		"default keep ( ( ( ( ( ( ( 1d after a ) ) ) ) ) ) ) then keep ;",
	} {
		words := strings.Fields(s)
		hold := func(parts ...[]string) {
			var l []string
			for _, p := range parts {
				l = append(l, p...)
			}
			count[eachFuel(t, strings.Join(l, " "))]++
		}
		for i := range words {
			ahead, behind := words[:i], words[i+1:]
			hold(ahead)
			hold(ahead, behind)
			hold(ahead, words[i:i+1], words[i:])
			for _, token := range others() {
				hold(ahead, []string{token}, behind)
				hold(ahead, []string{token}, words[i:])
				hold(ahead, []string{token})
			}
		}
		hold(words)
	}
	if count[api.OK] < 200 || count[api.ErrText] < 5000 || count[api.ErrThere] < 1 {
		t.Errorf("errors: %v", count)
	}
}

// A name that reads like a word is none, and a word that reads like a name is no name.
func TestNamesAreNoWords(t *testing.T) {
	wrong(t, `"default" keep 1d after a then keep;`, 0, api.ErrText)
	wrong(t, `"class" "a" keep 1d after a then keep;`, 0, api.ErrText)
	wrong(t, `default "keep" 1d after a then keep;`, 8, api.ErrText)
	wrong(t, `default keep "1d" after a then keep;`, 13, api.ErrText)
	wrong(t, `default keep 1d "after" a then keep;`, 16, api.ErrText)
	wrong(t, `default keep 1d after "a" then keep;`, 22, api.ErrText)
	wrong(t, `default keep 1d after a "or" 1d after b then keep;`, 24, api.ErrText)
	wrong(t, `default keep 1d after a "and" 1d after b then keep;`, 24, api.ErrText)
	wrong(t, `default keep 1d after a "then" keep;`, 24, api.ErrText)
	wrong(t, `default keep 1d after a then "keep";`, 29, api.ErrText)
	wrong(t, "class a keep 1d after a then keep;", 6, api.ErrText)
	wrong(t, "class default keep 1d after a then keep;", 6, api.ErrText)
	wrong(t, "class 1d keep 1d after a then keep;", 6, api.ErrText)
	wrong(t, `default "a" keep 1d after a then keep;`, 8, api.ErrText)
	wrong(t, `"a" keep 1d after a then keep;`, 0, api.ErrText)
	wrong(t, "defaults keep 1d after a then keep;", 0, api.ErrText)
	wrong(t, "default keeps 1d after a then keep;", 8, api.ErrText)
	wrong(t, "default keep 1d after a then destroyed;", 29, api.ErrText)
}

// P18.2: conditions deeper in brackets than may be.

// bracketed is a rule whose fact is in so many brackets.
func bracketed(n int) string {
	return "default keep " + strings.Repeat("(", n) + "1d after a" + strings.Repeat(")", n) + " then keep;"
}

func TestDeepBrackets(t *testing.T) {
	x := after(1, "a")
	for n := range mostDepth {
		right(t, bracketed(n), of("", x, keep))
		costTo(t, bracketed(n), 9+3*n, api.OK)
	}
	// The eighth Open is at 20; the condition that begins behind it is one too deep.
	for _, rest := range []string{"", "(", "((((", ")", "1d after a", "1d after a)))))))) then keep;", "then", `"hr"`} {
		wrong(t, "default keep (((((((("+rest, 21, api.ErrText)
		wrong(t, "default keep (((((((( \n"+rest, 23, api.ErrText)
	}
	for n := mostDepth; n <= mostDepth+10; n++ {
		s := bracketed(n)
		wrong(t, s, 21, api.ErrText)
		for fuel, place := range map[int]int{-1: 0, 0: 0, 1: 8, 2: 13, 3: 13, 4: 14, 5: 14, 6: 15, 16: 20, 17: 20, 18: 21} {
			rulesTo(t, s, fuel, nil, place, api.ErrFuel)
		}
		for _, fuel := range []int{19, 20, 21, 30, math.MaxInt} {
			rulesTo(t, s, fuel, nil, 21, api.ErrText)
		}
	}
	// The same at the text's end.
	rulesTo(t, "default keep ((((((((", 18, nil, 21, api.ErrFuel)
	rulesTo(t, "default keep ((((((((", 19, nil, 21, api.ErrText)
}

// How deep it is hangs on the brackets about it alone, not on those ahead.
func TestDeepBracketsAgain(t *testing.T) {
	a, b := after(1, "a"), after(2, "b")
	deep := strings.Repeat("(", 7) + "1d after a" + strings.Repeat(")", 7)
	right(t, "default keep "+deep+" or "+deep+" and "+deep+" then keep;", of("", or(a, and(a, a)), keep))
	right(t, "default keep "+deep+` then keep; class "a" keep `+deep+` then keep;class "b"keep `+deep+"then review;", of("", a, keep), of("a", a, keep), of("b", a, review))
	right(t, "default keep ((((((2d after b and (1d after a or 2d after b)) or (1d after a)))))) then keep;", of("", or(and(b, or(a, b)), a), keep))
	wrong(t, "default keep "+deep+" or ("+deep+") then keep;", 49, api.ErrText)
	wrong(t, "default keep "+deep+" and 1d after a or ("+deep+") then keep;", 64, api.ErrText)
	wrong(t, "default keep 1d after a or 1d after b and "+bracketed(8)[13:], 50, api.ErrText)
	wrong(t, "default keep ((((((1d after a) and ((((1d after b)))))))) then keep;", 38, api.ErrText)
	wrong(t, bracketed(7)+bracketed(8), 48+21, api.ErrText)
}

// P18.2: rule.Check's errors.

// each is how many bytes each rule of many has.
const each = 34

// many is the text of n rules, all of other classes.
func many(n int) string {
	s := ""
	for i := range n {
		s += `class"` + string(rune('a'+i)) + `"keep 1d after a then keep;`
	}
	return s
}

func TestTooManyRules(t *testing.T) {
	var l []api.Rule
	for n := 1; n <= 17; n++ {
		l = append(l, of(string(rune('a'+n-1)), after(1, "a"), keep))
		if n <= mostRules {
			right(t, many(n), l...)
			continue
		}
		wrong(t, many(n), 0, api.ErrMany)
		wrong(t, " #\n"+many(n)[:each*n-1]+" ;", 0, api.ErrMany)
		rulesTo(t, many(n), 10*n, nil, 0, api.ErrMany)
		rulesTo(t, many(n), 10*n-1, nil, each*n-1, api.ErrFuel)
		rulesTo(t, many(n), 1, nil, 5, api.ErrFuel)
		rulesTo(t, many(n), 0, nil, 0, api.ErrFuel)
		wrong(t, many(n)+"x", each*n, api.ErrText)
		wrong(t, many(n)[:each*n-1], each*n-1, api.ErrText)
	}
	wrong(t, strings.Repeat("default keep 0d after a then keep;", mostRules), 0, api.ErrThere)
	wrong(t, strings.Repeat("default keep 0d after a then keep;", mostRules+1), 0, api.ErrMany)
}

func TestTwoOfOneClass(t *testing.T) {
	const a, b, c = `class "a" keep 1d after a then keep;`, `class "b" keep 1d after b then keep;`, "default keep 1d after a then keep;"
	right(t, a+b+c, of("a", after(1, "a"), keep), of("b", after(1, "b"), keep), of("", after(1, "a"), keep))
	right(t, c+`class "default" keep 1d after a then keep;`, of("", after(1, "a"), keep), of("default", after(1, "a"), keep))
	for _, s := range []string{a + a, c + c, a + b + a, b + a + a, a + a + b, c + a + c, c + a + b + c, a + c + a, a + `class "a" keep 2y after b or 1d after c then destroy;`, c + "default keep 2y after b then review;"} {
		wrong(t, s, 0, api.ErrThere)
		n := len(reckoned(s).places)
		rulesTo(t, s, n, nil, 0, api.ErrThere)
		rulesTo(t, s, n-1, nil, len(s)-1, api.ErrFuel)
		wrong(t, s[:len(s)-1], len(s)-1, api.ErrText)
		wrong(t, s+"keep", len(s), api.ErrText)
	}
}

// row is a condition's text of n facts, a word between.
func row(n int, between string) string {
	return strings.Repeat("1d after a "+between+" ", n-1) + "1d after a"
}

// rowOf is n conditions 1d after a.
func rowOf(n int) []api.Expr {
	var l []api.Expr
	for range n {
		l = append(l, after(1, "a"))
	}
	return l
}

func TestTooManyNodes(t *testing.T) {
	for n := 2; n <= 30; n++ {
		for between, x := range map[string]api.Expr{"or": or(rowOf(n)...), "and": and(rowOf(n)...)} {
			s := "default keep " + row(n, between) + " then keep;"
			if n+1 <= mostNodes {
				right(t, s, of("", x, keep))
			} else {
				wrong(t, s, 0, api.ErrArg)
				rulesTo(t, s, 4*n+5, nil, 0, api.ErrArg)
				rulesTo(t, s, 4*n+4, nil, len(s)-1, api.ErrFuel)
				wrong(t, s[:len(s)-1], len(s)-1, api.ErrText)
			}
		}
		// An or of an and, and of n - 1: n + 2 nodes. Brackets that change nothing are none.
		s := "default keep ((" + row(2, "and") + ") or " + row(n, "or") + ") then keep;"
		if 4+n <= mostNodes {
			right(t, s, of("", or(append([]api.Expr{and(rowOf(2)...)}, rowOf(n)...)...), keep))
		} else {
			wrong(t, s, 0, api.ErrArg)
		}
	}
	// Each rule has nodes of its own.
	right(t, "default keep "+row(18, "or")+` then keep; class "a" keep `+row(18, "and")+" then keep;", of("", or(rowOf(18)...), keep), of("a", and(rowOf(18)...), keep))
	wrong(t, `class "a" keep 1d after a then keep; default keep `+row(24, "or")+" then keep;", 0, api.ErrArg)
	wrong(t, "default keep "+row(24, "or")+` then keep; class "a" keep 1d after a then keep;`, 0, api.ErrArg)
	// Ahead of two of one class, behind too many.
	const two = `class "a" keep 1d after a then keep; class "a" keep 1d after a then keep; `
	wrong(t, "default keep "+row(24, "or")+" then keep; "+two, 0, api.ErrArg)
	wrong(t, two+"default keep "+row(24, "and")+" then keep;", 0, api.ErrArg)
	wrong(t, two+"default keep "+row(23, "and")+" then keep;", 0, api.ErrThere)
	deep := "default keep " + deepest(9) + " then keep;"
	wrong(t, deep+many(mostRules-1), 0, api.ErrArg)
	wrong(t, many(mostRules-1)+deep, 0, api.ErrArg)
	wrong(t, deep+many(mostRules), 0, api.ErrMany)
	wrong(t, many(mostRules)+deep, 0, api.ErrMany)
}

// deepest is a condition's text that is so deep as rules have it, an or and an and in turn, with a bracket for each second one.
func deepest(depth int) string {
	if depth == 1 {
		return "0d after a"
	}
	if depth == 2 {
		return "0d after a or 0d after a"
	}
	return "0d after a or 0d after a and (" + deepest(depth-2) + ")"
}

// deepestOf is what deepest tells.
func deepestOf(depth int) api.Expr {
	a := after(0, "a")
	if depth == 1 {
		return a
	}
	if depth == 2 {
		return or(a, a)
	}
	return or(a, and(a, deepestOf(depth-2)))
}

func TestTooDeepRules(t *testing.T) {
	for depth := 1; depth <= 12; depth++ {
		s, x := "default keep "+deepest(depth)+" then review;", deepestOf(depth)
		if depthOf(x) != depth || nodesOf(x) > mostNodes {
			t.Fatalf("%d deep: %d deep, %d nodes", depth, depthOf(x), nodesOf(x))
		}
		if depth <= mostDepth {
			right(t, s, of("", x, review))
			continue
		}
		wrong(t, s, 0, api.ErrArg)
		n := len(reckoned(s).places)
		rulesTo(t, s, n, nil, 0, api.ErrArg)
		rulesTo(t, s, n-1, nil, len(s)-1, api.ErrFuel)
		wrong(t, s+" then", len(s)+1, api.ErrText)
		wrong(t, s+`class "a" keep 1d after a then keep;`, 0, api.ErrArg)
		wrong(t, `class "a" keep 1d after a then keep;`+s, 0, api.ErrArg)
		wrong(t, s+"default keep 1d after a then keep;", 0, api.ErrArg)
	}
}

// With a bracket for each part, the brackets end where the rules do, or one later.
func TestTooDeepRulesInBrackets(t *testing.T) {
	for _, ops := range [][2]int{{opOr, opOr}, {opAnd, opAnd}, {opOr, opAnd}, {opAnd, opOr}} {
		s, x := "1d after a", after(1, "a")
		for n := range mostDepth {
			x = api.Expr{Op: ops[n%2], Kids: []api.Expr{x, after(1, "b")}}
			s += []string{opOr: " or ", opAnd: " and "}[x.Op] + "1d after b"
			if n+2 <= mostDepth {
				right(t, "default keep "+s+" then keep;", of("", x, keep))
			} else {
				wrong(t, "default keep "+s+" then keep;", 0, api.ErrArg)
			}
			s = "(" + s + ")"
		}
		wrong(t, "default keep "+s+" then keep;", 21, api.ErrText)
	}
}

// With an error there are no rules, also where some were read whole.
func TestNoRulesBesideErrors(t *testing.T) {
	good := many(2)
	for _, s := range []string{good + "x", good + "default", good + good, good + "default keep 2873y after a then keep;", many(13), good + "default keep " + row(24, "or") + " then keep;"} {
		l, _, e := parse.Rules(s, plenty)
		if len(l) != 0 || e == api.OK {
			t.Errorf("Rules(%q): %s, error %d", s, shownAll(l), e)
		}
		for fuel := range 25 {
			if l, _, e := parse.Rules(s, fuel); len(l) != 0 || e == api.OK {
				t.Errorf("Rules(%q, %d): %s, error %d", s, fuel, shownAll(l), e)
			}
		}
	}
}
