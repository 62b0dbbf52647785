package writ_test

import (
	"hanaper/api"
	"hanaper/writ"
	"slices"
	"strings"
	"testing"
	"unsafe"
)

// P21.2.

func TestReadByHand(t *testing.T) {
	a, b, c := ofCase("a"), ofSub("b"), ofClass("c")
	right(t, "case a and not ( subject b or time 5-9 )", and(a, not(or(b, time(5, 9)))))
	right(t, "all", all())
	right(t, "case a", a)
	right(t, "subject b", b)
	right(t, "class c", c)
	right(t, "time 5-9", time(5, 9))
	right(t, "not all", not(all()))
	right(t, "not not class x.1", not(not(ofClass("x.1"))))
	right(t, "case a and subject b", and(a, b))
	right(t, "case a or subject b", or(a, b))
	right(t, "case a and subject b and class c", and(a, b, c))
	right(t, "case a or subject b or class c or all", or(a, b, c, all()))
	// And binds closer than or, not closer than and.
	right(t, "all or all and all", or(all(), and(all(), all())))
	right(t, "all and all or all", or(and(all(), all()), all()))
	right(t, "case a and subject b or class c and all or all", or(and(a, b), and(c, all()), all()))
	right(t, "case a or subject b and class c or all and all", or(a, and(b, c), and(all(), all())))
	right(t, "not case a and subject b", and(not(a), b))
	right(t, "not case a or subject b", or(not(a), b))
	right(t, "case a and not subject b or not not class c", or(and(a, not(b)), not(not(c))))
	// Brackets.
	right(t, "( all or all ) and ( all and all )", and(or(all(), all()), and(all(), all())))
	right(t, "( case a )", a)
	right(t, "( ( time 0-0 ) )", time(0, 0))
	right(t, "not ( case a )", not(a))
	right(t, "( not case a )", not(a))
	right(t, "not ( not ( case a ) )", not(not(a)))
	right(t, "( case a ) and subject b", and(a, b))
	right(t, "case a and ( subject b )", and(a, b))
	right(t, "( case a and subject b )", and(a, b))
	right(t, "( ( case a ) or ( ( subject b ) ) )", or(a, b))
	right(t, "case a and subject b and ( class c )", and(a, b, c))
	right(t, "not ( case a and subject b )", not(and(a, b)))
	right(t, "not ( case a or subject b ) and class c", and(not(or(a, b)), c))
	right(t, "case a and ( subject b or class c )", and(a, or(b, c)))
	right(t, "( case a or subject b ) and class c", and(or(a, b), c))
	right(t, "( case a and subject b ) or class c", or(and(a, b), c))
	// What stands in brackets is a scope of its own.
	right(t, "case a and ( subject b and class c )", and(a, and(b, c)))
	right(t, "( case a and subject b ) and class c", and(and(a, b), c))
	right(t, "case a or ( subject b or class c )", or(a, or(b, c)))
	right(t, "( case a or subject b ) or class c", or(or(a, b), c))
	right(t, "( ( case a or subject b ) or class c )", or(or(a, b), c))
	right(t, "( case a and ( subject b and class c ) ) and all", and(and(a, and(b, c)), all()))
}

// Each place of some texts, where a blank stands, stands ahead of all or behind all: other white space, two blanks, none.
func TestBlanks(t *testing.T) {
	space := []string{"", "  ", "   ", "\t", "\n", "\r", "\v", "\f", "\x00", "\u0085", "\u00a0", "\u2003", "\xa0", " \t", "\t ", " \n", "\n ", "/", ",", "+"}
	for _, s := range []string{"all", "case a", "not all", "all or all", "( all )", "time 5-9", "case a and not ( subject b or time 5-9 )", "( class c )"} {
		for _, v := range space[1:] {
			wrong(t, v+s, s+v, v+s+v)
		}
		wrong(t, " "+s, s+" ", " "+s+" ")
		for i := range s {
			if s[i] == ' ' {
				for _, v := range space {
					parseTo(t, s[:i]+v+s[i+1:], api.Scope{}, api.ErrText)
				}
			}
		}
	}
	wrong(t, append(space, " ")...)
}

// What stands beside brackets stands apart.
func TestBracketsWithoutBlanks(t *testing.T) {
	wrong(t, "(all)", "( all)", "(all )", "((all))", "( ( all ))", "(( all ) )", "not(all)", "not (all)", "not( all )", "( all )and all", "all and( all )", "( all ) and(all)", "case a)", "( case a)", "()", "( )", "[ all ]", "{ all }", "all )", "( all ]")
}

// Each word, wrong in one letter, with one less, with one more, and in capital letters.
func TestWrongWords(t *testing.T) {
	for _, s := range []string{"all", "case a", "subject a", "class a", "time 5-9", "not all", "all and all", "all or all", "( all )"} {
		for _, word := range strings.Fields(s) {
			if !strings.Contains(" "+words+" ", " "+word+" ") {
				continue
			}
			turned := func(w string) string {
				l := strings.Fields(s)
				l[slices.Index(l, word)] = w
				return strings.Join(l, " ")
			}
			parseTo(t, turned(word), parsed(t, s), api.OK)
			for i := range word {
				for v := range 256 {
					if v != int(word[i]) {
						reads(t, turned(word[:i]+string([]byte{byte(v)})+word[i+1:]))
					}
					reads(t, turned(word[:i]+string([]byte{byte(v)})+word[i:]))
					reads(t, turned(word+string([]byte{byte(v)})))
				}
				wrong(t, turned(word[:i]+word[i+1:]), turned(word[:i]+word[i:i+1]+word[i:]), turned(word[:i]+"x"+word[i+1:]))
			}
			if up := strings.ToUpper(word); up != word {
				wrong(t, turned(up), turned(up[:1]+word[1:]), turned(word[:len(word)-1]+up[len(word)-1:]))
			}
			wrong(t, turned(""), turned(`"`+word+`"`))
		}
	}
	wrong(t, "none", "any", "record a", "sub a", "cases a", "subjects a", "classes a", "times 5-9", "tick 5-9", "at 5-9", "but all", "all xor all", "all & all", "all && all", "all | all", "! all", "!all", "- all", "all,all", "all and not", "all or not", "nor all", "all, all", "a", "5-9", "5", "-", ".", "\xff", "é")
}

// parsed is what a right text is read as.
func parsed(t *testing.T, s string) api.Scope {
	t.Helper()
	x, e := readOf(s)
	if e != api.OK {
		t.Fatalf("%q is asked to be right, but has the error %d", s, e)
	}
	return x
}

func TestReadNames(t *testing.T) {
	for op, word := range map[int]string{opCase: "case", opSub: "subject", opClass: "class"} {
		of := func(name string) api.Scope { return api.Scope{Op: op, Name: name} }
		for n := 1; n < 40; n++ {
			s := strings.Repeat("b", n)
			if n <= mostName {
				right(t, word+" "+s, of(s))
				right(t, "not "+word+" "+s, not(of(s)))
			} else {
				wrong(t, word+" "+s, "not "+word+" "+s)
			}
		}
		for v := range 256 {
			c := string([]byte{byte(v)})
			for _, s := range []string{c, "a" + c, c + "a", strings.Repeat("a", mostName-1) + c, "aaa" + c + "aaa"} {
				if strings.Contains(inName, c) {
					right(t, word+" "+s, of(s))
					right(t, "( "+word+" "+s+" )", of(s))
				} else if v != ' ' {
					wrong(t, word+" "+s, "( "+word+" "+s+" )")
				}
			}
		}
		// A name may be one of the words, and look like other things.
		for _, s := range []string{"all", "case", "subject", "class", "time", "not", "and", "or", "5-9", "0", "-", ".", "_", "...", "-5"} {
			right(t, word+" "+s, of(s))
			right(t, "not "+word+" "+s+" and "+word+" "+s+" or "+word+" "+s, or(and(not(of(s)), of(s)), of(s)))
			right(t, "( "+word+" "+s+" )", of(s))
		}
		wrong(t, word, word+" ", word+" (", word+" )", "( "+word+" )", "( "+word+" ) )", "not "+word, "all and "+word, word+"  a", word+" a a", word+" a all", word+" a case", word+" a and", word+" a or", word+" a not", word+" a not all", word+" or all", word+" and all", word+" a case a", word+" A", word+" Hr", word+" a/b", word+` "a"`, word+" a,", word+" é", word+"a", word+" a\n", word+"-a", word+".", word+" not not")
		right(t, word+" and and all", and(of("and"), all()))
		right(t, word+" or or "+word+" or", or(of("or"), of("or")))
		right(t, word+" not and not "+word+" not", and(of("not"), not(of("not"))))
		right(t, word+" "+word, of(word))
	}
}

func TestReadTimes(t *testing.T) {
	for _, v := range []struct {
		text     string
		from, to int
	}{
		{"0-0", 0, 0}, {"0-1", 0, 1}, {"1-1", 1, 1}, {"5-9", 5, 9}, {"9-9", 9, 9}, {"9-10", 9, 10}, {"10-10", 10, 10}, {"99-100", 99, 100}, {"0-1099511627776", 0, mostClock},
		{"1099511627775-1099511627776", mostClock - 1, mostClock}, {"1099511627776-1099511627776", mostClock, mostClock}, {"1099511627775-1099511627775", mostClock - 1, mostClock - 1}, {"999999999999-1000000000000", 999999999999, 1000000000000},
	} {
		right(t, "time "+v.text, time(v.from, v.to))
		right(t, "not ( time "+v.text+" and all )", not(and(time(v.from, v.to), all())))
	}
	for _, s := range []string{
		"", "-", "--", "---", "5", "0", "9 9", "5-", "-5", "-9", "5--9", "5-9-", "-5-9", "5-9-12", "5-9-9", "5-9 -", "5- 9", "5 -9", "5 - 9", "--5-9", "5---9", "-5--9",
		"05-9", "5-09", "00-9", "0-00", "00-00", "000-1", "0-01", "01-1", "0-0000000000001", "0x5-9", "5-0x9", "0b1-9", "0o5-9", "1_0-20", "10-2_0",
		"9-5", "1-0", "10-9", "100-99", "1099511627776-1099511627775", "1099511627776-0", "2-10000000000000", "20-3",
		"0-1099511627777", "1099511627777-1099511627777", "1099511627776-1099511627777", "0-1099511627786", "0-1100000000000", "0-2000000000000", "0-9999999999999", "0-10000000000000", "0-10995116277760", "5-4294967305000",
		"+5-9", "5-+9", "+5-+9", "5+9", "5--", "-0-0", "0--0", "+0-0", "0-+0", "5.0-9", "5-9.0", "5e0-9", "5-1e1", "5,9", "5..9", "5:9", "5/9", "5_9", "5\u20139", "5\u22129",
		"a-9", "5-a", "5a-9", "5-9a", "a5-9", "5-a9", "a", "a-b", "five-nine", "5d-9d", "inf-inf", "\u0665-\u0669", "5-\u0669", "5-9\n", "\n5-9", "5-9\x00", "5-\x009", "(", ")", "all", "and", "time",
		"9223372036854775807-9223372036854775807", "0-9223372036854775807", "0-9223372036854775808", "0-18446744073709551615", "0-18446744073709551616", "0-18446744073709551621", "18446744073709551621-18446744073709551625", "0-4294967296000000", "0-340282366920938463463374607431768211456",
		"0-" + strings.Repeat("9", 900), strings.Repeat("9", 900) + "-9", "0-" + strings.Repeat("0", 900) + "9", strings.Repeat("0", 900) + "-9", strings.Repeat("1", 13) + "-" + strings.Repeat("1", 14), strings.Repeat("-", 900), "0-1" + strings.Repeat("0", 64),
	} {
		wrong(t, "time "+s, "not time "+s, "( time "+s+" )", "time "+s+" or all", "all and time "+s)
	}
	wrong(t, "time", "time time", "time 5-9 5-9", "time 5-9 9", "time 5-9 time", "time and all", "not time", "( time )", "5-9", "time5-9")
	for v := range 256 {
		c := string([]byte{byte(v)})
		for _, s := range []string{c + "-9", "5-" + c, c + "5-29", "1" + c + "-99", "1-2" + c, "1-" + c + "2", "1" + c + "2", c} {
			reads(t, "time "+s)
		}
	}
}

// All pairs of numbers about some edges, in each way of telling one.
func TestReadPairsOfNumbers(t *testing.T) {
	nums := []string{"0", "1", "2", "9", "10", "11", "19", "20", "100", "255", "999", "1000", "4294967296", "1099511627775", "1099511627776", "1099511627777", "9999999999999", "00", "01", "09", "010", "", "+1", "-1", "a", "1a", "9223372036854775808", "18446744073709551617"}
	count := 0
	for i, from := range nums {
		for k, to := range nums {
			is := i <= k && k < 15
			if got := reads(t, "time "+from+"-"+to) == api.OK; got != is {
				t.Errorf("from %q to %q: is one is %v", from, to, got)
			}
			if is {
				count++
			}
		}
	}
	if count != 120 {
		t.Errorf("%d pairs", count)
	}
}

func TestBracketsThatDoNotMatch(t *testing.T) {
	wrong(t, "(", ")", "( )", "( ( ) )", ") (", "( all", "all )", "( ( all )", "( all ) )", ") all", "all (", ") all (", "( all ( )", "( all ) ( all )", "( all ) all", "all ( all )", "( ) all", "all and ( )", "( ) and all", "not ( )", "not (", "not )", "not ( all", "not all )", "( not )", "( not all", "( and )", "( all and )", "( and all )", "( or )", "( all or ) all", "all and ( all", "all and all )", "( all and ( all or all )", "( all and all ) or all )", "all ) and ( all", "( all ) or ) all (", "( ( ( all ) )", "( ( all ) ) )", "case ( a )", "time ( 5-9 )", "( case ) a", "( all and all ) and", "( ( all ) and ( all )")
}

func TestWrongRows(t *testing.T) {
	wrong(t, "", "and", "or", "not", "case", "and and", "or or", "and or", "not not", "not and", "not or", "and all", "or all", "all and", "all or", "all and and all", "all or or all", "all and or all", "all or and all", "all not", "all not all", "not and all", "all and not", "all or not", "all and not and all", "not not not", "all not and all")
	// Words behind the end.
	wrong(t, "all all", "all all or all", "all or all all", "all case a", "case a b", "case a all", "time 5-9 all", "time 1-2 3-4", "not all all", "not all not all", "( all ) all", "all subject", "all time 5-9", "all a", "all 5-9", "all .", "all and all all")
}

// All rows of words, up to five of them, and of fewer words longer ones.
func TestAllShortRows(t *testing.T) {
	count := map[api.Errno]int{}
	rows := func(most int, letters ...string) {
		l := []string{""}
		for range most {
			var next []string
			for _, row := range l {
				for _, w := range letters {
					s := strings.TrimPrefix(row+" "+w, " ")
					count[reads(t, s)]++
					next = append(next, s)
				}
			}
			l = next
		}
	}
	rows(4, append(strings.Fields(words), "a", "5-9", "ALL")...)
	rows(5, "all", "case", "not", "and", "or", "(", ")")
	rows(7, "all", "not", "and", "(", ")")
	rows(6, "all", "or", "and", "(", ")")
	if count[api.OK] < 500 || count[api.ErrText] < 100000 || len(count) != 2 {
		t.Errorf("errors: %v", count)
	}
}

// some are texts that are right.
func some() []string {
	return []string{
		"all", "case a", "not time 0-0", "case a and not ( subject b or time 5-9 )", "( class c )", "all or all and all", "( all or all ) and ( all and all )", "not not class x.1",
		"subject 0123456789.-_xyz and time 1099511627775-1099511627776", "not ( case case or not ( time 10-99 and not all ) ) or ( ( class and ) )",
	}
}

// Each text cut off at each place, with each byte changed, left out, or put in.
func TestEachByteChanged(t *testing.T) {
	count := map[api.Errno]int{}
	for _, s := range some() {
		parseTo(t, s, parsed(t, s), api.OK)
		for i := range len(s) + 1 {
			count[reads(t, s[:i])]++
			count[reads(t, s[i:])]++
			for v := range 256 {
				c := string([]byte{byte(v)})
				count[reads(t, s[:i]+c+s[i:])]++
				if i < len(s) {
					count[reads(t, s[:i]+c+s[i+1:])]++
				}
			}
			if i < len(s) {
				count[reads(t, s[:i]+s[i+1:])]++
			}
		}
		wrong(t, s+s, s+" "+s, s+"\n"+s)
	}
	if count[api.OK] < 1000 || count[api.ErrText] < 50000 {
		t.Errorf("errors: %v", count)
	}
}

// Each word of each text left out, taken twice, changed for each other one, or for each other's place.
func TestEachWordChanged(t *testing.T) {
	others := append(strings.Fields(words), "a", "5-9", "9-5", "", "A")
	count := map[api.Errno]int{}
	for _, s := range some() {
		l := strings.Split(s, " ")
		try := func(l []string) { count[reads(t, strings.Join(l, " "))]++ }
		for i := range l {
			try(slices.Delete(slices.Clone(l), i, i+1))
			for _, w := range others {
				try(slices.Insert(slices.Clone(l), i, w))
				c := slices.Clone(l)
				c[i] = w
				try(c)
			}
			for k := range l {
				c := slices.Clone(l)
				c[i], c[k] = c[k], c[i]
				try(c)
			}
		}
	}
	if count[api.OK] < 200 || count[api.ErrText] < 1000 {
		t.Errorf("errors: %v", count)
	}
}

// around is s in so many brackets.
func around(n int, s string) string {
	return strings.Repeat("( ", n) + s + strings.Repeat(" )", n)
}

// Brackets and nots within one another, of one kind, and mixed.
func TestBracketsAndNots(t *testing.T) {
	x := and(ofCase("a"), all())
	for n := range 60 {
		deep := strings.Repeat("not ", n)
		want := api.OK
		switch {
		case n > mostDeep:
			want = api.ErrText
		case n >= mostDepth:
			want = api.ErrArg
		}
		if got := reads(t, deep+"all"); got != want {
			t.Errorf("%d nots: error %d, not %d", n, got, want)
		}
		if n > mostDeep {
			wrong(t, around(n, "all"), around(n, "case a and all"), around(n, "not all"), "not "+around(n, "all"), "all and "+around(n, "all")+" or all")
		} else {
			right(t, around(n, "all"), all())
			right(t, around(n, "case a and all"), x)
			right(t, "all and "+around(n, "all")+" or all", or(and(all(), all()), all()))
		}
		// Nots ahead of brackets, in them, and between.
		for k := range 9 {
			more := strings.Repeat("not ", k)
			want := api.OK
			switch {
			case n+k > mostDeep:
				want = api.ErrText
			case k >= mostDepth:
				want = api.ErrArg
			}
			for _, s := range []string{more + around(n, "all"), around(n, more+"all"), around(n/2, more+around(n-n/2, "all")), strings.Repeat("not ( ", min(k, n)) + more[4*min(k, n):] + around(n-min(k, n), "all") + strings.Repeat(" )", min(k, n))} {
				if got := reads(t, s); got != want {
					t.Errorf("%q: error %d, not %d", s, got, want)
				}
			}
		}
	}
}

func TestBracketsAndNotsByHand(t *testing.T) {
	parseTo(t, strings.Repeat("not ", 20)+"all", api.Scope{}, api.ErrArg)
	parseTo(t, strings.Repeat("not ", 40)+"all", api.Scope{}, api.ErrArg)
	wrong(t, strings.Repeat("not ", 41)+"all", strings.Repeat("not ", 200)+"all")
	right(t, around(40, "all"), all())
	wrong(t, around(41, "all"), around(240, "all"))
	right(t, around(33, nested(7)), nots(7, all()))
	wrong(t, around(34, nested(7)), around(33, nested(7)+" )"), around(33, "not "+nested(7)))
	parseTo(t, around(32, nested(8)), api.Scope{}, api.ErrArg)
	// Side by side they are not within one another.
	right(t, around(40, "all")+" and "+around(40, "case a")+" or "+around(40, "all"), or(and(all(), ofCase("a")), all()))
	right(t, around(20, around(20, "all")+" or "+around(20, "all")), or(all(), all()))
	wrong(t, around(20, around(20, "all")+" or "+around(21, "all")), around(20, around(21, "all")+" or "+around(20, "all")), around(40, "all")+" or "+around(41, "all"), around(41, "all")+" or all")
	right(t, around(39, "not all and not all or not all"), or(and(not(all()), not(all())), not(all())))
	wrong(t, around(40, "all and not all"), around(39, "all or not not all"), around(39, "all or not ( all )"), around(39, "not ( all or all )"))
	right(t, "not all and "+around(40, "all"), and(not(all()), all()))
	right(t, "not "+around(39, "all")+" and "+around(40, "all"), and(not(all()), all()))
	right(t, around(40, "all")+" and not all", and(all(), not(all())))
	parseTo(t, "not all"+strings.Repeat(" and not all", 60), api.Scope{}, api.ErrArg)
	parseTo(t, "( all )"+strings.Repeat(" or ( all )", 60), api.Scope{}, api.ErrArg)
	// Too deep in brackets, and besides too many, or too deep as a scope.
	wrong(t, around(41, "all")+strings.Repeat(" and all", 30), strings.Repeat("all and ", 30)+around(41, "all"), strings.Repeat("not ", 10)+around(31, "all"))
}

// nested is a text of so many nots within one another.
func nested(n int) string {
	return strings.Repeat("not ", n) + "all"
}

// Scopes that are right as texts, but may not be.
func TestTooManyAndTooDeep(t *testing.T) {
	for n := 1; n < 60; n++ {
		for _, between := range []string{" and ", " or "} {
			s := "all" + strings.Repeat(between+"all", n)
			want := api.OK
			if n+2 > mostNodes {
				want = api.ErrArg
			}
			if got := reads(t, s); got != want {
				t.Errorf("%d of %q: error %d, not %d", n+1, between, got, want)
			}
			if got := reads(t, "( "+s+" )"); got != want {
				t.Errorf("%d of %q in brackets: error %d, not %d", n+1, between, got, want)
			}
			wrong(t, s+" all", s+between, s+" )", "( "+s)
		}
		// An and more of each two.
		reads(t, "all and all"+strings.Repeat(" or all and all", n))
		reads(t, strings.Repeat("all and ( ", n%20)+"all"+strings.Repeat(" )", n%20))
		reads(t, strings.Repeat("all or ( ", n%20)+"all"+strings.Repeat(" )", n%20))
	}
	right(t, "all and all"+strings.Repeat(" or all and all", 6), or(times(7, and(all(), all()))...))
	parseTo(t, "all and all"+strings.Repeat(" or all and all", 7), api.Scope{}, api.ErrArg)
	right(t, comb8("and"), comb(and, 8, true))
	right(t, comb8("or"), comb(or, 8, true))
	parseTo(t, "all and ( "+comb8("and")+" )", api.Scope{}, api.ErrArg)
	parseTo(t, "not ( "+comb8("or")+" )", api.Scope{}, api.ErrArg)
	right(t, "( "+comb8("or")+" )", comb(or, 8, true))
}

// comb8 is the text of a comb that is as deep as may be.
func comb8(between string) string {
	return strings.Repeat("subject b "+between+" ( ", 6) + "subject b " + between + " case a" + strings.Repeat(" )", 6)
}

// Texts of about as many bytes as may be.
func TestLengths(t *testing.T) {
	// 23 leaves, and brackets about them, of so many bytes.
	long := func(n int) (string, api.Scope) {
		l, kids := slices.Repeat([]string{"time 1099511627776-1099511627776"}, 23), times(23, time(mostClock, mostClock))
		spare := 846 + 4*39 - n // bytes fewer than with 39 brackets
		from := 1099511627776
		for range spare {
			from /= 10
		}
		s := "time " + "1099511627776"[:13-spare]
		l[0], kids[0] = s+"-1099511627776", time(from, mostClock)
		for i := range 39 {
			l[i%23] = "( " + l[i%23] + " )"
		}
		return strings.Join(l, " and "), and(kids...)
	}
	for n := 995; n <= 1002; n++ {
		s, x := long(n)
		if len(s) != n {
			t.Fatalf("a text of %d bytes has %d", n, len(s))
		}
		if n <= mostText {
			right(t, s, x)
			wrong(t, s[:n-1], s[:n-1]+"(", "n"+s[1:])
		} else {
			for _, v := range []string{s, s[:n-1] + "(", "n" + s[1:]} {
				parseTo(t, v, api.Scope{}, api.ErrLong)
			}
		}
		// Wrong ones, those of too many nodes, and those too deep in brackets.
		for _, v := range []struct {
			s   string
			err api.Errno
		}{
			{strings.Repeat("x", n), api.ErrText}, {strings.Repeat(" ", n), api.ErrText}, {strings.Repeat("\x00", n), api.ErrText}, {strings.Repeat("(", n), api.ErrText}, {strings.Repeat("9", n), api.ErrText},
			{strings.Repeat("( ", n/2) + strings.Repeat("(", n%2), api.ErrText}, {strings.Repeat("é", n/2) + strings.Repeat("x", n%2), api.ErrText}, {"case " + strings.Repeat("a", n-5), api.ErrText}, {"time 0-" + strings.Repeat("9", n-7), api.ErrText},
			{row(n), api.ErrArg}, {"all and not " + row(n-12), api.ErrArg}, {row(n-2) + " )", api.ErrText}, {around(41, row(n-164)), api.ErrText}, {around(40, row(n-160)), api.ErrArg},
		} {
			want := v.err
			if n > mostText {
				want = api.ErrLong
			}
			if len(v.s) != n {
				t.Fatalf("a text of %d bytes has %d", n, len(v.s))
			}
			parseTo(t, v.s, api.Scope{}, want)
			if got := reads(t, v.s); got != want {
				t.Errorf("%q: error %d, not %d", short(v.s), got, want)
			}
		}
	}
	for _, n := range []int{1003, 1024, 1256, 2000, 4096, 1 << 16, 1<<16 + 10, 1 << 20} {
		for _, s := range []string{"x", " ", "(", "all", "( ", "not ", "all and ", "\xff"} {
			parseTo(t, strings.Repeat(s, n)[:n], api.Scope{}, api.ErrLong)
		}
		parseTo(t, "all"+strings.Repeat(" ", n), api.Scope{}, api.ErrLong)
	}
}

// row is a right text of n bytes, of many words.
func row(n int) string {
	s := "all"
	for (n-len(s))%8 != 0 {
		s += " or all"
	}
	return s + strings.Repeat(" and all", (n-len(s))/8)
}

// Each byte alone, and very often.
func TestEachByte(t *testing.T) {
	for v := range 256 {
		c := string([]byte{byte(v)})
		for _, n := range []int{1, 2, 3, 500, 1000} {
			wrong(t, strings.Repeat(c, n), strings.Repeat(c+" ", n/2)+c[:n%2])
		}
		parseTo(t, strings.Repeat(c, 1001), api.Scope{}, api.ErrLong)
	}
}

// Rules that hold everywhere, 3 and 4.

// spoil makes all of x something else, with what stands behind its Kids.
func spoil(x *api.Scope) {
	kids := x.Kids[:cap(x.Kids)]
	for i := range kids {
		spoil(&kids[i])
	}
	*x = api.Scope{Op: -1, Name: "spoilt"}
}

func TestReadSharesNothing(t *testing.T) {
	for _, s := range append(some(), "all and all and all or all and all or not all or not ( all and all )") {
		want := parsed(t, s)
		b := []byte(s)
		x, _ := writ.Parse(unsafe.String(&b[0], len(b)))
		y, _ := writ.Parse(s)
		if string(b) != s {
			t.Errorf("what was handed in, %q, is %q behind it", s, b)
		}
		for i := range b {
			b[i] = '!'
		}
		if shown(x) != shown(want) {
			t.Errorf("what was read turns with what was handed in: %s, not %s", shown(x), shown(want))
		}
		spoil(&x)
		if shown(y) != shown(want) {
			t.Errorf("two answers of Parse share something: %s, not %s", shown(y), shown(want))
		}
		// Nor do two lists of one answer.
		for i := range spots(&y) {
			z, _ := writ.Parse(s)
			k := spots(&z)[i]
			ahead := shown(*k)
			for _, other := range spots(&z) {
				if len(other.Kids) > 0 && other != k && !slices.Contains(spots(other), k) && !slices.Contains(spots(k), other) {
					spoil(other)
				}
			}
			if shown(*k) != ahead {
				t.Errorf("two lists of what %q tells share something", s)
			}
		}
	}
}

// The same is answered again, whatever was asked between.
func TestAgain(t *testing.T) {
	for range 3 {
		for _, s := range some() {
			right(t, s, parsed(t, s))
			wrong(t, s+" ", "( "+s, around(41, s), "not")
			parseTo(t, strings.Repeat("not ", 8)+"all", api.Scope{}, api.ErrArg)
			parseTo(t, strings.Repeat("x", 1001), api.Scope{}, api.ErrLong)
			refused(t, few()[0])
			written(t, parsed(t, s), textOf(parsed(t, s)))
		}
	}
}
