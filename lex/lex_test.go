package lex_test

import (
	"hanaper/api"
	"hanaper/lex"
	"slices"
	"strings"
	"testing"
	"unsafe"
)

const (
	letters = "abcdefghijklmnopqrstuvwxyz"
	digits  = "0123456789"
)

// P16.1.

func TestConstants(t *testing.T) {
	if lex.Word != word || lex.Quoted != quoted || lex.Span != days || lex.Open != open || lex.Close != closed || lex.End != end {
		t.Error("a kind has another number")
	}
	if api.MaxText != mostText || api.MaxName != mostName || api.MaxDays != mostDays {
		t.Error("a limit is another one")
	}
}

func TestExample(t *testing.T) {
	right(t, `class "hr" keep 2y`,
		lex.Token{Kind: word, Text: "class", At: 0}, lex.Token{Kind: quoted, Text: "hr", At: 6}, lex.Token{Kind: word, Text: "keep", At: 11}, lex.Token{Kind: days, Text: "2y", N: 730, At: 16})
}

// Each kind's Kind, Text, N and At.
func TestEachKind(t *testing.T) {
	right(t, "word", lex.Token{Kind: word, Text: "word"})
	right(t, `"name"`, lex.Token{Kind: quoted, Text: "name"})
	right(t, "3w", lex.Token{Kind: days, Text: "3w", N: 21})
	right(t, "(", lex.Token{Kind: open, Text: "("})
	right(t, ")", lex.Token{Kind: closed, Text: ")"})
	right(t, ";", lex.Token{Kind: end, Text: ";"})
	right(t, "\t\"2y\" 0d\n;y2 #", lex.Token{Kind: quoted, Text: "2y", At: 1}, lex.Token{Kind: days, Text: "0d", At: 6}, lex.Token{Kind: end, Text: ";", At: 9}, lex.Token{Kind: word, Text: "y2", At: 10})
}

func TestRules(t *testing.T) {
	right(t, "# of people\nclass \"hr-1.a\"\tkeep (10d after left_1 or 1m after c);# ..\n",
		lex.Token{Kind: word, Text: "class", At: 12}, lex.Token{Kind: quoted, Text: "hr-1.a", At: 18}, lex.Token{Kind: word, Text: "keep", At: 27},
		lex.Token{Kind: open, Text: "(", At: 32}, lex.Token{Kind: days, Text: "10d", N: 10, At: 33}, lex.Token{Kind: word, Text: "after", At: 37}, lex.Token{Kind: word, Text: "left_1", At: 43},
		lex.Token{Kind: word, Text: "or", At: 50}, lex.Token{Kind: days, Text: "1m", N: 30, At: 53}, lex.Token{Kind: word, Text: "after", At: 56}, lex.Token{Kind: word, Text: "c", At: 62},
		lex.Token{Kind: closed, Text: ")", At: 63}, lex.Token{Kind: end, Text: ";", At: 64})
	all(t, "default keep 2y after closed or 1m after left and 1d after ingest then destroy;")
}

// What is no token, alone, many times, and together.
func TestNothing(t *testing.T) {
	for _, s := range []string{
		"", " ", "\n", "\t", "   ", "\n\n\n", "\t\t\t", " \n\t\n \t", "#", "##", "#\n", "#\n\n", "# a", "# a\n", "#a\n#b", "#a\n#b\n", " #", "\n#", "\t# ( \"", "# \"\n ",
		"#$%&\r\x00\x80\xff", "#$%&\r\x00\x80\xff\n", "#\u00fc\u20ac\n\t", "# 12\n# Q\n# \"a", "#\r", "#\x0b\x0c\n",
	} {
		right(t, s)
		all(t, s)
	}
	for _, n := range []int{2, 31, 599, 600} {
		for _, s := range []string{" ", "\n", "\t", "#", "#\n", " \n\t"} {
			right(t, strings.Repeat(s, n)[:n])
		}
		right(t, "#"+strings.Repeat("a", n-1))
		right(t, "#"+strings.Repeat("\"", n-2)+"\n")
	}
}

// A # begins a remark between tokens, and ends what stands ahead of it; in a quoted text it is no remark.
func TestRemarks(t *testing.T) {
	ab, cd := lex.Token{Kind: word, Text: "ab"}, lex.Token{Kind: word, Text: "cd"}
	right(t, "ab#cd", ab)
	right(t, "ab# cd;", ab)
	cd.At = 3
	right(t, "ab\ncd", ab, cd)
	cd.At = 4
	right(t, "ab#\ncd", ab, cd)
	right(t, "ab \ncd", ab, cd)
	cd.At = 8
	right(t, "ab#cd#e\ncd", ab, cd)
	right(t, "ab# \"\t(\ncd", ab, cd)
	right(t, "\"a\"#\"b\"", lex.Token{Kind: quoted, Text: "a"})
	right(t, "\"a\"#\n\"b\"", lex.Token{Kind: quoted, Text: "a"}, lex.Token{Kind: quoted, Text: "b", At: 5})
	right(t, "2y#d", lex.Token{Kind: days, Text: "2y", N: 730})
	right(t, "(#)\n)", lex.Token{Kind: open, Text: "("}, lex.Token{Kind: closed, Text: ")", At: 4})
	right(t, "#a\r;\n;", lex.Token{Kind: end, Text: ";", At: 5})
	wrong(t, "\"#\"", 0, api.ErrText)
	wrong(t, "\"a#b\"", 0, api.ErrText)
	wrong(t, "\"#\n\"", 0, api.ErrText)
	wrong(t, "a \"b#\nc\"", 2, api.ErrText)
	wrong(t, "\"#", 0, api.ErrText)
	wrong(t, "2#y", 0, api.ErrText)
	wrong(t, "2#\ny", 0, api.ErrText)
	wrong(t, "#\n$", 2, api.ErrText)
	wrong(t, "# $\n\n $", 6, api.ErrText)
}

// Each byte alone, behind a blank, and behind a word.
func TestEachByte(t *testing.T) {
	kinds := map[byte]int{'(': open, ')': closed, ';': end}
	for _, c := range []byte(letters) {
		kinds[c] = word
	}
	ab := lex.Token{Kind: word, Text: "ab"}
	for n := range 256 {
		c := byte(n)
		s := string([]byte{c})
		switch {
		case strings.Contains(" \n\t#", s):
			right(t, s)
			right(t, " "+s)
			right(t, "ab"+s, ab)
		case kinds[c] != 0:
			right(t, s, lex.Token{Kind: kinds[c], Text: s})
			right(t, " "+s, lex.Token{Kind: kinds[c], Text: s, At: 1})
			right(t, "ab "+s, ab, lex.Token{Kind: kinds[c], Text: s, At: 3})
		default:
			wrong(t, s, 0, api.ErrText)
			wrong(t, " "+s, 1, api.ErrText)
			wrong(t, "ab "+s, 3, api.ErrText)
		}
		for _, ahead := range []string{"", " ", "ab", "a-", "\"a\"", "2y", "(", ";", "#\n", "#", "\n\t", "a1"} {
			for _, behind := range []string{"", " ", "b", "1d", "\"", "#", "\n;", " $"} {
				all(t, ahead+s+behind)
			}
		}
	}
}

// Words.

func TestWords(t *testing.T) {
	for _, s := range []string{"a", "z", "m", "aa", "zz", "a0", "z9", "a-", "a_", "a--", "a__", "a-_-", "a0123456789", "class", "x-ray_1", "d", "y", "y2", letters, "a" + letters + digits + "-_", "z" + strings.Repeat("-", 20), strings.Repeat("word", 150), "a" + strings.Repeat("9", 599)} {
		right(t, s, lex.Token{Kind: word, Text: s})
		if len(s) < mostText-2 {
			right(t, "\n "+s, lex.Token{Kind: word, Text: s, At: 2})
		}
	}
	for _, c := range []byte(letters) {
		right(t, string([]byte{c}), lex.Token{Kind: word, Text: string([]byte{c})})
		for _, k := range []byte(letters + digits + "-_") {
			s := string([]byte{c, k})
			right(t, s, lex.Token{Kind: word, Text: s})
			right(t, s+"("+s, lex.Token{Kind: word, Text: s}, lex.Token{Kind: open, Text: "(", At: 2}, lex.Token{Kind: word, Text: s, At: 3})
		}
	}
}

// A word goes on with its own bytes, and with no other.
func TestWordsAndOtherBytes(t *testing.T) {
	for _, s := range []string{"a", "z", "a-", "a_", "a9", "keep", letters + digits + "-_"} {
		for n := range 256 {
			c := string([]byte{byte(n)})
			first := lex.Token{Kind: word, Text: s}
			switch {
			case strings.Contains(letters+digits+"-_", c):
				right(t, s+c, lex.Token{Kind: word, Text: s + c})
			case strings.Contains(" \n\t#", c):
				right(t, s+c, first)
				right(t, s+c+"\nb", first, lex.Token{Kind: word, Text: "b", At: len(s) + 2})
			case strings.Contains("();", c):
				right(t, s+c, first, lex.Token{Kind: open + strings.Index("();", c), Text: c, At: len(s)})
			default:
				wrong(t, s+c, len(s), api.ErrText)
				all(t, s+c+"b")
			}
		}
	}
	for _, s := range []string{"A", "aB", "-a", "_a", ".a", "a.b", "a,b", "a/b", "\u00e4", "a\u00e4", "a\r", "a\x00", "a:", "a{", "a`", "a@", "a["} {
		wrong(t, s, strings.IndexFunc(s, func(c rune) bool { return !strings.ContainsRune(letters, c) }), api.ErrText)
	}
}

// Quoted texts.

func TestQuoted(t *testing.T) {
	for n := 1; n <= mostName; n++ {
		for _, c := range []string{"a", "z", "0", "9", ".", "-", "_"} {
			s := strings.Repeat(c, n)
			right(t, `"`+s+`"`, lex.Token{Kind: quoted, Text: s})
			right(t, ` "`+s+`" `, lex.Token{Kind: quoted, Text: s, At: 1})
			wrong(t, `"`+s, 0, api.ErrText)
			wrong(t, ` "`+s, 1, api.ErrText)
			wrong(t, `"`+s+"\n\"", 0, api.ErrText)
			wrong(t, "\"\n"+s+`"`, 0, api.ErrText)
			wrong(t, `"`+s+` "`, 0, api.ErrText)
			wrong(t, `" `+s+`"`, 0, api.ErrText)
		}
	}
	for _, n := range []int{mostName + 1, mostName + 2, 2 * mostName, 255, 256, 257, 272, 598} {
		wrong(t, `"`+strings.Repeat("a", n)+`"`, 0, api.ErrText)
		wrong(t, `"`+strings.Repeat("a", n), 0, api.ErrText)
	}
	for _, s := range []string{`""`, `"`, `"""`, `""a"`, "\"\n\"", `" "`, `"a b"`, `"a`, `"a `, "\"a\n", `"a'`, `'a'`, "`a`", `"A"`, `"aB"`, `"a,b"`, `"\u00e4"`, "\"\u00e4\"", "\"a\x00\"", "\"\xff\"", `"(a)"`, `"a;b"`} {
		wrong(t, s, 0, api.ErrText)
		all(t, s)
	}
	wrong(t, `"a"b"`, 4, api.ErrText)
	wrong(t, `"a"""`, 3, api.ErrText)
	wrong(t, `a""`, 1, api.ErrText)
	right(t, `"a""b"`, lex.Token{Kind: quoted, Text: "a"}, lex.Token{Kind: quoted, Text: "b", At: 3})
	right(t, `"class""2y"`, lex.Token{Kind: quoted, Text: "class"}, lex.Token{Kind: quoted, Text: "2y", At: 7})
}

// Each byte in a quoted text: alone, at its ends, in the midst; those that a name may have, and all others.
func TestQuotedOfEachByte(t *testing.T) {
	for n := range 256 {
		c := string([]byte{byte(n)})
		for _, s := range []string{c, c + "a", "a" + c, "a" + c + "b", c + strings.Repeat("a", mostName-1), strings.Repeat("a", mostName-1) + c} {
			switch {
			case strings.Contains(letters+digits+".-_", c):
				right(t, `"`+s+`"`, lex.Token{Kind: quoted, Text: s})
				right(t, `;"`+s+`"b`, lex.Token{Kind: end, Text: ";"}, lex.Token{Kind: quoted, Text: s, At: 1}, lex.Token{Kind: word, Text: "b", At: 3 + len(s)})
			case c == `"`:
				all(t, `"`+s+`"`)
			default:
				wrong(t, `"`+s+`"`, 0, api.ErrText)
				wrong(t, `;"`+s+`"b`, 1, api.ErrText)
			}
			wrong(t, `"`+c, 0, api.ErrText)
		}
		all(t, `"a`+c)
		all(t, `"a"`+c)
		all(t, `"a"`+c+"b")
	}
}

// Spans.

func TestSpans(t *testing.T) {
	for s, n := range map[string]int{
		"0d": 0, "0w": 0, "0m": 0, "0y": 0, "1d": 1, "1w": 7, "1m": 30, "1y": 365, "9d": 9, "10d": 10, "90d": 90, "123d": 123, "1234w": 8638, "12345m": 370350, "2y": 730,
		"123456d": 123456, "1000000d": 1000000, "1048576d": 1048576, "149796w": 1048572, "34952m": 1048560, "2872y": 1048280,
	} {
		right(t, s, lex.Token{Kind: days, Text: s, N: n})
		right(t, "; "+s, lex.Token{Kind: end, Text: ";"}, lex.Token{Kind: days, Text: s, N: n, At: 2})
		right(t, s+"a", lex.Token{Kind: days, Text: s, N: n}, lex.Token{Kind: word, Text: "a", At: len(s)})
		right(t, s+s, lex.Token{Kind: days, Text: s, N: n}, lex.Token{Kind: days, Text: s, N: n, At: len(s)})
		right(t, s+";", lex.Token{Kind: days, Text: s, N: n}, lex.Token{Kind: end, Text: ";", At: len(s)})
		right(t, s+"\n", lex.Token{Kind: days, Text: s, N: n})
		wrong(t, s+"$", len(s), api.ErrText)
		wrong(t, s+"1", len(s), api.ErrText)
	}
	right(t, "1d2w3m4y", lex.Token{Kind: days, Text: "1d", N: 1}, lex.Token{Kind: days, Text: "2w", N: 14, At: 2}, lex.Token{Kind: days, Text: "3m", N: 90, At: 4}, lex.Token{Kind: days, Text: "4y", N: 1460, At: 6})
	right(t, "2years", lex.Token{Kind: days, Text: "2y", N: 730}, lex.Token{Kind: word, Text: "ears", At: 2})
	wrong(t, "2y-1", 2, api.ErrText)
}

func TestSpansThatAreTooGreat(t *testing.T) {
	for _, s := range []string{"1048577d", "9999999d", "149797w", "1048576w", "9999999w", "34953m", "9999999m", "2873y", "9999999y", "1000000y"} {
		wrong(t, s, 0, api.ErrTime)
		wrong(t, "a "+s, 2, api.ErrTime)
		wrong(t, s+" $", 0, api.ErrTime)
		wrong(t, "1d"+s, 2, api.ErrTime)
		wrong(t, s+s, 0, api.ErrTime)
		wrong(t, "$"+s, 0, api.ErrText)
		wrong(t, s+"01d", 0, api.ErrTime)
		wrong(t, "01d"+s, 0, api.ErrText)
		wrong(t, s[:len(s)-1]+"x", 0, api.ErrText)
		wrong(t, s[:len(s)-1], 0, api.ErrText)
		wrong(t, "0"+s, 0, api.ErrText)
	}
}

// Digits of all lengths, with each byte behind them, and with none.
func TestDigitsAndEachByte(t *testing.T) {
	for n := 1; n <= 10; n++ {
		for _, s := range []string{strings.Repeat("1", n), strings.Repeat("9", n), strings.Repeat("0", n), "0" + strings.Repeat("1", n-1), "1" + strings.Repeat("0", n-1), (digits + digits)[n : 2*n]} {
			wrong(t, s, 0, api.ErrText)
			wrong(t, "a "+s, 2, api.ErrText)
			wrong(t, "("+s, 1, api.ErrText)
			for c := range 256 {
				behind := s + string([]byte{byte(c)})
				if !strings.Contains("dwmy", behind[n:]) {
					wrong(t, behind, 0, api.ErrText)
				}
				all(t, behind)
				all(t, behind+"d")
				all(t, "b "+behind)
			}
			for _, unit := range []string{"d", "w", "m", "y"} {
				if n > 7 || n > 1 && s[0] == '0' {
					wrong(t, s+unit, 0, api.ErrText)
					wrong(t, ";"+s+unit+"$", 1, api.ErrText)
				}
			}
		}
	}
	for _, s := range []string{strings.Repeat("0", 599) + "d", strings.Repeat("9", 599) + "y", strings.Repeat("1", 600), "00d", "01d", "2 y", "2\ny", "2\ty", "2(y", "2Y", "2D", "2\"y\"", "2-y", "2_y", "2.y", "2.5y", "2;y", "2h", "2xy", "2dd2", "1048577x", "18446744073709551617d", "4294967297d"} {
		all(t, s)
	}
	wrong(t, "2dd 2", 4, api.ErrText)
	wrong(t, "18446744073709551617d", 0, api.ErrText)
}

// Tokens with nothing between them.
func TestNothingBetween(t *testing.T) {
	right(t, `a"b"2y(c)`, lex.Token{Kind: word, Text: "a"}, lex.Token{Kind: quoted, Text: "b", At: 1}, lex.Token{Kind: days, Text: "2y", N: 730, At: 4},
		lex.Token{Kind: open, Text: "(", At: 6}, lex.Token{Kind: word, Text: "c", At: 7}, lex.Token{Kind: closed, Text: ")", At: 8})
	parts := []string{"a", "b-", `"c"`, `"16.letters-long_"`, "1d", "2873y", "0w", "(", ")", ";", "#", "$", `"`, "7", "#\n", " "}
	for _, a := range parts {
		for _, b := range parts {
			for _, c := range parts {
				all(t, a+b+c)
				all(t, a+" "+b+c)
				all(t, a+b+"\n"+c)
			}
		}
	}
	for _, n := range []int{1, 2, 599, 600} {
		var l []lex.Token
		for i := range n {
			l = append(l, lex.Token{Kind: open + i%3, Text: "();"[i%3 : i%3+1], At: i})
		}
		right(t, strings.Repeat("();", 200)[:n], l...)
	}
}

// Of several wrong tokens the first one tells the place, and the error.
func TestFirstWrongToken(t *testing.T) {
	bad := map[string]api.Errno{"$": api.ErrText, "Q": api.ErrText, "\"Q\"": api.ErrText, "\"\"": api.ErrText, "12 ": api.ErrText, "2x": api.ErrText, "02y": api.ErrText, "2873y": api.ErrTime, "9999999d": api.ErrTime, "\xff": api.ErrText, "-": api.ErrText, "\r": api.ErrText}
	for _, ahead := range []string{"", " ", "a ", "a", "\"b\"", "(", "1d", "# $ \"\n", "a\n\tb;\n"} {
		for a, e := range bad {
			if ahead == "a" && strings.Trim(a[:1], digits+"-") == "" { // the word goes on
				all(t, ahead+a)
				continue
			}
			wrong(t, ahead+a, len(ahead), e)
			for b := range bad {
				wrong(t, ahead+a+" "+b, len(ahead), e)
				wrong(t, ahead+a+" ok "+b, len(ahead), e)
			}
		}
	}
}

// Lengths.

func TestLongTexts(t *testing.T) {
	for _, n := range []int{mostText + 1, mostText + 2, 2 * mostText, 1 << 16, 1<<16 + 27, 1 << 20} {
		for _, s := range []string{"a", " ", "\n", "\t", "#", "(", ";", "2y", "2y ", `"a"`, "$", "9", `"`, "Q", "\x00", "\xff", "#\n", "\u00fc"} {
			long := strings.Repeat(s, n)[:n]
			wrong(t, long, 0, api.ErrLong)
			wrong(t, "$"+long[1:], 0, api.ErrLong)
			wrong(t, long[:n-1]+"$", 0, api.ErrLong)
			wrong(t, " "+long[1:], 0, api.ErrLong)
			wrong(t, long[:n-1]+" ", 0, api.ErrLong)
			wrong(t, long[:n-1]+"\n", 0, api.ErrLong)
		}
	}
}

func TestTextsAsLongAsMayBe(t *testing.T) {
	for n := mostText - 20; n <= mostText; n++ {
		s := strings.Repeat("a", n)
		right(t, s, lex.Token{Kind: word, Text: s})
		right(t, s[:n-1]+";", lex.Token{Kind: word, Text: s[:n-1]}, lex.Token{Kind: end, Text: ";", At: n - 1})
		wrong(t, s[:n-1]+"$", n-1, api.ErrText)
		wrong(t, s[:n-2]+" 7", n-1, api.ErrText)
		wrong(t, s[:n-1]+`"`, n-1, api.ErrText)
		wrong(t, s[:n-6]+" 2873y", n-5, api.ErrTime)
		right(t, s[:n-3]+`"b"`, lex.Token{Kind: word, Text: s[:n-3]}, lex.Token{Kind: quoted, Text: "b", At: n - 3})
		right(t, strings.Repeat(" ", n-2)+"2y", lex.Token{Kind: days, Text: "2y", N: 730, At: n - 2})
		wrong(t, "$"+s[1:], 0, api.ErrText)
		for _, part := range []string{"2y", "a ", `"a"`, "#\n", "a#\n;", "1d(", "$ ", "\n\t"} {
			all(t, strings.Repeat(part, n)[:n])
			all(t, strings.Repeat(part, n)[1:n+1])
		}
	}
	right(t, "#"+strings.Repeat("\u00fc", 299)+"x")
	wrong(t, "#"+strings.Repeat("\u00fc", 300), 0, api.ErrLong) // fewer letters than MaxText, but more bytes
}

// Rules that hold everywhere, 3 and 4.

// What is answered shares nothing with the text: the bytes of this one are changed behind the answer.
func TestNothingIsShared(t *testing.T) {
	const s = "class \"hr\" keep (2y after a)# b\n;"
	want, _, _ := reckoned(s)
	b := []byte(s)
	l, _, e := lex.All(unsafe.String(&b[0], len(b)))
	if string(b) != s {
		t.Errorf("what was handed in is %q behind it", b)
	}
	for i := range b {
		b[i] = '$'
	}
	if e != api.OK || !slices.Equal(l, want) {
		t.Errorf("the tokens turn with the text: %v, error %d", l, e)
	}
	other, _, _ := lex.All(s)
	for i := range l {
		l[i] = lex.Token{}
	}
	l = append(l[:0], lex.Token{Kind: end, Text: "?"})
	if !slices.Equal(other, want) {
		t.Errorf("two answers share their tokens: %v", other)
	}
	right(t, s, want...)
}

// The same is answered again, whatever was asked between.
func TestAgain(t *testing.T) {
	for range 3 {
		right(t, "a 2y", lex.Token{Kind: word, Text: "a"}, lex.Token{Kind: days, Text: "2y", N: 730, At: 2})
		wrong(t, "a $", 2, api.ErrText)
		wrong(t, "a 2873y", 2, api.ErrTime)
		wrong(t, strings.Repeat("a", mostText+1), 0, api.ErrLong)
		right(t, "")
		right(t, ";", lex.Token{Kind: end, Text: ";"})
	}
}
