package span_test

import (
	"hanaper/api"
	"hanaper/span"
	"math"
	"math/rand"
	"regexp"
	"strconv"
	"strings"
	"testing"
)

// textTo holds Text against what the document asks.
func textTo(t *testing.T, days int, want string) {
	t.Helper()
	if s := span.Text(days); s != want {
		t.Errorf("Text(%d): %q, not %q", days, s, want)
	}
}

// parseTo holds Parse against what the document asks; beside an error that is 0.
func parseTo(t *testing.T, s string, want int, err api.Errno) {
	t.Helper()
	if n, e := span.Parse(s); n != want || e != err {
		t.Errorf("Parse(%q): %d, %d, not %d, %d", short(s), n, e, want, err)
	}
}

// short is a text as the tests' messages show it: of a long one only the beginning.
func short(s string) string {
	if len(s) > 60 {
		return s[:60] + " .. of " + strconv.Itoa(len(s))
	}
	return s
}

var spanText = regexp.MustCompile(`^(0|[1-9][0-9]{0,6})([dwmy])$`)

// parse holds Parse against the tests' own reckoning.
func parse(t *testing.T, s string) {
	t.Helper()
	parts := spanText.FindStringSubmatch(s)
	if parts == nil {
		parseTo(t, s, 0, api.ErrText)
		return
	}
	n, _ := strconv.Atoi(parts[1])
	want, e := reckonDays(n, parts[2][0])
	parseTo(t, s, want, e)
}

// texts are Text of all numbers from 0 to MaxDays: how often a unit goes is told at each of its multiples, by the greatest unit at the end.
func texts() []string {
	l := make([]string, mostDays+1)
	for i := range units {
		each := daysOf(units[i])
		for n := 1; n*each <= mostDays; n++ {
			l[n*each] = strconv.Itoa(n) + units[i:i+1]
		}
	}
	l[0] = "0d"
	return l
}

// P15.2: Text, and what P15.4 says of it.

func TestExamples(t *testing.T) {
	textTo(t, 730, "2y")
	textTo(t, 60, "2m")
	textTo(t, 8, "8d")
	parseTo(t, "3w", 21, api.OK)
}

func TestTextByHand(t *testing.T) {
	for days, want := range map[int]string{
		0: "0d", 1: "1d", 2: "2d", 6: "6d", 7: "1w", 8: "8d", 14: "2w", 21: "3w", 28: "4w", 29: "29d", 30: "1m", 31: "31d", 35: "5w",
		60: "2m", 70: "10w", 210: "7m", 360: "12m", 364: "52w", 365: "1y", 366: "366d", 371: "53w", 390: "13m", 730: "2y", 1095: "3y",
		2190: "6y", 2555: "7y", 3650: "10y", 15330: "42y", 10950: "30y", 999999: "142857w", 1000000: "1000000d",
		1048280: "2872y", 1048281: "1048281d", 1048560: "34952m", 1048572: "149796w", 1048575: "1048575d", 1048576: "1048576d",
	} {
		textTo(t, days, want)
		parseTo(t, want, days, api.OK)
	}
}

// All numbers, each told as a text, and the text read.
func TestTextOfAllNumbers(t *testing.T) {
	for days, want := range texts() {
		textTo(t, days, want)
		parseTo(t, span.Text(days), days, api.OK)
	}
}

func TestTextOfOtherNumbers(t *testing.T) {
	for _, days := range edges() {
		if days < 0 || days > mostDays {
			textTo(t, days, "")
		}
	}
	for _, each := range []int{1, 7, 30, 365} {
		for n := 1; n < 400; n++ {
			textTo(t, -n*each, "")
			textTo(t, mostDays/each*each+n*each, "")
		}
	}
	for _, days := range []int{-1, mostDays + 1, math.MinInt, math.MaxInt, 1 << 32, 1<<32 + 7, -1<<32 + 7, 1<<21 + 365} {
		textTo(t, days, "")
	}
}

// P15.2: Parse.

func TestParseByHand(t *testing.T) {
	for s, want := range map[string]int{
		"0d": 0, "0w": 0, "0m": 0, "0y": 0, "1d": 1, "1w": 7, "1m": 30, "1y": 365, "7d": 7, "9d": 9, "10d": 10, "30d": 30, "365d": 365,
		"2y": 730, "12w": 84, "105m": 3150, "52w": 364, "99y": 36135, "1000d": 1000, "12345d": 12345, "123456d": 123456, "1000000d": 1000000,
		"1048575d": 1048575, "1048576d": 1048576, "149796w": 1048572, "34952m": 1048560, "2872y": 1048280,
	} {
		parseTo(t, s, want, api.OK)
		parse(t, s)
	}
	for _, s := range []string{
		"1048577d", "1048580d", "9999999d", "149797w", "1048576w", "9999999w", "34953m", "9999999m", "2873y", "9999999y", "1999999y", "1000000w",
	} {
		parseTo(t, s, 0, api.ErrTime)
		parse(t, s)
	}
}

// Texts that are none, also of numbers that would be above MaxDays: ErrText comes ahead of ErrTime, and of what Days says of a byte that is no unit.
func TestParseOfWrongTexts(t *testing.T) {
	for _, s := range []string{
		"", "d", "w", "m", "y", "x", "0", "7", "10", "1048576", "12345678", "dd", "d1", "d1d", "1dd", "1d1", "1wd", "1yw", "10md", "1w1d", "1y 1d",
		"00d", "01d", "00", "007w", "000000d", "0000000d", "0000001d", "00000000d", "00000001d", "01048577d", "09999999y", "08w", "010m",
		"+1d", "-1d", "+0d", "-0d", "--1d", "1-d", "1+d", "- 1d", "+1048577d", "-9999999y", "1_0d", "_1d", "1,0d", "1.0d", ".5d", "1e3d", "0x1d", "0b1d", "0o7d", "1.d",
		" 1d", "1 d", "1d ", " d", "1\td", "1d\n", "\n1d", "1\nd", "1d\r", "1d\x00", "\x001d", "1\x00d", "1 048 576d",
		"1D", "1W", "1M", "1Y", "D", "1048577D", "1h", "1s", "1x", "1c", "1e", "1f", "1v", "1l", "1n", "1z", "1a", "9999999x", "1/", "1:", "1 ", "10", "1`", "1{",
		"/d", ":d", "1/d", "1:d", "/1d", ":1d", "1\xff", "1\xffd", "\xffd", "1\x80d", "1d\x80", "\xb1d", "1\xe4", "1\xe4d", "1\u0664d", "\uff11d", "1\uff44", "\u0661d", "1\u00e4",
		"12345678d", "12345678w", "12345678m", "12345678y", "10000000d", "99999999y", "123456789d", "1234567890d", "18446744073709551617d", "4294967297d", "36893488147419103233w",
		"12345678", "12345678x", "1234567x", "0d0d", "d0", "y2", "2 y", "two y", "1da", "1day", "1days", "3w\x00",
	} {
		parseTo(t, s, 0, api.ErrText)
		parse(t, s)
	}
}

// One digit to nine, each with each unit, with no unit, and with two.
func TestParseOfAllLengths(t *testing.T) {
	for n := range 10 {
		for _, digit := range []string{"0", "1", "5", "9"} {
			for _, first := range []string{"0", "1", "9"} {
				digits := (first + strings.Repeat(digit, 9))[:n]
				parse(t, digits)
				for _, unit := range units {
					parse(t, digits+string(unit))
					parse(t, digits+string(unit)+"d")
					parse(t, string(unit)+digits)
					parse(t, string(unit)+digits+string(unit))
				}
			}
		}
	}
	for _, n := range []int{256, 263, 1 << 16, 1<<16 + 1, 1 << 20} {
		for _, digit := range []string{"0", "1", "9"} {
			parseTo(t, strings.Repeat(digit, n)+"d", 0, api.ErrText)
			parseTo(t, strings.Repeat(digit, n), 0, api.ErrText)
		}
		parseTo(t, strings.Repeat("d", n), 0, api.ErrText)
		parseTo(t, "1"+strings.Repeat("0", n)+"y", 0, api.ErrText)
		parseTo(t, "1d"+strings.Repeat(" ", n), 0, api.ErrText)
		parseTo(t, strings.Repeat("0", n)+"1d", 0, api.ErrText)
	}
}

// All numbers of up to seven digits, near and far from the bounds of each unit.
func TestParseOfNumbers(t *testing.T) {
	for _, unit := range units {
		for n := 0; n < 10000; n++ {
			parse(t, strconv.Itoa(n)+string(unit))
		}
		for n := 10000; n < 100000000; n += 997 {
			parse(t, strconv.Itoa(n)+string(unit))
		}
		for _, bound := range []int{2872, 34952, 149796, 1048576, 9999999} {
			for n := bound - 200; n <= bound+200; n++ {
				parse(t, strconv.Itoa(n)+string(unit))
				parse(t, "0"+strconv.Itoa(n)+string(unit))
			}
		}
	}
}

// All texts of up to two bytes, and right texts with each byte at each place: in place of another, and put in.
func TestParseOfAllBytes(t *testing.T) {
	for a := range 256 {
		parse(t, string([]byte{byte(a)}))
		for b := range 256 {
			parse(t, string([]byte{byte(a), byte(b)}))
		}
	}
	for _, s := range []string{"0d", "7w", "10d", "365m", "2872y", "149796w", "1048576d", "9999999y"} {
		for i := range len(s) + 1 {
			for c := range 256 {
				parse(t, s[:i]+string([]byte{byte(c)})+s[i:])
				if i < len(s) {
					parse(t, s[:i]+string([]byte{byte(c)})+s[i+1:])
				}
			}
			parse(t, s[:i])
			parse(t, s[i:])
		}
	}
}

func TestParseOfThrownTexts(t *testing.T) {
	d := rand.New(rand.NewSource(152))
	const signs = "00112345678999dddwwmmyy"
	for range 300000 {
		b := make([]byte, d.Intn(11))
		for i := range b {
			b[i] = signs[d.Intn(len(signs))]
			if i < len(b)-1 && d.Intn(8) > 0 {
				b[i] = '0' + byte(d.Intn(10))
			}
			if d.Intn(40) == 0 {
				b[i] = byte(d.Intn(256))
			}
		}
		parse(t, string(b))
	}
}

// P15.4: what is read is told as a text that is read as the same.
func TestWhatIsReadIsTold(t *testing.T) {
	for _, unit := range units {
		for n := 0; n < 40000; n++ {
			days, e := span.Parse(strconv.Itoa(n) + string(unit))
			if e != api.OK {
				continue
			}
			parseTo(t, span.Text(days), days, api.OK)
		}
	}
}
