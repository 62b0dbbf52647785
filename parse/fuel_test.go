package parse_test

import (
	"hanaper/api"
	"math"
	"strings"
	"testing"
)

// fueled asks that s, with the fuel 0, 1, and so on, ends for want of fuel at these places, and with more as is said.
func fueled(t *testing.T, s string, places []int, want []api.Rule, place int, err api.Errno) {
	t.Helper()
	for fuel, at := range places {
		rulesTo(t, s, fuel, nil, at, api.ErrFuel)
	}
	if len(places) > 0 {
		for _, fuel := range []int{-1, -2, -1 << 31, -1 << 32, math.MinInt + 1, math.MinInt} {
			rulesTo(t, s, fuel, nil, places[0], api.ErrFuel)
		}
	}
	for _, more := range []int{0, 1, 2, 3, 10, 1 << 16, 1 << 32} {
		rulesTo(t, s, len(places)+more, want, place, err)
	}
	rulesTo(t, s, math.MaxInt, want, place, err)
	cost := 0
	if err == api.OK {
		cost = len(places)
	}
	costTo(t, s, cost, err)
}

// P18.2 and P18.4: with each fuel, by hand. A condition's beginning is asked for at the place of its first token.
func TestFuelOfRightTexts(t *testing.T) {
	a, b := after(1, "a"), after(2, "b")
	fueled(t, "", nil, nil, 0, api.OK)
	fueled(t, " # a\n", nil, nil, 5, api.OK)
	fueled(t, "default keep 1d after a then keep;", []int{0, 8, 13, 13, 16, 22, 24, 29, 33}, []api.Rule{of("", a, keep)}, 34, api.OK)
	fueled(t, ` class "hr" keep 1d after a then keep ; `, []int{1, 7, 12, 17, 17, 20, 26, 28, 33, 38}, []api.Rule{of("hr", a, keep)}, 40, api.OK)
	fueled(t, "default keep 1d after a or 2d after b then keep;", []int{0, 8, 13, 13, 16, 22, 24, 27, 30, 36, 38, 43, 47}, []api.Rule{of("", or(a, b), keep)}, 48, api.OK)
	fueled(t, "default keep 1d after a and 2d after b then keep;", []int{0, 8, 13, 13, 16, 22, 24, 28, 31, 37, 39, 44, 48}, []api.Rule{of("", and(a, b), keep)}, 49, api.OK)
	fueled(t, "default keep (1d after a) then keep;", []int{0, 8, 13, 13, 14, 14, 17, 23, 24, 26, 31, 35}, []api.Rule{of("", a, keep)}, 36, api.OK)
	fueled(t, "default keep ( (1d after a)) then keep;", []int{0, 8, 13, 13, 15, 15, 16, 16, 19, 25, 26, 27, 29, 34, 38}, []api.Rule{of("", a, keep)}, 39, api.OK)
	fueled(t, "default keep 2d after b or ( 1d after a) then keep;", []int{0, 8, 13, 13, 16, 22, 24, 27, 29, 29, 32, 38, 39, 41, 46, 50}, []api.Rule{of("", or(b, a), keep)}, 51, api.OK)
	fueled(t, "default keep 1d after a then keep; class\n\"hr\"keep 2d after b then review;#",
		[]int{0, 8, 13, 13, 16, 22, 24, 29, 33, 35, 41, 45, 50, 50, 53, 59, 61, 66, 72}, []api.Rule{of("", a, keep), of("hr", b, review)}, 74, api.OK)
}

// Fuel is asked for ahead of what may not stand, and of what is not there.
func TestFuelOfWrongTexts(t *testing.T) {
	for _, x := range []struct {
		s      string
		places []int
		at     int
	}{
		{"x", []int{0}, 0},
		{" keep", []int{1}, 1},
		{";", []int{0}, 0},
		{"default", []int{0, 7}, 7},
		{"default ", []int{0, 8}, 8},
		{"default default", []int{0, 8}, 8},
		{"class", []int{0, 5}, 5},
		{"class hr", []int{0, 6}, 6},
		{`class "hr"`, []int{0, 6, 10}, 10},
		{`class "hr" # keep`, []int{0, 6, 17}, 17},
		{"default keep", []int{0, 8, 12, 12}, 12},
		{"default keep\n", []int{0, 8, 13, 13}, 13},
		{"default keep then", []int{0, 8, 13, 13}, 13},
		{"default keep )", []int{0, 8, 13, 13}, 13},
		{"default keep (", []int{0, 8, 13, 13, 14, 14}, 14},
		{"default keep ( ", []int{0, 8, 13, 13, 15, 15}, 15},
		{"default keep ( )", []int{0, 8, 13, 13, 15, 15}, 15},
		{"default keep 1d", []int{0, 8, 13, 13, 15}, 15},
		{"default keep 1d 1d", []int{0, 8, 13, 13, 16}, 16},
		{"default keep 1d after", []int{0, 8, 13, 13, 16, 21}, 21},
		{"default keep 1d after then", []int{0, 8, 13, 13, 16, 22}, 22},
		{"default keep 1d after a", []int{0, 8, 13, 13, 16, 22, 23}, 23},
		{"default keep 1d after a ", []int{0, 8, 13, 13, 16, 22, 24}, 24},
		{"default keep 1d after a )", []int{0, 8, 13, 13, 16, 22, 24}, 24},
		{"default keep 1d after a ;", []int{0, 8, 13, 13, 16, 22, 24}, 24},
		{"default keep 1d after a or", []int{0, 8, 13, 13, 16, 22, 24, 26}, 26},
		{"default keep 1d after a or or", []int{0, 8, 13, 13, 16, 22, 24, 27}, 27},
		{"default keep 1d after a and", []int{0, 8, 13, 13, 16, 22, 24, 27}, 27},
		{"default keep 1d after a and (", []int{0, 8, 13, 13, 16, 22, 24, 28, 29, 29}, 29},
		{"default keep (1d after a", []int{0, 8, 13, 13, 14, 14, 17, 23, 24}, 24},
		{"default keep (1d after a then", []int{0, 8, 13, 13, 14, 14, 17, 23, 25}, 25},
		{"default keep 1d after a then", []int{0, 8, 13, 13, 16, 22, 24, 28}, 28},
		{"default keep 1d after a then ;", []int{0, 8, 13, 13, 16, 22, 24, 29}, 29},
		{"default keep 1d after a then keep", []int{0, 8, 13, 13, 16, 22, 24, 29, 33}, 33},
		{"default keep 1d after a then keep keep", []int{0, 8, 13, 13, 16, 22, 24, 29, 34}, 34},
		{"default keep 1d after a then keep;;", []int{0, 8, 13, 13, 16, 22, 24, 29, 33, 34}, 34},
		{"default keep 1d after a then keep; x", []int{0, 8, 13, 13, 16, 22, 24, 29, 33, 35}, 35},
		{"default keep((((((((1d after a))))))))then keep;", []int{0, 8, 12, 12, 13, 13, 14, 14, 15, 15, 16, 16, 17, 17, 18, 18, 19, 19, 20}, 20},
	} {
		fueled(t, x.s, x.places, nil, x.at, api.ErrText)
	}
}

// What rules may not be is told behind all fuel that they take.
func TestFuelOfRulesThatMayNotBe(t *testing.T) {
	fueled(t, "default keep 1d after a then keep; default keep 1d after a then keep;",
		[]int{0, 8, 13, 13, 16, 22, 24, 29, 33, 35, 43, 48, 48, 51, 57, 59, 64, 68}, nil, 0, api.ErrThere)
	for s, err := range map[string]api.Errno{
		many(mostRules + 1): api.ErrMany,
		"default keep " + row(mostNodes, "or") + " then keep;":      api.ErrArg,
		"default keep " + deepest(mostDepth+1) + " then keep;":      api.ErrArg,
		strings.Repeat("default keep 0d after a then keep;", 2):     api.ErrThere,
		strings.Repeat(`class "then"keep(0y after x)then keep;`, 9): api.ErrThere,
	} {
		fueled(t, s, reckoned(s).places, nil, 0, err)
	}
}

// What each token and each condition costs.
func TestCost(t *testing.T) {
	for n := 1; n <= mostRules; n++ {
		costTo(t, many(n), 10*n, api.OK)
	}
	for n := 1; n < mostNodes; n++ {
		costTo(t, "default keep "+row(n, "or")+" then keep;", 5+4*n, api.OK)
		costTo(t, "default keep "+row(n, "and")+" then review;", 5+4*n, api.OK)
	}
	for n := range mostDepth {
		costTo(t, bracketed(n), 9+3*n, api.OK)
	}
	// Each fact in as many brackets as may be, so that the text costs nearly as much as it has bytes.
	for n := 1; n < mostNodes-1; n++ {
		s := "default keep " + strings.Repeat("(((((((0d after a)))))))or", n-1) + "(((((((0d after a)))))))then keep;"
		costTo(t, s, 5+25*n, api.OK)
		rulesTo(t, s, 5+25*n-1, nil, len(s)-1, api.ErrFuel)
	}
	costTo(t, "default keep (1d after a) or (2d after b) and ((3d after c)) then keep;", 8+1+2*4+4*3, api.OK)
}

// Of texts that are wrong in each way 0, and the error.
func TestCostOfWrongTexts(t *testing.T) {
	for s, err := range map[string]api.Errno{
		strings.Repeat(" ", mostText+1):       api.ErrLong,
		"$":                                   api.ErrText,
		"default keep 2873y":                  api.ErrTime,
		"x":                                   api.ErrText,
		"default":                             api.ErrText,
		"default keep":                        api.ErrText,
		"default keep (":                      api.ErrText,
		"default keep 1d after a":             api.ErrText,
		"default keep 1d after a then keep":   api.ErrText,
		"default keep 1d after a then keep;;": api.ErrText,
		bracketed(mostDepth):                  api.ErrText,
		many(mostRules + 1):                   api.ErrMany,
		many(1) + many(1):                     api.ErrThere,
		"default keep " + row(24, "and") + " then keep;": api.ErrArg,
		"default keep " + deepest(9) + " then keep;":     api.ErrArg,
	} {
		costTo(t, s, 0, err)
	}
}
