package event_test

import (
	"hanaper/event"
	"strings"
	"testing"
)

// P23.2, Text.

func textTo(t *testing.T, kind, tick int, a, b, want string) {
	t.Helper()
	if s := event.Text(ev(kind, tick, a, b)); s != want {
		t.Errorf("Text(%s): %q, not %q", shown(ev(kind, tick, a, b)), s, want)
	}
}

func TestTextByHand(t *testing.T) {
	textTo(t, 10, 5, "r", "", "5 purge r") // the chapter's example
	textTo(t, 1, 0, "", "", "0 schedule")
	textTo(t, 2, 9, "c1", "", "9 case c1")
	textTo(t, 3, 10, "s", "", "10 subject s")
	textTo(t, 4, 7, "r", "hr", "7 ingest r hr")
	textTo(t, 5, 100, "c1", "closed", "100 mile c1 closed")
	textTo(t, 6, 7, "r", "hr", "7 reclass r hr")
	textTo(t, 7, 1, "h", "", "1 hold h")
	textTo(t, 8, 2, "h", "", "2 release h")
	textTo(t, 9, 3, "h", "", "3 amend h")
	textTo(t, 11, 255, "r", "", "255 erase r")
	textTo(t, 12, 256, "s", "", "256 shred s")
	textTo(t, 13, 1099511627775, "r", "", "1099511627775 keep r")
	textTo(t, 14, 1099511627776, "119", "", "1099511627776 redact 119")
	textTo(t, 14, 0, "", "x", "0 redact x")
	textTo(t, 13, 0, "x", "x", "0 keep x x")
	textTo(t, 8, 1000000, ".", "-", "1000000 release . -")
}

// Each kind's word, with A and B each empty or not, at the edges of ticks.
func TestTextOfEachKind(t *testing.T) {
	for i, word := range wordsOf() {
		for tick, digits := range map[int]string{0: "0", 9: "9", 10: "10", 90: "90", 12345: "12345", 1099511627775: "1099511627775", 1099511627776: "1099511627776"} {
			textTo(t, i+1, tick, "", "", digits+" "+word)
			textTo(t, i+1, tick, "r", "", digits+" "+word+" r")
			textTo(t, i+1, tick, "", "hr", digits+" "+word+" hr")
			textTo(t, i+1, tick, "r", "hr", digits+" "+word+" r hr")
			textTo(t, i+1, tick, longName, longName, digits+" "+word+" "+longName+" "+longName)
			textTo(t, i+1, tick, word, word, digits+" "+word+" "+word+" "+word)
		}
	}
}

// One blank between each two words, none ahead and none behind.
func TestTextsBlanks(t *testing.T) {
	for _, x := range some() {
		s := event.Text(x)
		words := 2
		for _, name := range []string{x.A, x.B} {
			if name != "" {
				words++
			}
		}
		if l := strings.Split(s, " "); len(l) != words || strings.Join(strings.Fields(s), " ") != s {
			t.Errorf("Text(%s): %q", shown(x), s)
		}
	}
}

func TestTextOfWhatMayNotBe(t *testing.T) {
	for _, kind := range notKinds() {
		textTo(t, kind, 5, "r", "hr", "")
	}
	for _, tick := range notTicks() {
		textTo(t, evPurge, tick, "r", "hr", "")
	}
	for _, name := range notNames() {
		textTo(t, evPurge, 5, name, "", "")
		textTo(t, evPurge, 5, "", name, "")
		textTo(t, evPurge, 5, "r", name, "")
	}
}

// P23.2, Ends.

func endsTo(t *testing.T, kind, tick int, a, b string, want bool) {
	t.Helper()
	if event.Ends(ev(kind, tick, a, b)) != want {
		t.Errorf("Ends(%s): %v", shown(ev(kind, tick, a, b)), !want)
	}
}

func TestEnds(t *testing.T) {
	for kind := -20; kind < 300; kind++ {
		for _, tick := range []int{0, 5, mostClock} {
			for _, a := range few() {
				for _, b := range few() {
					endsTo(t, kind, tick, a, b, kind == 10 || kind == 11)
				}
			}
		}
	}
	for _, kind := range notKinds() {
		endsTo(t, kind, 5, "r", "", false)
	}
}

func TestEndsOfWhatMayNotBe(t *testing.T) {
	for _, kind := range []int{evPurge, evErase, evShred, evKeep} {
		for _, tick := range notTicks() {
			endsTo(t, kind, tick, "r", "", false)
			endsTo(t, kind, tick, "", "", false)
		}
		for _, name := range notNames() {
			endsTo(t, kind, 5, name, "", false)
			endsTo(t, kind, 5, "", name, false)
			endsTo(t, kind, 5, "r", name, false)
		}
	}
}
