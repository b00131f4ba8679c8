package tests

import (
	"strings"
	"testing"

	"loop.example/fretwork/impl"
)

func TestJumpsWrittenOut(t *testing.T) {
	for grammar, wants := range map[string]map[string]string{
		`s = "{" (p ("," p)*)? "}"; p = "key" [0-9] ":" s;`: {"": "{", "{": "", "{k": "ey", "{key": "", "{key1": ":{", "{key1:{}": "", "{key1:{},": "key", "{}": "", "}": "", "x": ""},
		`s = "true" | "try" | "false";`:                     {"": "", "t": "r", "tr": "", "tru": "e", "try": "", "true": "", "f": "alse", "fa": "lse", "falsee": ""},
		`s = "abc" [d] [e-f] "g";`:                          {"": "abcd", "abc": "d", "abcd": "", "abcde": "g", "abcdf": "g", "abcdfg": ""},
		// One byte, whichever production it is of.
		`s = "a" x | [a] y | x; x = "ab"; y = "bb";`: {"": "a", "a": "", "aa": "b", "ab": "", "abb": ""},
		// Bytes at the ends of the range.
		`s = [\00] [\ff] "\80";`: {"": "\x00\xff\x80", "\x00": "\xff\x80"},
		// Nothing is forced by what never ends, or by what can be empty.
		`s = "a" ("b" | n) e "c"; n = "x" n; e = ()*;`: {"": "abc", "a": "bc", "ab": "c"},
		`s = s "a" | "b" s | "ab";`:                    {"": "", "a": "b", "b": "", "ba": "b", "bb": ""},
	} {
		c := readCfg(t, grammar)
		for text, want := range wants {
			jumpsTo(t, c, text, want)
		}
	}
}

// Where a sentence ends, the next byte is not forced, even if it is the only one.
func TestJumpsStopWhereASentenceEnds(t *testing.T) {
	for grammar, wants := range map[string]map[string]string{
		`s = "ab" | "abcd";`:         {"": "ab", "a": "b", "ab": "", "abc": "d", "abcd": ""},
		`s = "a"*;`:                  {"": "", "a": "", "aaa": ""},
		`s = "a"+;`:                  {"": "a", "a": ""},
		`s = "a"{3,6};`:              {"": "aaa", "a": "aa", "aaa": "", "aaaa": "", "aaaaaa": ""},
		`s = () | "abc";`:            {"": "", "a": "bc", "abc": ""},
		`s = ();`:                    {"": "", "a": ""},
		`s = "(" s ")" | ();`:        {"": "", "(": "", "()": "", "(()": ")", "((())": ")", "((()": "))"},
		`s = e s "a" | e; e = "b"?;`: {"": "", "b": "", "bb": "", "bba": "", "bbba": "a", "bbbaa": ""},
	} {
		c := readCfg(t, grammar)
		for text, want := range wants {
			jumpsTo(t, c, text, want)
		}
	}
}

func TestJumpsHaveAtMostSoManyBytes(t *testing.T) {
	for length := 1; length <= 80; length++ {
		text := strings.Repeat("abcdefg", 12)[:length]
		c := cfgOf(1, prod(0, text))
		jumpsTo(t, c, "", text[:min(length, 40)])
		jumpsTo(t, c, text[:1], text[1:max(1, min(length, 41))])
		jumpsTo(t, c, text, "")
	}
}

// No text has more than ChartMax bytes, so nothing is forced beyond them.
func TestJumpsOfTheLongestTexts(t *testing.T) {
	text := strings.Repeat("abc", 50)
	c := cfgOf(1, prod(0, text))
	for _, length := range []int{0, 1, 39, 40} {
		jumpsTo(t, c, text[:length], text[length:length+40])
	}
	for _, length := range []int{41, 60, 78, 79, 80} {
		jumpsTo(t, c, text[:length], text[length:80])
	}
	jumpsTo(t, c, text[:81], "")
	jumpsTo(t, c, text, "")
}

func TestJumpsOfInvalidArguments(t *testing.T) {
	for _, c := range invalidCfgs() {
		for _, text := range []string{"", "a", "ab", strings.Repeat("a", 100)} {
			jumpsTo(t, c, text, "")
		}
	}
	for _, c := range []impl.Cfg{cfgOf(1), cfgOf(2, prod(1, "a")), readCfg(t, `s = "a" s;`), readCfg(t, `s = "a" n; n = n;`)} {
		for _, text := range []string{"", "a"} {
			jumpsTo(t, c, text, "")
		}
	}
}

func TestJumpsAreThoseOfTheDocument(t *testing.T) {
	seen := map[bool]int{}
	eachText(t, 800, 4, func(c impl.Cfg, text string) {
		want := slowJump(c, text)
		jumpsTo(t, c, text, want)
		seen[want != ""]++
	})
	hasSeen(t, seen, 500)
}

func TestP54ForcedBytesAreInEverySentence(t *testing.T) {
	forced := 0
	for _, c := range chartCfgs(t, 800) {
		sentences := derived(c, 8)
		for _, text := range textsOf("ab", 4) {
			jump := impl.MaskJump(c, text)
			for _, end := range endsAfter(sentences, text) {
				// A sentence that ends here would not go on with them.
				if !strings.HasPrefix(end, jump) {
					t.Fatalf("%s: %q forces %q, but %q is a sentence", showCfg(c), text, jump, text+end)
				}
				if jump != "" {
					forced++
				}
			}
		}
	}
	if forced < 500 {
		t.Errorf("only %d sentences have forced bytes", forced)
	}
}

func checkAfterJump(t *testing.T, c impl.Cfg, text string) {
	t.Helper()
	jump := impl.MaskJump(c, text)
	ch := hasChart(t, c, text+jump)
	isLongest := len(jump) == impl.MaskMaxJump || len(text)+len(jump) == impl.ChartMax
	if !impl.ChartEnds(c, ch) && len(nextTexts(c, ch)) < 2 && !isLongest {
		t.Fatalf("%s: %q forces %q, but after that %q", showCfg(c), text, jump, nextTexts(c, ch))
	}
}

func TestP55AfterTheForcedBytes(t *testing.T) {
	eachPrefix(t, 800, 4, func(c impl.Cfg, text string, _ impl.Chart) {
		checkAfterJump(t, c, text)
	})
	whole := strings.Repeat("abc", 40)
	for _, c := range []impl.Cfg{cfgOf(1, prod(0, whole)), cfgOf(1, prod(0, whole[:79])), cfgOf(1, prod(0, whole[:80])), cfgOf(1, prod(0, whole[:40]), prod(0, whole[:60]))} {
		for length := 0; length <= 80; length++ {
			if _, ok := impl.ChartOf(c, whole[:length]); ok {
				checkAfterJump(t, c, whole[:length])
			}
		}
	}
}

func TestP56WithinTheForcedBytes(t *testing.T) {
	within := 0
	check := func(c impl.Cfg, text string) {
		t.Helper()
		jump := impl.MaskJump(c, text)
		for cut := range len(jump) + 1 {
			rest := impl.MaskJump(c, text+jump[:cut])
			if len(jump) < impl.MaskMaxJump && rest != jump[cut:] || !strings.HasPrefix(rest, jump[cut:]) {
				t.Fatalf("%s: %q forces %q, but %q forces %q", showCfg(c), text, jump, text+jump[:cut], rest)
			}
			if cut > 0 {
				within++
			}
		}
	}
	eachText(t, 800, 4, check)
	if within < 500 {
		t.Errorf("only %d texts are within forced bytes", within)
	}
	// With as many bytes as there can be, more may follow them.
	whole := strings.Repeat("abc", 40)
	c := cfgOf(1, prod(0, whole))
	for length := 0; length <= 80; length++ {
		check(c, whole[:length])
	}
	jumpsTo(t, c, whole[:5], whole[5:45])
	jumpsTo(t, cfgOf(1, prod(0, whole[:40])), "", whole[:40])
	jumpsTo(t, cfgOf(1, prod(0, whole[:40])), whole[:15], whole[15:40])
}

func TestP60GrammarsOfASingleText(t *testing.T) {
	for _, text := range []string{"a", "ab", "\x00", "\xff\x00\xff", "\"\\]^-", "aaaaaaaaaaaaaaaaaaaa", "abcdefghijklmnopqrst"} {
		half := len(text) / 2
		parts := []impl.Gram{gramOf(quotedPart(text)), gramOf(namePart("x"), quotedPart(text)), gramOf(altPart(quotedPart(text), quotedPart(text))), gramOf(manyPart(quotedPart(text), 1, 1))}
		if half > 0 {
			parts = append(parts, gramOf(seqPart(quotedPart(text[:half]), quotedPart(text[half:]))))
		}
		for _, g := range parts {
			c, ok := impl.CfgOf(g)
			if !ok {
				t.Fatalf("CfgOf of %q fails", impl.GramWrite(g))
			}
			hasSents(t, c, 20, []string{text})
			jumpsTo(t, c, "", text)
			finishes(t, c, "", text)
			for cut := range len(text) + 1 {
				jumpsTo(t, c, text[:cut], text[cut:])
				finishes(t, c, text[:cut], text[cut:])
			}
		}
	}
	// A text that is longer than what is forced at once is forced in two parts.
	long := strings.Repeat("abcdefghijklmnopqrst", 3)
	c := readCfg(t, `s = x x x; x = "abcdefghijklmnopqrst";`)
	jumpsTo(t, c, "", long[:40])
	jumpsTo(t, c, long[:40], long[40:])
	jumpsTo(t, c, long, "")
	finishes(t, c, "", long)
}

func TestP64CompletionsStartWithTheForcedBytes(t *testing.T) {
	forced := 0
	eachText(t, 800, 4, func(c impl.Cfg, text string) {
		end, ok := impl.MaskFinish(c, text)
		jump := impl.MaskJump(c, text)
		if ok && !strings.HasPrefix(end, jump) {
			t.Fatalf("%s: %q forces %q, but is completed by %q", showCfg(c), text, jump, end)
		}
		if ok && jump != "" {
			forced++
		}
	})
	if forced < 500 {
		t.Errorf("only %d completions have forced bytes", forced)
	}
	whole := strings.Repeat("abc", 40)[:80]
	for length := range 81 {
		finishes(t, cfgOf(1, prod(0, whole)), whole[:length], whole[length:])
	}
}
