package lex_test

import (
	"math/rand"
	"regexp"
	"slices"
	"strings"
	"testing"

	"waystone/api"
	"waystone/lex"
)

func wantWords(t *testing.T, text string, want ...string) {
	t.Helper()
	l, n, e := lex.Words(text)
	if e != api.OK || n != len(text) || !slices.Equal(l, want) {
		t.Errorf("%q: %q, %d, error %d; want %q, %d", text, l, n, e, want, len(text))
	}
}

func wantPlace(t *testing.T, text string, want int) {
	t.Helper()
	l, n, e := lex.Words(text)
	if e != api.ErrForm || n != want || len(l) != 0 {
		t.Errorf("%q: %q, %d, error %d; want ErrForm at %d", text, l, n, e, want)
	}
}

// P3.1
func TestWords(t *testing.T) {
	for text, want := range map[string][]string{
		"":                        nil,
		" \t\n \n":                nil,
		"a{b;}# c":                {"a", "{", "b", ";", "}"},
		"set a.b/c # x\n{;":       {"set", "a.b/c", "{", ";"},
		"one":                     {"one"},
		"one two\tthree\nfour":    {"one", "two", "three", "four"},
		"  one  ":                 {"one"},
		"{}":                      {"{", "}"},
		";;":                      {";", ";"},
		"a;b":                     {"a", ";", "b"},
		"10.0.0.1/24;":            {"10.0.0.1/24", ";"},
		"-_./ ..":                 {"-_./", ".."},
		"azAZ09":                  {"azAZ09"},
		"A b":                     {"A", "b"},
		"#":                       nil,
		"# all of it; {}":         nil,
		"a#b":                     {"a"},
		"a#b\nc":                  {"a", "c"},
		"#a\n#b\n":                nil,
		"a ## # b\n;":             {"a", ";"},
		"#!\r\x00\xff€\nx":        {"x"},
		"a # ends without a line": {"a"},
	} {
		wantWords(t, text, want...)
	}
}

// P3.1: each byte alone, and within a word.
func TestEachByte(t *testing.T) {
	const ofWords = "abcdefghijklmnopqrstuvwxyzABCDEFGHIJKLMNOPQRSTUVWXYZ0123456789./-_"
	for c := range 256 {
		s := string([]byte{byte(c)})
		text := "xy" + s + "z"
		if lex.IsWord(s) != strings.Contains(ofWords, s) || lex.IsWord(text) != strings.Contains(ofWords, s) {
			t.Errorf("IsWord(%q): %t", s, lex.IsWord(s))
		}
		switch {
		case strings.Contains(ofWords, s):
			wantWords(t, s, s)
			wantWords(t, text, text)
		case strings.Contains("{};", s):
			wantWords(t, s, s)
			wantWords(t, text, "xy", s, "z")
		case s == "#":
			wantWords(t, s)
			wantWords(t, text, "xy")
		case strings.Contains(" \t\n", s):
			wantWords(t, s)
			wantWords(t, text, "xy", "z")
		default:
			wantPlace(t, s, 0)
			wantPlace(t, text, 2)
		}
	}
}

// P3.1
func TestLongWords(t *testing.T) {
	longest := strings.Repeat("w", 31)
	wantWords(t, longest, longest)
	wantWords(t, "a "+longest+";"+longest, "a", longest, ";", longest)
	if !lex.IsWord(longest) || lex.IsWord(longest+"w") || lex.IsWord(strings.Repeat("w", 10000)) {
		t.Error("IsWord of 31 bytes and more")
	}
	wantPlace(t, longest+"w", 0)
	wantPlace(t, "a {"+longest+"w", 3)
	wantPlace(t, "a "+longest+longest+longest, 2)
	// the first fault counts, and a word's place is its first byte's
	wantPlace(t, "a "+longest+"w!", 2)
	wantPlace(t, "! "+longest+"w", 0)
	wantPlace(t, longest+"!", 31)
	wantWords(t, "#"+longest+longest)
}

// P3.1
func TestFaultsPlace(t *testing.T) {
	for text, want := range map[string]int{
		"a !": 2, "!": 0, "a\rb": 1, "é": 0, "aé": 1, "\x00": 0, "a # !\n !": 7, "a{b}c;\"": 6, "a = b": 2, "ok ok\n\n?": 7,
	} {
		wantPlace(t, text, want)
	}
}

// P3.1
func TestIsWord(t *testing.T) {
	for _, s := range []string{"", " ", "a b", " a", "a ", "a\n", "{", ";", "a;", "#", "a#", "é", "a\x00"} {
		if lex.IsWord(s) {
			t.Errorf("%q", s)
		}
	}
	for _, s := range []string{"a", "eth0", "10.0.0.1/24", "-", "_", ".", "/", "point-to-point"} {
		if !lex.IsWord(s) {
			t.Errorf("%q", s)
		}
	}
}

// P3.2
func TestWordsSideBySide(t *testing.T) {
	const ofWords = "abcxyzABCXYZ0189./-_"
	r := rand.New(rand.NewSource(1))
	for range 500 {
		var l []string
		for range r.Intn(12) {
			var w []byte
			for range 1 + r.Intn(31) {
				w = append(w, ofWords[r.Intn(len(ofWords))])
			}
			l = append(l, string(w))
		}
		wantWords(t, strings.Join(l, " "), l...)
	}
}

// byRule tells a text's words by another way than the program's.
func byRule(text string) ([]string, int, api.Errno) {
	token := regexp.MustCompile(`^(?s:[a-zA-Z0-9./_-]+|[{};]|[ \t\n]+|#[^\n]*)`)
	var l []string
	for at := 0; at < len(text); {
		s := token.FindString(text[at:])
		switch {
		case s == "":
			return nil, at, api.ErrForm
		case strings.ContainsAny(s[:1], " \t\n#"):
		case len(s) > 31:
			return nil, at, api.ErrForm
		default:
			l = append(l, s)
		}
		at += len(s)
	}
	return l, len(text), api.OK
}

// P3.1: texts of any bytes.
func TestAnyText(t *testing.T) {
	parts := []string{"a", "bc.d", "{", "}", ";", " ", "\t", "\n", "#", strings.Repeat("x", 20), "!", "\r", "€", "\xff"}
	r := rand.New(rand.NewSource(2))
	for range 20000 {
		text := ""
		for range r.Intn(14) {
			k := len(parts)
			if r.Intn(4) > 0 {
				k -= 4
			}
			text += parts[r.Intn(k)]
		}
		l, n, e := lex.Words(text)
		want, place, wrong := byRule(text)
		if !slices.Equal(l, want) || n != place || e != wrong {
			t.Fatalf("%q: %q, %d, error %d; want %q, %d, %d", text, l, n, e, want, place, wrong)
		}
		if lex.IsWord(text) != (len(want) == 1 && want[0] == text && !strings.Contains("{};", text)) {
			t.Fatalf("IsWord(%q)", text)
		}
	}
}
