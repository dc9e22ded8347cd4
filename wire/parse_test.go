package wire_test

import (
	"strings"
	"testing"

	"augur/testaid"
	"augur/wire"
)

func TestParseExamples(t *testing.T) {
	bothWays(t, wire.Line{Word: "cancel", Id: 7}, `cancel 7`)
	bothWays(t, wire.Line{Word: "ask", Id: 1, Numbers: []int{20, 3, 0, 0, 1000, 256}, Seed: 99, Text: []byte("ab"), Stops: []string{".", "\n"}}, `ask 1 20 3 0 0 1000 256 99 "" "ab" "." "\x0a"`)
	bothWays(t, wire.Line{Word: "error", Id: 0, Numbers: []int{-5}}, `error 0 -5`)
	isNoLine(t, `cancel 07`, `cancel -1`, `cancel  7`, `cancel 7 `, `cancel 2147483648`, `Cancel 7`, `error 0 -0`, `error 0 +5`, `error 0`, `text 0 ab`, ``)
}

// Each way to write a number that is not the one way, at each place where a number stands.
func TestNumbersHaveOneForm(t *testing.T) {
	wrong := []string{"", "-", "+", "+0", "-0", "+1", "00", "01", "-01", "007", "--1", "- 1", "1-", "1.", "1.0", ".5", "1e3", "0x1", "0b1", "0o7", "1_0", "_1", "1,0", "1a", "a", "\"1\"", "\"\"", "\\x31", "１", "٣", "1\x00", "\t1", "1\n", "1\r", "\xff", "99999999999999999999999999999999", "-99999999999999999999999999999999", strings.Repeat("9", 8000), strings.Repeat("0", 8000)}
	for _, text := range plainTexts(t) {
		parts := strings.Split(text, " ")
		for at, part := range parts {
			if at == 0 || strings.ContainsAny(part, `"`) {
				continue
			}
			for _, w := range wrong {
				parts[at] = w
				isNoLine(t, strings.Join(parts, " "))
			}
			parts[at] = part
		}
	}
}

// The edges of each kind of number, at each place of its kind.
func TestBoundsOfNumbers(t *testing.T) {
	edges := []string{"-9223372036854775809", "-9223372036854775808", "-2147483649", "-2147483648", "-1", "0", "2147483647", "2147483648", "4294967295", "4294967296", "4294967303", "9223372036854775807", "9223372036854775808", "18446744073709551615", "18446744073709551616", "18446744073709551623"}
	for _, text := range plainTexts(t) {
		parts := strings.Split(text, " ")
		for at, part := range parts {
			if at == 0 || strings.ContainsAny(part, `"`) {
				continue
			}
			for i, n := range edges {
				parts[at] = n
				want := 1 <= i && i <= 11 // an INT
				if at == 1 {
					want = 5 <= i && i <= 6
				}
				if parts[0] == "ask" && at == 8 {
					want = 5 <= i && i <= 13
				}
				if parses(t, strings.Join(parts, " ")) != want {
					t.Errorf("P22.4: %s at part %d of %s", n, at, text)
				}
			}
			parts[at] = part
		}
	}
}

// One blank between each two parts, nothing else, nothing ahead and nothing behind.
func TestBlanks(t *testing.T) {
	for _, text := range plainTexts(t) {
		for _, rest := range []string{" ", "  ", "\n", "\t", "\r\n", "\x00", `"`, `""`, `" "`, "0", " 0", " -", "\xff", " \n"} {
			// (A number that stands at the end may go on.)
			if strings.HasSuffix(text, `"`) || rest != "0" {
				isNoLine(t, text+rest)
			}
			isNoLine(t, rest+text)
		}
		for at := range text {
			if text[at] != ' ' {
				continue
			}
			for _, other := range []string{"", "  ", "\t", "\n", "\x00", "\u00a0", " \t", ","} {
				changed := text[:at] + other + text[at+1:]
				if parses(t, changed) && strings.Count(text[:at], `"`)%2 == 0 {
					t.Errorf("P22.4: %s is a line", short(changed))
				}
			}
		}
	}
}

// Each part less, each part twice, each part in the place of another.
func TestParts(t *testing.T) {
	for _, text := range plainTexts(t) {
		parts := strings.Split(text, " ")
		for at := range parts {
			parses(t, strings.Join(append(append([]string{}, parts[:at]...), parts[at+1:]...), " "))
			parses(t, strings.Join(append(append([]string{}, parts[:at+1]...), parts[at:]...), " "))
			parses(t, strings.Join(parts[:at], " "))
			parses(t, strings.Join(parts[:at], " ")+" ")
			parses(t, strings.Join(parts[at:], " "))
			for other := range parts {
				swapped := append([]string{}, parts...)
				swapped[at], swapped[other] = swapped[other], swapped[at]
				parses(t, strings.Join(swapped, " "))
			}
		}
		for _, word := range append(allWords(), "", "tell", "hello", "\"ok\"") {
			parses(t, word+" "+strings.Join(parts[1:], " "))
		}
	}
	isNoLine(t, "ask", "ask ", "ask 1", `ask 1 20 3 0 0 1000 256 99`, `ask 1 20 3 0 0 1000 256 99 ""`, `ask 1 20 3 0 0 1000 256 99 "" `, `ask 1 20 3 0 0 1000 256 99 """"`, `ask 1 20 3 0 0 1000 256 99 "" ab`, `ask 1 20 3 0 0 1000 256 "" "ab"`, `ask 1 20 3 0 0 1000 256 99 "" "ab" c`, `ask 1 20 3 0 0 1000 256 99 "" "ab" 5`, `ask 1 20 3 0 0 1000 256 7 99 "" "ab"`)
	isNoLine(t, "cancel", "cancel ", "cancel 7 1", `cancel 7 ""`, "ok", "ok ok", `ok "7"`, "error", "error 0 ", "error 0 5 6", `error 0 "5"`, "text 0", "text 0 ", `text "a"`, `text 0 "a" "b"`, `text 0 5`, `text 0 "a`, `text 0 "a"b`, "end 0", "end 0 1 2", `end 0 ""`, " ", "  ", "\n", "hello", "7", `"ok 7"`)
}

// Literals that are none, at each place where one stands.
func TestWrongLiterals(t *testing.T) {
	for _, wrong := range []string{``, `"`, `a`, `"a`, `a"`, `"\x41"`, `"\x0A"`, `"\n"`, "\"\n\"", "\"\x7f\"", "\"é\"", `"\"`, `"a"b"`, `"a""b"`, `'a'`, `"\x0"`} {
		for _, form := range []string{`text 0 @`, `ask 1 2 3 4 5 6 7 8 @ ""`, `ask 1 2 3 4 5 6 7 8 "" @`, `ask 1 2 3 4 5 6 7 8 "" "" @`, `ask 1 2 3 4 5 6 7 8 "" "" "" @`, `ask 1 2 3 4 5 6 7 8 "" "" @ ""`} {
			isNoLine(t, strings.Replace(form, "@", wrong, 1))
		}
	}
}

// A text of more bytes than a line may have, and one of as many.
func TestLongestTexts(t *testing.T) {
	for _, form := range []string{`text 0 "@"`, `ask 1 2 3 4 5 6 7 8 "@" ""`, `ask 1 2 3 4 5 6 7 8 "" "@"`, `ask 1 2 3 4 5 6 7 8 "" "" "@" "b"`} {
		for length := 8188; length <= 8196; length++ {
			for _, piece := range []string{"a", `\\`, `\xff`} {
				room := length - len(form) + 1
				some := strings.Repeat(piece, room/len(piece)) + strings.Repeat("z", room%len(piece))
				if parses(t, strings.Replace(form, "@", some, 1)) != (length <= 8192) {
					t.Errorf("P22.4: a line of %d bytes", length)
				}
			}
		}
	}
	stops := strings.Repeat(` ""`, 3000)
	for n := 2719; n <= 2725; n++ {
		parses(t, `ask 1 2 3 4 5 6 7 8 "" ""`+stops[:3*n])
	}
	for _, text := range []string{"ok 7", "ok 7 ", " ", "\"", "0", "ok ", "text 0 \"", "ask 0 0 0 0 0 0 0 0 \"\" \"\""} {
		isNoLine(t, text+strings.Repeat(" ", 8000), strings.Repeat(text, 8192/len(text)), strings.Repeat(text, 1<<20), text+strings.Repeat("0", 8000)+"x")
	}
}

// One byte of a line made each other byte, taken out, or doubled.
func TestOneChangedByte(t *testing.T) {
	good, bad := 0, 0
	count := func(is bool) {
		if is {
			good++
		} else {
			bad++
		}
	}
	for _, text := range plainTexts(t) {
		for at := range len(text) {
			for b := range 256 {
				count(parses(t, text[:at]+string([]byte{byte(b)})+text[at+1:]))
				count(parses(t, text[:at]+string([]byte{byte(b)})+text[at:]))
			}
			count(parses(t, text[:at]+text[at+1:]))
			count(parses(t, text[:at]))
			count(parses(t, text[at:]))
		}
	}
	if good < 1000 || bad < 1000 {
		t.Errorf("%d lines, %d others", good, bad)
	}
}

// Drawn lines, changed or not.
func TestParseOfDrawnTexts(t *testing.T) {
	s := testaid.Source(2205)
	good, bad := 0, 0
	for range 30000 {
		text, _ := textOf(someLine(&s))
		if s.Below(4) > 0 {
			text = changed(&s, text)
		}
		if parses(t, text) {
			good++
		} else {
			bad++
		}
	}
	if good < 8000 || bad < 8000 {
		t.Errorf("%d lines, %d others", good, bad)
	}
}

// Texts of parts that stand in any order.
func TestParseOfDrawnParts(t *testing.T) {
	s := testaid.Source(2206)
	parts := []string{"ask", "cancel", "ok", "error", "text", "end", "0", "7", "-1", "", `""`, `"a"`, `" "`, `"\x0a"`, "2147483648", "18446744073709551615"}
	for range 60000 {
		line := []string{allWords()[s.Below(6)], parts[6+s.Below(2)]}
		for range s.Below(12) {
			line = append(line, parts[6+s.Below(len(parts)-6)])
		}
		if s.Below(5) == 0 {
			line[s.Below(len(line))] = parts[s.Below(len(parts))]
		}
		parses(t, strings.Join(line, " "))
	}
}
