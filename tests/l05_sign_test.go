package tests

import (
	"fmt"
	"math/rand"
	"regexp"
	"slices"
	"strconv"
	"strings"
	"testing"

	"loop.example/g00469/impl"
)

// Signs of each Kind at a place, none of them Near.

func atomAt(at int, text string) impl.Sign {
	return impl.Sign{Kind: impl.SgAtom, Text: text, At: at}
}

func varAt(at int, text string) impl.Sign {
	return impl.Sign{Kind: impl.SgVar, Text: text, At: at}
}

func intAt(at, n int) impl.Sign {
	return impl.Sign{Kind: impl.SgInt, Num: n, At: at}
}

func markAt(at int, text string) impl.Sign {
	return impl.Sign{Kind: impl.SgMark, Text: text, At: at}
}

func endAt(at int) impl.Sign {
	return impl.Sign{Kind: impl.SgEnd, Text: ".", At: at}
}

func badAt(at int, text string) impl.Sign {
	return impl.Sign{Kind: impl.SgBad, Text: text, At: at}
}

func near(s impl.Sign) impl.Sign {
	s.Near = true
	return s
}

// badsOf has a sign for each byte of a text that begins at a place.
func badsOf(at int, text string) []impl.Sign {
	var out []impl.Sign
	for i := range len(text) {
		out = append(out, badAt(at+i, text[i:i+1]))
	}
	return out
}

func shownSigns(signs []impl.Sign) string {
	kinds := []string{"?", "atom", "var", "int", "mark", "end", "bad"}
	var out []string
	for _, s := range signs {
		kind := strconv.Itoa(s.Kind)
		if s.Kind > 0 && s.Kind < len(kinds) {
			kind = kinds[s.Kind]
		}
		one := fmt.Sprintf("%d:%s %q", s.At, kind, s.Text)
		if s.Num != 0 || s.Kind == impl.SgInt {
			one += " " + strconv.Itoa(s.Num)
		}
		if s.Near {
			one += " near"
		}
		out = append(out, one)
	}
	return "[" + strings.Join(out, ", ") + "]"
}

func wantSigns(t *testing.T, text string, want ...impl.Sign) {
	t.Helper()
	got, ok := impl.SignsOf(text)
	if !ok || !slices.Equal(got, want) {
		t.Errorf("SignsOf(%q) = %s, %t; want %s, true", text, shownSigns(got), ok, shownSigns(want))
	}
}

func TestSignLimitsAreTheDocuments(t *testing.T) {
	kinds := []int{impl.SgAtom, impl.SgVar, impl.SgInt, impl.SgMark, impl.SgEnd, impl.SgBad}
	if impl.MaxSource != 3000 || !slices.Equal(kinds, []int{1, 2, 3, 4, 5, 6}) {
		t.Error("a constant of chapter 5 is another one")
	}
}

func TestSymbolByteOfAllBytes(t *testing.T) {
	symbols := []byte{'+', '-', '*', '/', '\\', '^', '<', '>', '=', '~', ':', '.', '?', '@', '#', '&', '$'}
	for b := range 256 {
		if got, want := impl.SymbolByte(byte(b)), slices.Contains(symbols, byte(b)); got != want {
			t.Errorf("SymbolByte(%d) = %t", b, got)
		}
	}
}

func TestSignsOfAClause(t *testing.T) {
	wantSigns(t, "p(X, _y1) :-\n\tq([X|T]), % all\n\t!, 'a-b' = 12 ; X0\\=Y.",
		near(atomAt(0, "p")), markAt(1, "("), varAt(2, "X"), markAt(3, ","), varAt(5, "_y1"), markAt(8, ")"), atomAt(10, ":-"),
		near(atomAt(14, "q")), markAt(15, "("), markAt(16, "["), varAt(17, "X"), markAt(18, "|"), varAt(19, "T"), markAt(20, "]"), markAt(21, ")"), markAt(22, ","),
		atomAt(31, "!"), markAt(32, ","), atomAt(34, "a-b"), atomAt(40, "="), intAt(42, 12), atomAt(45, ";"), varAt(47, "X0"), atomAt(49, "\\="), varAt(51, "Y"), endAt(52))
}

func TestWhatPartsSigns(t *testing.T) {
	for _, text := range []string{
		"", " ", "\t", "\n", " \t\n \n\n\t ", "%", "%%", "%\n", "% a\n%b", "% 'a", "  % p(X). \"\n \t%\r\x00\xff\xe2\x82\xac", "%.\n% .",
		strings.Repeat(" ", impl.MaxSource), strings.Repeat("%", impl.MaxSource), strings.Repeat("%\n", impl.MaxSource/2),
	} {
		wantSigns(t, text)
	}
	for _, parts := range []string{" ", "\t", "\n", "  ", "\n\n", "\t \n", "%\n", "% b. c \n", " %\n", "\n%x\n", "%\xff\n", "%\r\n", "%'\n"} {
		behind := 1 + len(parts)
		wantSigns(t, "a"+parts+"b", atomAt(0, "a"), atomAt(behind, "b"))
		wantSigns(t, "X"+parts+"Y", varAt(0, "X"), varAt(behind, "Y"))
		wantSigns(t, "1"+parts+"2", intAt(0, 1), intAt(behind, 2))
		wantSigns(t, "+"+parts+"-", atomAt(0, "+"), atomAt(behind, "-"))
		wantSigns(t, "a"+parts+"(", atomAt(0, "a"), markAt(behind, "("))
		wantSigns(t, "."+parts+".", endAt(0), endAt(behind))
		wantSigns(t, parts+"a"+parts, atomAt(len(parts), "a"))
	}
	wantSigns(t, "a%b", atomAt(0, "a"))
	wantSigns(t, "a%(\n(", atomAt(0, "a"), markAt(4, "("))
	wantSigns(t, "=%=\n=", atomAt(0, "="), atomAt(4, "="))
}

func TestOtherBytesBelow33AreBad(t *testing.T) {
	for b := range 33 {
		text := string([]byte{'a', byte(b), 'b'})
		if b == 9 || b == 10 || b == 32 {
			wantSigns(t, text, atomAt(0, "a"), atomAt(2, "b"))
			continue
		}
		wantSigns(t, text, atomAt(0, "a"), badAt(1, text[1:2]), atomAt(2, "b"))
	}
	wantSigns(t, "a\r\nb", atomAt(0, "a"), badAt(1, "\r"), atomAt(3, "b"))
}

func TestNamesOfLetters(t *testing.T) {
	for _, name := range []string{"a", "z", "ab", "aZ", "zA9_", "a_", "a0", "b__1", "isA", strings.Repeat("q", 20), "a" + strings.Repeat("_", 19), "z" + strings.Repeat("9", 19)} {
		wantSigns(t, name, atomAt(0, name))
		wantSigns(t, " "+name+"!", atomAt(1, name), atomAt(1+len(name), "!"))
	}
	for _, name := range []string{"A", "Z", "_", "__", "_a", "_A", "_0", "Xy", "X_1", "Za9_", strings.Repeat("Q", 20), strings.Repeat("_", 20), "A" + strings.Repeat("9", 19)} {
		wantSigns(t, name, varAt(0, name))
		wantSigns(t, "["+name+"]", markAt(0, "["), varAt(1, name), markAt(1+len(name), "]"))
	}
	for _, between := range []string{"@", "[", "`", "{", "/", ":"} {
		got, _ := impl.SignsOf("a" + between + "b")
		if len(got) != 3 || got[0].Text != "a" || got[1].Text != between || got[2].Text != "b" {
			t.Errorf("%q is taken into a name: %s", between, shownSigns(got))
		}
	}
}

func TestNamesOfSymbolBytes(t *testing.T) {
	for _, name := range []string{"+", "-", ":-", "-->", "\\+", "=..", "...", "//", "/*", "*/", "?-", "=:=", "~^<>@#&$", strings.Repeat("+", 20), strings.Repeat(".", 20), "+-*/\\^<>=~:.?@#&$"} {
		wantSigns(t, name, atomAt(0, name))
		wantSigns(t, "a"+name+"b", atomAt(0, "a"), atomAt(1, name), atomAt(1+len(name), "b"))
		wantSigns(t, "1"+name+"X", intAt(0, 1), atomAt(1, name), varAt(1+len(name), "X"))
		wantSigns(t, "!"+name+";", atomAt(0, "!"), atomAt(1, name), atomAt(1+len(name), ";"))
	}
	wantSigns(t, "!!", atomAt(0, "!"), atomAt(1, "!"))
	wantSigns(t, ";;!", atomAt(0, ";"), atomAt(1, ";"), atomAt(2, "!"))
	wantSigns(t, "a!b;c", atomAt(0, "a"), atomAt(1, "!"), atomAt(2, "b"), atomAt(3, ";"), atomAt(4, "c"))
}

func TestQuotedNames(t *testing.T) {
	for _, name := range []string{"a", "A", "_", "7", "[]", "{}", ".", "..", "%", "(", ",", "|", "!", "~", "`", "a-b", "\\", "a%b", strings.Repeat("x", 20), strings.Repeat("(", 20)} {
		text := "'" + name + "'"
		wantSigns(t, text, atomAt(0, name))
		wantSigns(t, "f"+text+"g", atomAt(0, "f"), atomAt(1, name), atomAt(len(text)+1, "g"))
		wantSigns(t, text+text, atomAt(0, name), atomAt(len(text), name))
	}
	for b := range 256 {
		inside := b >= 33 && b <= 126 && b != '\'' && b != '"'
		text := string([]byte{'\'', byte(b), '\''})
		got, ok := impl.SignsOf(text)
		if taken := ok && slices.Equal(got, []impl.Sign{atomAt(0, text[1:2])}); taken != inside {
			t.Errorf("SignsOf(%q) = %s", text, shownSigns(got))
		}
	}
}

func TestQuotedNamesThatAreNone(t *testing.T) {
	quote := "'"
	wantSigns(t, "'", badAt(0, quote))
	wantSigns(t, "''", badAt(0, quote), badAt(1, quote))
	wantSigns(t, "'''", badAt(0, quote), badAt(1, quote), badAt(2, quote))
	wantSigns(t, "''a'", badAt(0, quote), atomAt(1, "a"))
	wantSigns(t, "'a''b'", atomAt(0, "a"), atomAt(3, "b"))
	wantSigns(t, "'a'b'", atomAt(0, "a"), atomAt(3, "b"), badAt(4, quote))
	wantSigns(t, "'a", badAt(0, quote), atomAt(1, "a"))
	wantSigns(t, "'Xy.", badAt(0, quote), varAt(1, "Xy"), endAt(3))
	wantSigns(t, "'a b'", badAt(0, quote), atomAt(1, "a"), atomAt(3, "b"), badAt(4, quote))
	wantSigns(t, "'a\nb'", badAt(0, quote), atomAt(1, "a"), atomAt(3, "b"), badAt(4, quote))
	wantSigns(t, "'a\tb'c'", badAt(0, quote), atomAt(1, "a"), atomAt(3, "b"), atomAt(4, "c"))
	wantSigns(t, "'a\"b'", badAt(0, quote), atomAt(1, "a"), badAt(2, "\""), atomAt(3, "b"), badAt(4, quote))
	wantSigns(t, "'a\x00'", badAt(0, quote), atomAt(1, "a"), badAt(2, "\x00"), badAt(3, quote))
	wantSigns(t, "'\x7f'", badAt(0, quote), badAt(1, "\x7f"), badAt(2, quote))
	wantSigns(t, "'\xc3\xa9'", badsOf(0, "'\xc3\xa9'")...)
	wantSigns(t, "'% a'b'", badAt(0, quote))
	wantSigns(t, "' '.", badAt(0, quote), badAt(2, quote), endAt(3))
}

func TestNamesThatAreTooLong(t *testing.T) {
	letters := strings.Repeat("x", 20)
	wantSigns(t, "a"+letters, badAt(0, "a"), atomAt(1, letters))
	wantSigns(t, "ab"+letters, badAt(0, "a"), badAt(1, "b"), atomAt(2, letters))
	wantSigns(t, "aB"+letters[1:], badAt(0, "a"), varAt(1, "B"+letters[1:]))
	wantSigns(t, "V"+letters, badAt(0, "V"), atomAt(1, letters))
	wantSigns(t, "_"+strings.Repeat("_", 20), badAt(0, "_"), varAt(1, strings.Repeat("_", 20)))
	wantSigns(t, "__"+letters[:19], badAt(0, "_"), varAt(1, "_"+letters[:19]))
	wantSigns(t, "a7"+letters[:19], badAt(0, "a"), intAt(1, 7), atomAt(2, letters[:19]))
	wantSigns(t, "a"+letters+"(", badAt(0, "a"), near(atomAt(1, letters)), markAt(21, "("))
	wantSigns(t, "a"+letters+".", badAt(0, "a"), atomAt(1, letters), endAt(21))
	symbols := strings.Repeat("+", 20)
	wantSigns(t, "-"+symbols, badAt(0, "-"), atomAt(1, symbols))
	wantSigns(t, symbols+".", badAt(0, "+"), atomAt(1, symbols[1:]+"."))
	wantSigns(t, symbols+". ", badAt(0, "+"), atomAt(1, symbols[1:]+"."))
	wantSigns(t, "."+symbols, badAt(0, "."), atomAt(1, symbols))
	wantSigns(t, strings.Repeat(".", 21), badAt(0, "."), atomAt(1, strings.Repeat(".", 20)))
	wantSigns(t, symbols+" .", atomAt(0, symbols), endAt(21))
	wantSigns(t, "'"+letters+"y'", badAt(0, "'"), badAt(1, "x"), atomAt(2, letters[1:]+"y"), badAt(22, "'"))
	wantSigns(t, "'"+symbols+"-'a'", badAt(0, "'"), badAt(1, "+"), atomAt(2, symbols[1:]+"-"), atomAt(22, "a"))
}

func TestVeryLongNames(t *testing.T) {
	for _, one := range []string{"a", "Z", "_", "+", "."} {
		text := strings.Repeat(one, impl.MaxSource)
		want := badsOf(0, text[20:])
		kind := impl.SgAtom
		if one == "Z" || one == "_" {
			kind = impl.SgVar
		}
		want = append(want, impl.Sign{Kind: kind, Text: text[:20], At: impl.MaxSource - 20})
		wantSigns(t, text, want...)
	}
}

func TestNumbersOfFigures(t *testing.T) {
	for _, c := range []struct {
		text string
		n    int
	}{
		{"0", 0}, {"7", 7}, {"10", 10}, {"00", 0}, {"007", 7}, {"123456789", 123456789},
		{"999999998", 999999998}, {"999999999", impl.MaxInt}, {"0999999999", impl.MaxInt},
		{strings.Repeat("0", 100) + "5", 5}, {strings.Repeat("0", impl.MaxSource-9) + "999999999", impl.MaxInt}, {strings.Repeat("0", impl.MaxSource), 0},
	} {
		wantSigns(t, c.text, intAt(0, c.n))
	}
	wantSigns(t, "12ab", intAt(0, 12), atomAt(2, "ab"))
	wantSigns(t, "12Ab3", intAt(0, 12), varAt(2, "Ab3"))
	wantSigns(t, "1_2", intAt(0, 1), varAt(1, "_2"))
	wantSigns(t, "1.5", intAt(0, 1), atomAt(1, "."), intAt(2, 5))
	wantSigns(t, "-3+4", atomAt(0, "-"), intAt(1, 3), atomAt(2, "+"), intAt(3, 4))
	wantSigns(t, "0'a'", intAt(0, 0), atomAt(1, "a"))
	wantSigns(t, "1(2", near(intAt(0, 1)), markAt(1, "("), intAt(2, 2))
}

func TestNumbersThatAreTooGreat(t *testing.T) {
	wantSigns(t, "1000000000", badAt(0, "1"), intAt(1, 0))
	wantSigns(t, "1999999999", badAt(0, "1"), intAt(1, impl.MaxInt))
	wantSigns(t, "9999999999", badAt(0, "9"), intAt(1, impl.MaxInt))
	wantSigns(t, "01000000001", badAt(0, "0"), badAt(1, "1"), intAt(2, 1))
	wantSigns(t, "1000000000a", badAt(0, "1"), intAt(1, 0), atomAt(10, "a"))
	// 2 to the power 64 and one, 2 to the power 63: a number that wraps round must not come back.
	wantSigns(t, "18446744073709551617", append(badsOf(0, "18446744073"), intAt(11, 709551617))...)
	wantSigns(t, "9223372036854775808", append(badsOf(0, "9223372036"), intAt(10, 854775808))...)
	many := strings.Repeat("8", impl.MaxSource)
	wantSigns(t, many, append(badsOf(0, many[9:]), intAt(impl.MaxSource-9, 888888888))...)
	noughts := strings.Repeat("0", impl.MaxSource-10)
	wantSigns(t, noughts+"1234567890", append(badsOf(0, noughts+"1"), intAt(impl.MaxSource-9, 234567890))...)
}

func TestMarks(t *testing.T) {
	for _, mark := range []string{"(", ")", "[", "]", ",", "|"} {
		wantSigns(t, mark, markAt(0, mark))
		wantSigns(t, "a "+mark+" b", atomAt(0, "a"), markAt(2, mark), atomAt(4, "b"))
		wantSigns(t, "1"+mark+"X", nearIf(mark == "(", intAt(0, 1)), markAt(1, mark), varAt(2, "X"))
		wantSigns(t, "+"+mark+"-", nearIf(mark == "(", atomAt(0, "+")), markAt(1, mark), atomAt(2, "-"))
		wantSigns(t, mark+mark, nearIf(mark == "(", markAt(0, mark)), markAt(1, mark))
	}
	wantSigns(t, "()[],|", markAt(0, "("), markAt(1, ")"), markAt(2, "["), markAt(3, "]"), markAt(4, ","), markAt(5, "|"))
	wantSigns(t, "||,,", markAt(0, "|"), markAt(1, "|"), markAt(2, ","), markAt(3, ","))
}

func nearIf(is bool, s impl.Sign) impl.Sign {
	s.Near = is
	return s
}

func TestEndsBehindOtherSigns(t *testing.T) {
	ahead := []struct {
		text  string
		signs []impl.Sign
	}{
		{"", nil}, {" ", nil}, {"\n", nil}, {"% x\n", nil}, {"%=\n", nil}, {"= ", []impl.Sign{atomAt(0, "=")}},
		{"a", []impl.Sign{atomAt(0, "a")}}, {"X", []impl.Sign{varAt(0, "X")}}, {"_", []impl.Sign{varAt(0, "_")}}, {"9", []impl.Sign{intAt(0, 9)}},
		{"(", []impl.Sign{markAt(0, "(")}}, {")", []impl.Sign{markAt(0, ")")}}, {"[", []impl.Sign{markAt(0, "[")}}, {"]", []impl.Sign{markAt(0, "]")}},
		{",", []impl.Sign{markAt(0, ",")}}, {"|", []impl.Sign{markAt(0, "|")}}, {"'a'", []impl.Sign{atomAt(0, "a")}}, {"'.'", []impl.Sign{atomAt(0, ".")}}, {"'+'", []impl.Sign{atomAt(0, "+")}},
		{"!", []impl.Sign{atomAt(0, "!")}}, {";", []impl.Sign{atomAt(0, ";")}}, {"\"", []impl.Sign{badAt(0, "\"")}}, {"'", []impl.Sign{badAt(0, "'")}}, {"\xff", []impl.Sign{badAt(0, "\xff")}},
		{". ", []impl.Sign{endAt(0)}}, {".%\n", []impl.Sign{endAt(0)}},
	}
	behind := []struct {
		text  string
		signs []impl.Sign
	}{
		{"", nil}, {" ", nil}, {"\t", nil}, {"\n", nil}, {"%", nil}, {"% a", nil}, {"% a\nb", []impl.Sign{atomAt(4, "b")}}, {" b", []impl.Sign{atomAt(1, "b")}}, {" .", []impl.Sign{endAt(1)}}, {"\n(", []impl.Sign{markAt(1, "(")}}, {"\t+", []impl.Sign{atomAt(1, "+")}},
	}
	for _, a := range ahead {
		for _, b := range behind {
			want := append(slices.Clone(a.signs), endAt(len(a.text)))
			for _, s := range b.signs {
				s.At += len(a.text) + 1
				want = append(want, s)
			}
			wantSigns(t, a.text+"."+b.text, want...)
		}
	}
}

func TestPointsThatAreNoEnds(t *testing.T) {
	for b := range 256 {
		if !impl.SymbolByte(byte(b)) {
			continue
		}
		symbol := string([]byte{byte(b)})
		for _, behind := range []string{"", " ", "\t", "\n", "%", "% .\n"} {
			wantSigns(t, symbol+"."+behind, atomAt(0, symbol+"."))
			wantSigns(t, "a"+symbol+"."+behind, atomAt(0, "a"), atomAt(1, symbol+"."))
			wantSigns(t, "."+symbol+behind, atomAt(0, "."+symbol))
		}
	}
	for _, c := range []struct {
		behind string
		sign   impl.Sign
	}{
		{"a", atomAt(1, "a")}, {"A", varAt(1, "A")}, {"_", varAt(1, "_")}, {"1", intAt(1, 1)}, {")", markAt(1, ")")}, {"[", markAt(1, "[")}, {",", markAt(1, ",")}, {"|", markAt(1, "|")},
		{"!", atomAt(1, "!")}, {";", atomAt(1, ";")}, {"'x'", atomAt(1, "x")}, {"\r", badAt(1, "\r")}, {"\"", badAt(1, "\"")}, {"\x00", badAt(1, "\x00")}, {"\x80", badAt(1, "\x80")},
	} {
		wantSigns(t, "."+c.behind, atomAt(0, "."), c.sign)
	}
	wantSigns(t, ".(", near(atomAt(0, ".")), markAt(1, "("))
	wantSigns(t, "..", atomAt(0, ".."))
	wantSigns(t, ".%", endAt(0))
	wantSigns(t, "=.", atomAt(0, "=."))
	wantSigns(t, ". .", endAt(0), endAt(2))
	wantSigns(t, ".. .", atomAt(0, ".."), endAt(3))
	wantSigns(t, "a.b.", atomAt(0, "a"), atomAt(1, "."), atomAt(2, "b"), endAt(3))
	wantSigns(t, "a.. ", atomAt(0, "a"), atomAt(1, ".."))
}

func TestBytesOfNoSign(t *testing.T) {
	for b := range 256 {
		text := string([]byte{byte(b)})
		told := b == 9 || b == 10 || b >= 32 && b <= 126 && !strings.Contains("\"'`{}", text)
		got, ok := impl.SignsOf(text)
		if bad := ok && slices.Equal(got, []impl.Sign{badAt(0, text)}); bad == told {
			t.Errorf("SignsOf(%q) = %s", text, shownSigns(got))
		}
		if !told && b != '\'' {
			wantSigns(t, "a"+text+"(", atomAt(0, "a"), near(badAt(1, text)), markAt(2, "("))
			wantSigns(t, text+text+"X1", append(badsOf(0, text+text), varAt(2, "X1"))...)
		}
	}
	wantSigns(t, "{a}", badAt(0, "{"), atomAt(1, "a"), badAt(2, "}"))
	wantSigns(t, "\"a b\"", badAt(0, "\""), atomAt(1, "a"), atomAt(3, "b"), badAt(4, "\""))
	wantSigns(t, "a\x00b", atomAt(0, "a"), badAt(1, "\x00"), atomAt(2, "b"))
}

func TestRunesOfMoreThanOneByte(t *testing.T) {
	runes := []string{
		"\u00e9", "\u20ac", "\ufffd", "\U0001f600", "\u0085", "\u00a0", "\u2028", "\uff08", "\u0661",
		"\xff", "\x80", "\xc3", "\xe2\x82", "\xf0\x9f\x98", "\xc0\xaf", "\xed\xa0\x80", "\xf4\x90\x80\x80", "\xe2",
	}
	for _, one := range runes {
		many := len(one)
		wantSigns(t, one, badsOf(0, one)...)
		wantSigns(t, one+one, badsOf(0, one+one)...)
		wantSigns(t, "a"+one+"b", append(append([]impl.Sign{atomAt(0, "a")}, badsOf(1, one)...), atomAt(1+many, "b"))...)
		wantSigns(t, one+".", append(badsOf(0, one), endAt(many))...)
		wantSigns(t, "."+one, append([]impl.Sign{atomAt(0, ".")}, badsOf(1, one)...)...)
		opened := badsOf(0, one)
		opened[many-1].Near = true
		wantSigns(t, one+"(", append(opened, markAt(many, "("))...)
		wantSigns(t, "%"+one+"\n"+one, badsOf(2+many, one)...)
	}
}

func TestNearOfEveryKind(t *testing.T) {
	for _, c := range []struct {
		text string
		sign impl.Sign
	}{
		{"p", atomAt(0, "p")}, {"+", atomAt(0, "+")}, {".", atomAt(0, ".")}, {"=.", atomAt(0, "=.")}, {"!", atomAt(0, "!")}, {";", atomAt(0, ";")}, {"'a'", atomAt(0, "a")}, {"'('", atomAt(0, "(")}, {"Xs", varAt(0, "Xs")}, {"_", varAt(0, "_")},
		{"12", intAt(0, 12)}, {"(", markAt(0, "(")}, {")", markAt(0, ")")}, {"[", markAt(0, "[")}, {"]", markAt(0, "]")}, {",", markAt(0, ",")}, {"|", markAt(0, "|")}, {"{", badAt(0, "{")}, {"\x80", badAt(0, "\x80")},
	} {
		wantSigns(t, c.text+"(", near(c.sign), markAt(len(c.text), "("))
		for _, parts := range []string{" ", "\t", "\n", "%(\n"} {
			want := c.sign
			if c.text == "." {
				want = endAt(0)
			}
			wantSigns(t, c.text+parts+"(", want, markAt(len(c.text+parts), "("))
		}
	}
	wantSigns(t, "'('", atomAt(0, "("))
	wantSigns(t, "a'('", atomAt(0, "a"), atomAt(1, "("))
	wantSigns(t, "((", near(markAt(0, "(")), markAt(1, "("))
	wantSigns(t, "'(", near(badAt(0, "'")), markAt(1, "("))
}

func TestTextsThatAreTooLong(t *testing.T) {
	for _, one := range []string{"a ", " ", ".", "\n", "%", "(", "\x00", "7", "'", "\xe2\x82\xac", "p(X). "} {
		text := strings.Repeat(one, impl.MaxSource)
		if got, ok := impl.SignsOf(text[:impl.MaxSource]); !ok || !slices.Equal(got, signsByRule(text[:impl.MaxSource])) {
			t.Errorf("SignsOf of MaxSource bytes of %q: %d signs, %t", one, len(got), ok)
		}
		for _, more := range []int{1, 2, 1000} {
			if len(text) < impl.MaxSource+more {
				continue
			}
			if got, ok := impl.SignsOf(text[:impl.MaxSource+more]); ok || len(got) != 0 {
				t.Errorf("SignsOf of MaxSource and %d bytes of %q: %d signs, %t", more, one, len(got), ok)
			}
		}
	}
	if got, ok := impl.SignsOf(strings.Repeat("a.\n", 1<<20)); ok || len(got) != 0 {
		t.Error("a very long text has signs")
	}
}

// The document's rule once more, as patterns that are tried at a place one after the other.
var signPatterns = []struct {
	kind    int
	pattern *regexp.Regexp
}{
	{0, regexp.MustCompile(`^(?:[ \t\n]|%[^\n]*)`)},
	{impl.SgEnd, regexp.MustCompile(`^\.(?:[ \t\n%]|$)`)},
	{impl.SgAtom, regexp.MustCompile(`^(?:[a-z][a-zA-Z0-9_]*|[-+*/\\^<>=~:.?@#&$]+|!|;|'[!#-&(-~]+')`)},
	{impl.SgVar, regexp.MustCompile(`^[A-Z_][a-zA-Z0-9_]*`)},
	{impl.SgInt, regexp.MustCompile(`^[0-9]+`)},
	{impl.SgMark, regexp.MustCompile(`^[][(),|]`)},
}

// signByRule is the sign at a place and how many bytes it takes; of Kind 0 when what stands there parts signs.
func signByRule(text string, at int) (impl.Sign, int) {
	rest := text[at:]
	for _, p := range signPatterns {
		found := p.pattern.FindString(rest)
		if found == "" {
			continue
		}
		sign := impl.Sign{Kind: p.kind, Text: found, At: at}
		switch {
		case p.kind == impl.SgEnd && at > 0 && strings.Contains(`+-*/\^<>=~:.?@#&$`, text[at-1:at]):
			continue
		case p.kind == impl.SgEnd:
			sign.Text = "."
			return sign, 1
		case p.kind == impl.SgInt:
			n, err := strconv.Atoi(found)
			if err != nil || n > 999999999 {
				return badAt(at, rest[:1]), 1
			}
			return intAt(at, n), len(found)
		case p.kind != 0 && len(strings.Trim(found, "'")) > 20:
			return badAt(at, rest[:1]), 1
		}
		sign.Text = strings.Trim(found, "'")
		return sign, len(found)
	}
	return badAt(at, rest[:1]), 1
}

func signsByRule(text string) []impl.Sign {
	var out []impl.Sign
	for at := 0; at < len(text); {
		sign, length := signByRule(text, at)
		at += length
		if sign.Kind != 0 {
			sign.Near = strings.HasPrefix(text[at:], "(")
			out = append(out, sign)
		}
	}
	return out
}

// lengthOf is how many bytes a sign takes where it stands, by what it tells.
func lengthOf(text string, s impl.Sign) int {
	rest := text[s.At:]
	switch {
	case s.Kind == impl.SgInt:
		return len(rest) - len(strings.TrimLeft(rest, "0123456789"))
	case s.Kind == impl.SgAtom && rest[0] == '\'':
		return len(s.Text) + 2
	}
	return len(s.Text)
}

// wantStanding holds the promise: signs stand where they stand, and nothing but what parts signs is between them.
func wantStanding(t *testing.T, text string, signs []impl.Sign) {
	t.Helper()
	behind := 0
	for _, s := range signs {
		if s.At < behind || s.At >= len(text) {
			t.Fatalf("%q: a sign at %d, behind what ends at %d", text, s.At, behind)
		}
		wantParting(t, text, behind, s.At)
		length := lengthOf(text, s)
		stands := text[s.At : s.At+length]
		told := s.Text
		switch {
		case s.Kind == impl.SgInt:
			told = strings.Repeat("0", length-len(strconv.Itoa(s.Num))) + strconv.Itoa(s.Num)
		case length == len(s.Text)+2:
			told = "'" + s.Text + "'"
		}
		if stands != told {
			t.Fatalf("%q: at %d stands %q, not %q", text, s.At, stands, told)
		}
		behind = s.At + length
		if s.Near != strings.HasPrefix(text[behind:], "(") {
			t.Fatalf("%q: the sign at %d has Near %t", text, s.At, s.Near)
		}
	}
	wantParting(t, text, behind, len(text))
}

func wantParting(t *testing.T, text string, from, to int) {
	t.Helper()
	between := text[from:to]
	for between != "" {
		switch between[0] {
		case ' ', '\t', '\n':
			between = between[1:]
		case '%':
			_, rest, ended := strings.Cut(between, "\n")
			if !ended && to < len(text) {
				t.Fatalf("%q: a sign at %d stands in a remark", text, to)
			}
			between = rest
		default:
			t.Fatalf("%q: between %d and %d stands %q", text, from, to, text[from:to])
		}
	}
}

// drawnText puts pieces together that are apt to touch each other oddly.
func drawnText(r *rand.Rand) string {
	pieces := []string{
		" ", " ", "\t", "\n", "\n", "%", "% a.\n", ".", ".", ". ", "..", "(", "(", ")", "[", "]", ",", "|", "!", ";", "'", "'", "a", "p", "zQ_9", "X", "_", "_y", "0", "007", "42",
		"999999999", "1000000000", "=", "+", "-", ":-", "\\+", "-->", "'a'", "'.'", "'a b'", "''", "\"", "{", "\r", "\x00", "\x7f", "\xff", "\u00e9", "\u20ac", "\xe2\x82",
		"abcdefghijklmnopqrst", "ABCDEFGHIJKLMNOPQRS", "++++++++++", "..........", "'1234567890123456789'", "'12345678901234567890'", "'123456789012345678901'",
	}
	var out strings.Builder
	for range r.Intn(25) {
		out.WriteString(pieces[r.Intn(len(pieces))])
	}
	return out.String()
}

func drawnBytes(r *rand.Rand) string {
	out := make([]byte, r.Intn(60))
	for i := range out {
		out[i] = byte(r.Intn(256))
		if r.Intn(3) > 0 {
			out[i] = byte(32 + r.Intn(95))
		}
	}
	return string(out)
}

func TestSignsStandWhereTheyStand(t *testing.T) {
	r := rand.New(rand.NewSource(5))
	kinds := map[int]int{}
	for i := range 60000 {
		text := drawnText(r)
		if i%3 == 0 {
			text = drawnBytes(r)
		}
		signs, ok := impl.SignsOf(text)
		if !ok {
			t.Fatalf("%q is refused", text)
		}
		wantStanding(t, text, signs)
		if want := signsByRule(text); !slices.Equal(signs, want) {
			t.Fatalf("SignsOf(%q) = %s; want %s", text, shownSigns(signs), shownSigns(want))
		}
		for _, s := range signs {
			kinds[s.Kind]++
		}
	}
	for kind := impl.SgAtom; kind <= impl.SgBad; kind++ {
		if kinds[kind] < 1000 {
			t.Errorf("only %d signs of Kind %d are drawn", kinds[kind], kind)
		}
	}
}

func TestSignsOfEveryShortText(t *testing.T) {
	bytes := "aX1_.+('%! \n,\"\xc3\xa9"
	texts := []string{""}
	for range 4 {
		var longer []string
		for _, text := range texts {
			for i := range len(bytes) {
				longer = append(longer, text+bytes[i:i+1])
			}
		}
		for _, text := range longer {
			signs, ok := impl.SignsOf(text)
			if !ok || !slices.Equal(signs, signsByRule(text)) {
				t.Fatalf("SignsOf(%q) = %s, %t; want %s", text, shownSigns(signs), ok, shownSigns(signsByRule(text)))
			}
			wantStanding(t, text, signs)
		}
		texts = longer
	}
}

func TestSignsAnswerNewMemory(t *testing.T) {
	text := strings.Clone("p('quoted', Xs, 12) :- \"{}\" q ; r, !, a=.. b. |[]")
	signs, _ := impl.SignsOf(text)
	for _, s := range signs {
		if s.Text != "" && shares(text, s.Text) {
			t.Errorf("the Text of %s lies in the argument", shownSigns([]impl.Sign{s}))
		}
	}
	again, _ := impl.SignsOf(text)
	clear(signs)
	if !slices.Equal(again, signsByRule(text)) {
		t.Error("two answers share their memory")
	}
}
