package tests

import (
	"math"
	"slices"
	"strconv"
	"strings"
	"testing"
	"unsafe"

	"loop.example/g00469/impl"
)

// varForms are numbers at the edges of each length of VarText, in bytes written out by hand.
var varForms = []struct {
	n    int
	text string
}{
	{0, "\x00"},
	{1, "\x01"},
	{127, "\x7f"},
	{128, "\x80\x01"},
	{129, "\x81\x01"},
	{255, "\xff\x01"},
	{256, "\x80\x02"},
	{300, "\xac\x02"},
	{16383, "\xff\x7f"},
	{16384, "\x80\x80\x01"},
	{20000, "\xa0\x9c\x01"},
	{2097151, "\xff\xff\x7f"},
	{2097152, "\x80\x80\x80\x01"},
	{268435455, "\xff\xff\xff\x7f"},
	{268435456, "\x80\x80\x80\x80\x01"},
	{999999999, "\xff\x93\xeb\xdc\x03"},
	{1000000000, "\x80\x94\xeb\xdc\x03"},
}

// allBytes has each byte once, in order.
func allBytes() string {
	out := make([]byte, 256)
	for i := range out {
		out[i] = byte(i)
	}
	return string(out)
}

// shares tells whether two texts that are not empty lie in the same bytes.
func shares(whole, piece string) bool {
	from := uintptr(unsafe.Pointer(unsafe.StringData(whole)))
	at := uintptr(unsafe.Pointer(unsafe.StringData(piece)))
	return from <= at && at < from+uintptr(len(whole))
}

func TestLimitsAreTheDocuments(t *testing.T) {
	if impl.MaxText != 20000 || impl.MaxNumber != 1000000000 || impl.MaxWords != 600 || impl.MaxParts != 10 {
		t.Error("a limit of chapter 1 is another one")
	}
}

func wantVar(t *testing.T, text string, at, n, behind int) {
	t.Helper()
	gotN, gotBehind, ok := impl.ReadVar(text, at)
	if !ok || gotN != n || gotBehind != behind {
		t.Errorf("ReadVar(%q, %d) = %d, %d, %t; want %d, %d, true", text, at, gotN, gotBehind, ok, n, behind)
	}
}

func wantNoVar(t *testing.T, text string, at int) {
	t.Helper()
	n, behind, ok := impl.ReadVar(text, at)
	if ok || n != 0 || behind != 0 {
		t.Errorf("ReadVar(%q, %d) = %d, %d, %t; want 0, 0, false", text, at, n, behind, ok)
	}
}

func TestVarTextWritesTheForm(t *testing.T) {
	for _, c := range varForms {
		text, ok := impl.VarText(c.n)
		if !ok || text != c.text {
			t.Errorf("VarText(%d) = %q, %t; want %q", c.n, text, ok, c.text)
		}
	}
}

func TestVarTextRefusesOtherNumbers(t *testing.T) {
	for _, n := range []int{-1, -128, math.MinInt, impl.MaxNumber + 1, 1 << 35, math.MaxInt} {
		text, ok := impl.VarText(n)
		if ok || text != "" {
			t.Errorf("VarText(%d) = %q, %t; want nothing", n, text, ok)
		}
	}
}

func TestReadVarReadsTheForm(t *testing.T) {
	for _, c := range varForms {
		wantVar(t, c.text, 0, c.n, len(c.text))
	}
}

func TestVarTextIsReadBack(t *testing.T) {
	for n := 0; n <= impl.MaxNumber; n += 1 + n/50 {
		text, ok := impl.VarText(n)
		if !ok {
			t.Fatalf("VarText(%d) is refused", n)
		}
		wantVar(t, text, 0, n, len(text))
		wantVar(t, "\xff"+text+"\xff\x00", 1, n, 1+len(text))
		wantVar(t, "\x00\x01"+text+text, 2+len(text), n, 2+2*len(text))
	}
}

func TestReadVarReadsEveryPlaceOfItsBytes(t *testing.T) {
	wantVar(t, "\xac\x02", 1, 2, 2)
	wantVar(t, "\x80\x00", 1, 0, 2)
	wantVar(t, "\x00\x00", 0, 0, 1)
}

func TestReadVarRefusesLongerForms(t *testing.T) {
	for _, c := range varForms {
		last := len(c.text) - 1
		longer := c.text[:last] + string([]byte{c.text[last] | 128})
		wantNoVar(t, longer+"\x00", 0)
		wantNoVar(t, longer+"\x80\x00", 0)
		wantNoVar(t, longer+"\x80\x80\x80\x80\x80\x80\x80\x80\x80\x00", 0)
		wantNoVar(t, "\x05"+longer+"\x00\x05", 1)
	}
}

func TestReadVarRefusesGreaterNumbers(t *testing.T) {
	for _, text := range []string{
		"\x81\x94\xeb\xdc\x03",
		"\x80\x94\xeb\xdc\x04",
		"\xff\xff\xff\xff\x7f",
		"\x80\x80\x80\x80\x80\x01",
		"\xff\xff\xff\xff\xff\xff\xff\xff\x7f",
		"\x80\x80\x80\x80\x80\x80\x80\x80\x80\x01",
		"\x81\x80\x80\x80\x80\x80\x80\x80\x80\x02",
		"\x81\x80\x80\x80\x80\x80\x80\x80\x80\x80\x01",
		strings.Repeat("\xff", 30) + "\x01",
	} {
		wantNoVar(t, text, 0)
		wantNoVar(t, "\x00"+text, 1)
	}
}

func TestReadVarRefusesTextsThatEndTooSoon(t *testing.T) {
	for _, c := range varForms {
		for cut := range len(c.text) {
			wantNoVar(t, c.text[:cut], 0)
		}
	}
	wantNoVar(t, strings.Repeat("\x80", 40), 0)
}

func TestReadVarRefusesOtherPlaces(t *testing.T) {
	wantNoVar(t, "", 0)
	for _, at := range []int{-1, -2, math.MinInt, 2, 3, 100, math.MaxInt - 2, math.MaxInt} {
		wantNoVar(t, "\x07\x07", at)
	}
}

func wantShort(t *testing.T, text string, at int, s string, behind int) {
	t.Helper()
	got, gotBehind, ok := impl.ReadShort(text, at)
	if !ok || got != s || gotBehind != behind {
		t.Errorf("ReadShort(%d bytes, %d) = %d bytes, %d, %t; want %d bytes, %d, true", len(text), at, len(got), gotBehind, ok, len(s), behind)
	}
}

func wantNoShort(t *testing.T, text string, at int) {
	t.Helper()
	s, behind, ok := impl.ReadShort(text, at)
	if ok || s != "" || behind != 0 {
		t.Errorf("ReadShort(%d bytes, %d) = %d bytes, %d, %t; want nothing", len(text), at, len(s), behind, ok)
	}
}

func shortForms() []struct{ s, text string } {
	return []struct{ s, text string }{
		{"", "\x00"},
		{"a", "\x01a"},
		{"\x00", "\x01\x00"},
		{"\x80\xff", "\x02\x80\xff"},
		{"two words", "\x09two words"},
		{strings.Repeat("x", 127), "\x7f" + strings.Repeat("x", 127)},
		{strings.Repeat("x", 128), "\x80\x01" + strings.Repeat("x", 128)},
		{allBytes(), "\x80\x02" + allBytes()},
		{strings.Repeat("y", 16384), "\x80\x80\x01" + strings.Repeat("y", 16384)},
		{strings.Repeat("z", impl.MaxText), "\xa0\x9c\x01" + strings.Repeat("z", impl.MaxText)},
	}
}

func TestShortTextIsReadBack(t *testing.T) {
	for _, c := range shortForms() {
		text, ok := impl.ShortText(c.s)
		if !ok || text != c.text {
			t.Errorf("ShortText of %d bytes = %d bytes, %t", len(c.s), len(text), ok)
		}
		wantShort(t, text, 0, c.s, len(text))
		wantShort(t, "\xff\x80"+text+"behind", 2, c.s, 2+len(text))
		wantShort(t, text+text, len(text), c.s, 2*len(text))
	}
}

func TestShortTextRefusesLongTexts(t *testing.T) {
	for _, length := range []int{impl.MaxText + 1, 2 * impl.MaxText} {
		text, ok := impl.ShortText(strings.Repeat("z", length))
		if ok || text != "" {
			t.Errorf("ShortText of %d bytes = %d bytes, %t", length, len(text), ok)
		}
	}
}

func TestReadShortRefusesWhatNoShortTextIs(t *testing.T) {
	for _, text := range []string{
		"\x80\x00",
		"\x81\x00a",
		"\x82\x80\x00ab",
		"\xa1\x9c\x01" + strings.Repeat("z", impl.MaxText+1),
		"\x80\x94\xeb\xdc\x03abc",
		"\x81\x94\xeb\xdc\x03abc",
		"\xff\xff\xff\xff\xff\xff\xff\xff\x7fabc",
	} {
		wantNoShort(t, text, 0)
		wantNoShort(t, "\x01"+text, 1)
	}
}

func TestReadShortRefusesTextsThatEndTooSoon(t *testing.T) {
	for _, c := range shortForms() {
		for cut := 0; cut < len(c.text); cut += 1 + cut/40 {
			wantNoShort(t, c.text[:cut], 0)
		}
		wantNoShort(t, c.text[:len(c.text)-1], 0)
	}
	wantNoShort(t, "\x00\x02ab", 2)
}

func TestReadShortRefusesOtherPlaces(t *testing.T) {
	wantNoShort(t, "", 0)
	for _, at := range []int{-1, math.MinInt, 3, 4, 100, math.MaxInt} {
		wantNoShort(t, "\x01a\x00", at)
	}
}

func TestReadShortAnswersNewMemory(t *testing.T) {
	text, _ := impl.ShortText("a text of some length")
	s, _, ok := impl.ReadShort(text, 0)
	if !ok || shares(text, s) {
		t.Error("ReadShort answers a piece of its argument")
	}
}

func TestHexWritesTwoFiguresAByte(t *testing.T) {
	for _, c := range []struct{ text, hex string }{
		{"", ""},
		{"\x00", "00"},
		{"\x0f\xf0", "0ff0"},
		{"\x9a\xa9", "9aa9"},
		{"abc", "616263"},
		{"\xff\xfe\x80\x7f", "fffe807f"},
	} {
		got, ok := impl.Hex(c.text)
		if !ok || got != c.hex {
			t.Errorf("Hex(%q) = %q, %t; want %q", c.text, got, ok, c.hex)
		}
	}
}

func TestHexIsReadBack(t *testing.T) {
	for _, text := range []string{
		"", "\x00", "a", "\xff", "ab\x00", allBytes(),
		strings.Repeat("\xa5", impl.MaxText-1), strings.Repeat("\x5a", impl.MaxText),
	} {
		hex, ok := impl.Hex(text)
		if !ok || len(hex) != 2*len(text) {
			t.Errorf("Hex of %d bytes = %d bytes, %t", len(text), len(hex), ok)
		}
		back, ok := impl.Unhex(hex)
		if !ok || back != text {
			t.Errorf("Unhex of %d figures = %d bytes, %t", len(hex), len(back), ok)
		}
	}
}

func TestHexRefusesLongTexts(t *testing.T) {
	for _, length := range []int{impl.MaxText + 1, 2 * impl.MaxText} {
		hex, ok := impl.Hex(strings.Repeat("a", length))
		if ok || hex != "" {
			t.Errorf("Hex of %d bytes = %d bytes, %t", length, len(hex), ok)
		}
	}
}

func wantNoUnhex(t *testing.T, hex string) {
	t.Helper()
	text, ok := impl.Unhex(hex)
	if ok || text != "" {
		t.Errorf("Unhex(%.20q ..) of %d figures = %d bytes, %t; want nothing", hex, len(hex), len(text), ok)
	}
}

func TestUnhexRefusesWhatNoHexIs(t *testing.T) {
	for _, hex := range []string{
		"0", "a", "abc", "61626", "A0", "0F", "aB", "61fF", "0x", "0x61", "-1", "+1", " 61", "61 ", "6 ", " 1",
		"zz", "g0", "0g", "61\n\n", "\x00\x00", "\xff\xff", "é", "6162zz", "zz6162",
		strings.Repeat("61", impl.MaxText) + "6",
		strings.Repeat("61", impl.MaxText) + "61",
		strings.Repeat("61", impl.MaxText-1) + "6G",
	} {
		wantNoUnhex(t, hex)
	}
}

func TestUnhexKnowsSixteenFigures(t *testing.T) {
	for b := range 256 {
		figure := string([]byte{byte(b)})
		value := strings.Index("0123456789abcdef", figure)
		if value < 0 {
			wantNoUnhex(t, figure+"0")
			wantNoUnhex(t, "0"+figure)
			continue
		}
		text, ok := impl.Unhex(figure + "0" + "0" + figure)
		if !ok || text != string([]byte{byte(value * 16), byte(value)}) {
			t.Errorf("Unhex of the figure %q = %q, %t", figure, text, ok)
		}
	}
}

func TestDecimalOfEveryInt(t *testing.T) {
	for _, c := range []struct {
		n    int
		text string
	}{
		{0, "0"}, {1, "1"}, {-1, "-1"}, {9, "9"}, {-9, "-9"}, {10, "10"}, {-10, "-10"}, {100, "100"},
		{1000000000, "1000000000"}, {1000000001, "1000000001"}, {-1000000000, "-1000000000"},
		{2147483648, "2147483648"}, {-2147483649, "-2147483649"},
		{math.MaxInt, "9223372036854775807"}, {math.MaxInt - 1, "9223372036854775806"},
		{math.MinInt, "-9223372036854775808"}, {math.MinInt + 1, "-9223372036854775807"},
	} {
		if got := impl.Decimal(c.n); got != c.text {
			t.Errorf("Decimal(%d) = %q; want %q", c.n, got, c.text)
		}
	}
	ten := 1
	for range 18 {
		ten *= 10
		for _, n := range []int{ten - 1, ten, ten + 1, -ten + 1, -ten, -ten - 1} {
			if got := impl.Decimal(n); got != strconv.FormatInt(int64(n), 10) {
				t.Errorf("Decimal(%d) = %q", n, got)
			}
		}
	}
}

func TestDecimalIsReadBack(t *testing.T) {
	wantBack := func(n int) {
		back, ok := impl.ReadDecimal(impl.Decimal(n))
		if !ok || back != n {
			t.Errorf("ReadDecimal(Decimal(%d)) = %d, %t", n, back, ok)
		}
	}
	for n := 0; n <= impl.MaxNumber; n += 1 + n/50 {
		wantBack(n)
	}
	for ten := 1; ten <= impl.MaxNumber; ten *= 10 {
		wantBack(ten)
		wantBack(ten - 1)
	}
}

func TestReadDecimalRefusesWhatNoDecimalIs(t *testing.T) {
	for _, text := range []string{
		"", " ", "-", "+", "00", "01", "007", "0000000000", "00000000001", "-0", "+0", "-1", "+1", "-1000000000",
		" 1", "1 ", "1 2", "1\n", "1.0", "1e3", "1_000", "0x1", "a", "1a", "a1", "1:", "1/", ":", "/", "\x00", "1\x00", "\xb2", "٣", "１",
		"1000000001", "1000000010", "1999999999", "2000000000", "9999999999", "10000000000", "4294967297", "4294967296",
		"9223372036854775807", "9223372036854775808", "18446744073709551615", "18446744073709551616", "18446744073709551617", "36893488147419103232",
		strings.Repeat("9", 1000), "1" + strings.Repeat("0", 64), strings.Repeat("0", 1000), strings.Repeat("1", impl.MaxText+1),
	} {
		n, ok := impl.ReadDecimal(text)
		if ok || n != 0 {
			t.Errorf("ReadDecimal(%.30q) = %d, %t; want 0, false", text, n, ok)
		}
	}
}

func TestReadDecimalKnowsTenFigures(t *testing.T) {
	for b := range 256 {
		n, ok := impl.ReadDecimal("1" + string([]byte{byte(b)}))
		figure := b >= '0' && b <= '9'
		if ok != figure || figure && n != 10+b-'0' || !figure && n != 0 {
			t.Errorf("ReadDecimal of 1 and the byte %d = %d, %t", b, n, ok)
		}
	}
}

func wantParts(t *testing.T, line string, want ...string) {
	t.Helper()
	parts, ok := impl.PartsOf(line)
	if !ok || !slices.Equal(parts, want) {
		t.Errorf("PartsOf(%q) = %q, %t; want %q, true", line, parts, ok, want)
	}
}

func wantNoParts(t *testing.T, line string) {
	t.Helper()
	parts, ok := impl.PartsOf(line)
	if ok || len(parts) != 0 {
		t.Errorf("PartsOf(%.40q) of %d bytes = %q, %t; want nothing", line, len(line), parts, ok)
	}
}

func TestPartsStandBetweenBlanks(t *testing.T) {
	wantParts(t, "")
	wantParts(t, " ")
	wantParts(t, "     ")
	wantParts(t, strings.Repeat(" ", impl.MaxWords))
	wantParts(t, "one", "one")
	wantParts(t, " one", "one")
	wantParts(t, "one ", "one")
	wantParts(t, "   one   ", "one")
	wantParts(t, "a b", "a", "b")
	wantParts(t, "  tick   1 2  ", "tick", "1", "2")
	wantParts(t, "b a b", "b", "a", "b")
	wantParts(t, "!~ ~! \"'\\", "!~", "~!", "\"'\\")
}

func TestPartsOfHoldsItsLimits(t *testing.T) {
	ten := []string{"1", "2", "3", "4", "5", "6", "7", "8", "9", "10"}
	wantParts(t, strings.Join(ten, " "), ten...)
	wantParts(t, "  "+strings.Join(ten, "   ")+" ", ten...)
	wantNoParts(t, strings.Join(ten, " ")+" 11")
	wantNoParts(t, strings.Repeat("a ", impl.MaxWords/2))
	long := strings.Repeat("a", impl.MaxWords)
	wantParts(t, long, long)
	wantParts(t, long[2:]+"  ", long[2:])
	wantNoParts(t, long+"a")
	wantNoParts(t, long+" ")
	wantNoParts(t, strings.Repeat(" ", impl.MaxWords+1))
}

func TestPartsOfKnowsWhichBytesALineHas(t *testing.T) {
	for b := range 256 {
		sign := string([]byte{byte(b)})
		switch {
		case b < 32 || b > 126:
			wantNoParts(t, sign)
			wantNoParts(t, "a"+sign+"b")
			wantNoParts(t, "a b c "+sign)
			wantNoParts(t, sign+" ")
		case b == 32:
			wantParts(t, "a"+sign+"b", "a", "b")
		default:
			wantParts(t, "a"+sign+"b", "a"+sign+"b")
			wantParts(t, " "+sign+" ", sign)
		}
	}
	wantNoParts(t, "né")
	wantNoParts(t, "a\u00a0b")
	wantNoParts(t, "a\u2003b")
}

func TestPartsOfAnswersNewMemory(t *testing.T) {
	line := strings.Repeat("part ", 3)
	parts, _ := impl.PartsOf(line)
	for _, part := range parts {
		if shares(line, part) {
			t.Error("PartsOf answers pieces of its argument")
		}
	}
	parts[0] = "other"
	if again, _ := impl.PartsOf(line); again[0] != "part" {
		t.Error("an answer of PartsOf is kept")
	}
}
