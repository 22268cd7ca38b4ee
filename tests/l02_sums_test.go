package tests

import (
	"math"
	"strings"
	"testing"

	"loop.example/g00469/impl"
)

// sumByBits is the document's rule for SumMore, reckoned bit by bit.
func sumByBits(sum uint32, text string) uint32 {
	for i := 0; i < len(text); i++ {
		sum ^= uint32(text[i])
		for range 8 {
			odd := sum%2 == 1
			sum /= 2
			if odd {
				sum ^= 3558460437
			}
		}
	}
	return sum
}

// startSums are the edges of a sum, each of its bits alone, and some with bits in every place.
func startSums() []uint32 {
	sums := []uint32{0, math.MaxUint32, math.MaxUint32 - 1, 3558460437, 0x12345678, 0xfedcba98, 0x0f0f0f0f, 0xaaaaaaaa}
	for bit := range 32 {
		sums = append(sums, 1<<bit)
	}
	return sums
}

// sumTexts are texts of every byte, of noughts, of single bits, and of several lengths.
func sumTexts() []string {
	texts := []string{"", "a", "abc", "123456789", "\x00\x00", "\x80\x01", "\x01\x80", "\xff\xff\xff\xff", allBytes(), allBytes() + "x" + allBytes()}
	for b := range 256 {
		one := string([]byte{byte(b)})
		texts = append(texts, one, one+one, "\x00"+one, one+"\x00")
	}
	for length := range 40 {
		texts = append(texts, strings.Repeat("\x00", length), allBytes()[200-length:200])
	}
	return texts
}

// turned is a text with another byte at one place.
func turned(text string, at int, by byte) string {
	return text[:at] + string([]byte{text[at] ^ by}) + text[at+1:]
}

func wantUnsealed(t *testing.T, sealed, want string) {
	t.Helper()
	text, ok := impl.Unsealed(sealed)
	if !ok || text != want {
		t.Errorf("Unsealed(%.20q ..) of %d bytes = %d bytes, %t; want %d bytes, true", sealed, len(sealed), len(text), ok, len(want))
	}
}

func wantNotSealed(t *testing.T, sealed string) {
	t.Helper()
	text, ok := impl.Unsealed(sealed)
	if ok || text != "" {
		t.Errorf("Unsealed(%.20q ..) of %d bytes = %d bytes, %t; want nothing", sealed, len(sealed), len(text), ok)
	}
}

// sealedByBits is what Sealed writes, of a text of any length.
func sealedByBits(text string) string {
	sum := sumByBits(4294967295, text)
	return text + string([]byte{byte(sum / 16777216), byte(sum / 65536), byte(sum / 256), byte(sum)})
}

func TestSumMoreIsTheDocumentsRule(t *testing.T) {
	for _, sum := range startSums() {
		for _, text := range sumTexts() {
			if got, want := impl.SumMore(sum, text), sumByBits(sum, text); got != want {
				t.Errorf("SumMore(%d, %.20q) = %d; want %d", sum, text, got, want)
			}
		}
	}
}

func TestSumMoreOfSumsWrittenOut(t *testing.T) {
	for _, c := range []struct {
		sum  uint32
		text string
		want uint32
	}{
		{0, "", 0},
		{0, "\x00", 0},
		{0, "\x80", 3558460437},
		{128, "\x00", 3558460437},
		{1, "\x01", 0},
		{256, "\x00", 1},
		{0x80000000, "\x00", 0x00800000},
		{0x12345600, "\x00", 0x00123456},
		{4294967295, "123456789", 0x78ceaa89},
	} {
		if got := impl.SumMore(c.sum, c.text); got != c.want {
			t.Errorf("SumMore(%#x, %q) = %#x; want %#x", c.sum, c.text, got, c.want)
		}
	}
}

func TestSumMoreOfNothingIsTheSum(t *testing.T) {
	for _, sum := range startSums() {
		if got := impl.SumMore(sum, ""); got != sum {
			t.Errorf("SumMore(%d, \"\") = %d", sum, got)
		}
	}
}

func TestSumMoreGoesOn(t *testing.T) {
	text := "goes on where it stopped\x00\x00\xff\x80" + allBytes()
	for _, sum := range startSums() {
		whole := impl.SumMore(sum, text)
		for cut := 0; cut <= len(text); cut++ {
			if got := impl.SumMore(impl.SumMore(sum, text[:cut]), text[cut:]); got != whole {
				t.Fatalf("SumMore of %d in two texts, cut at %d, = %d; want %d", sum, cut, got, whole)
			}
		}
	}
	for cut := 0; cut <= len(text); cut++ {
		if got := impl.SumMore(impl.SumOf(text[:cut]), text[cut:]); got != impl.SumOf(text) {
			t.Errorf("SumMore of SumOf, cut at %d, = %d; want %d", cut, got, impl.SumOf(text))
		}
	}
}

func TestSumOfBeginsWithAllBits(t *testing.T) {
	if got := impl.SumOf(""); got != 4294967295 {
		t.Errorf("SumOf(\"\") = %d", got)
	}
	for _, text := range append(sumTexts(), strings.Repeat("long", impl.MaxText)) {
		got := impl.SumOf(text)
		if got != impl.SumMore(4294967295, text) || got != sumByBits(4294967295, text) {
			t.Errorf("SumOf(%.20q) of %d bytes = %d", text, len(text), got)
		}
	}
}

func TestSealedIsTheTextAndItsSum(t *testing.T) {
	texts := append(sumTexts(), strings.Repeat("s", impl.MaxText-1), strings.Repeat("\xa5", impl.MaxText))
	for _, text := range texts {
		sealed, ok := impl.Sealed(text)
		if !ok || sealed != sealedByBits(text) {
			t.Errorf("Sealed of %d bytes = %d bytes, %t", len(text), len(sealed), ok)
		}
	}
	for _, c := range []struct{ text, sealed string }{
		{"", "\xff\xff\xff\xff"},
		{"123456789", "123456789\x78\xce\xaa\x89"},
	} {
		sealed, ok := impl.Sealed(c.text)
		if !ok || sealed != c.sealed {
			t.Errorf("Sealed(%q) = %q, %t; want %q", c.text, sealed, ok, c.sealed)
		}
	}
}

func TestSealedRefusesLongTexts(t *testing.T) {
	for _, length := range []int{impl.MaxText + 1, impl.MaxText + 4, 2 * impl.MaxText} {
		sealed, ok := impl.Sealed(strings.Repeat("s", length))
		if ok || sealed != "" {
			t.Errorf("Sealed of %d bytes = %d bytes, %t", length, len(sealed), ok)
		}
	}
}

func TestSealedIsUnsealed(t *testing.T) {
	texts := append(sumTexts(), "\xff\xff\xff\xff", strings.Repeat("u", impl.MaxText-1), strings.Repeat("u", impl.MaxText))
	for _, text := range texts {
		sealed, _ := impl.Sealed(text)
		wantUnsealed(t, sealed, text)
		wantUnsealed(t, sealedByBits(text), text)
	}
	twice, _ := impl.Sealed(sealedByBits("twice"))
	wantUnsealed(t, twice, sealedByBits("twice"))
}

func TestOneByteTurnedIsNotSealed(t *testing.T) {
	for _, text := range []string{"", "a", "\x00", "\x00\x00\x00\x00", "abcdefgh", allBytes()} {
		sealed, _ := impl.Sealed(text)
		for at := range len(sealed) {
			for by := 1; by < 256; by++ {
				wantNotSealed(t, turned(sealed, at, byte(by)))
			}
		}
	}
}

func TestOneByteOfALongTextTurnedIsNotSealed(t *testing.T) {
	sealed, _ := impl.Sealed(strings.Repeat("long", impl.MaxText/4))
	for _, at := range []int{0, 1, impl.MaxText / 2, impl.MaxText - 1, impl.MaxText, impl.MaxText + 1, impl.MaxText + 2, impl.MaxText + 3} {
		for _, by := range []byte{1, 2, 16, 128, 255} {
			wantNotSealed(t, turned(sealed, at, by))
		}
	}
}

func TestUnsealedRefusesWhatNoSealedIs(t *testing.T) {
	for _, text := range []string{
		"", "\xff", "\xff\xff", "\xff\xff\xff", "a", "ab", "abc", "\x00", "\x00\x00\x00",
		"\x00\x00\x00\x00", "\xff\xff\xff\xfe", "\xff\xff\xff\xff\xff", "\x00\xff\xff\xff\xff",
		"123456789\x89\xaa\xce\x78",
		"123456789\x87\x31\x55\x76",
		"\x78\xce\xaa\x89123456789",
		"123456789\x78\xce\xaa",
		"123456789\x78\xce\xaa\x89\x00",
		"\x00123456789\x78\xce\xaa\x89",
	} {
		wantNotSealed(t, text)
	}
}

func TestUnsealedRefusesLongTexts(t *testing.T) {
	for _, length := range []int{impl.MaxText + 1, impl.MaxText + 4, 2 * impl.MaxText} {
		wantNotSealed(t, sealedByBits(strings.Repeat("u", length)))
	}
}

func TestUnsealedAnswersNewMemory(t *testing.T) {
	sealed, _ := impl.Sealed("a text of some length")
	text, ok := impl.Unsealed(sealed)
	if !ok || shares(sealed, text) {
		t.Error("Unsealed answers a piece of its argument")
	}
}
