package impl

import (
	"strconv"
	"strings"
)

const (
	MaxText   = 20000
	MaxNumber = 1000000000
	MaxWords  = 600
	MaxParts  = 10
)

// Five bytes of seven bits hold MaxNumber, so that what goes on behind them is the VarText of no number.
const maxVarBytes = 5

const hexFigures = "0123456789abcdef"

func VarText(n int) (string, bool) {
	if n < 0 || n > MaxNumber {
		return "", false
	}
	var out []byte
	for n > 127 {
		out = append(out, byte(n%128+128))
		n /= 128
	}
	return string(append(out, byte(n))), true
}

func ReadVar(text string, at int) (int, int, bool) {
	if at < 0 || at > len(text) {
		return 0, 0, false
	}
	n, unit := 0, 1
figures:
	for i := at; i < len(text) && i < at+maxVarBytes; i++ {
		figure := int(text[i])
		n += figure % 128 * unit
		switch {
		case figure > 127:
			unit *= 128
			continue figures
		case figure == 0 && i > at:
			// The bytes ahead of a last 0 would be enough: a longer form.
			break figures
		case n > MaxNumber:
			break figures
		}
		return n, i + 1, true
	}
	return 0, 0, false
}

func ShortText(s string) (string, bool) {
	if len(s) > MaxText {
		return "", false
	}
	length, ok := VarText(len(s))
	return length + s, ok
}

func ReadShort(text string, at int) (string, int, bool) {
	length, from, ok := ReadVar(text, at)
	if !ok || length > MaxText || length > len(text)-from {
		return "", 0, false
	}
	// A piece of a string shares its bytes, and an answer is new memory.
	return strings.Clone(text[from : from+length]), from + length, true
}

func Hex(text string) (string, bool) {
	if len(text) > MaxText {
		return "", false
	}
	out := make([]byte, 0, 2*len(text))
	for i := 0; i < len(text); i++ {
		out = append(out, hexFigures[text[i]/16], hexFigures[text[i]%16])
	}
	return string(out), true
}

func Unhex(text string) (string, bool) {
	if len(text)%2 != 0 || len(text) > 2*MaxText {
		return "", false
	}
	out := make([]byte, 0, len(text)/2)
	var high byte
figures:
	for i := 0; i < len(text); i++ {
		half, ok := hexHalf(text[i])
		switch {
		case !ok:
			return "", false
		case i%2 == 0:
			high = half
			continue figures
		}
		out = append(out, high*16+half)
	}
	return string(out), true
}

// hexHalf knows no capital figures: Hex writes none.
func hexHalf(figure byte) (byte, bool) {
	switch {
	case figure >= '0' && figure <= '9':
		return figure - '0', true
	case figure >= 'a' && figure <= 'f':
		return figure - 'a' + 10, true
	}
	return 0, false
}

func Decimal(n int) string {
	return strconv.Itoa(n)
}

func ReadDecimal(text string) (int, bool) {
	n, at := 0, 0
figures:
	for at < len(text) {
		figure := text[at]
		switch {
		case figure < '0' || figure > '9':
			break figures
		case figure == '0' && at == 0 && len(text) > 1:
			break figures
		}
		n = n*10 + int(figure-'0')
		// Left at once, so that very many figures never wrap round.
		if n > MaxNumber {
			break figures
		}
		at++
	}
	if at == 0 || at < len(text) {
		return 0, false
	}
	return n, true
}

func PartsOf(line string) ([]string, bool) {
	if len(line) > MaxWords || !plainLine(line) {
		return nil, false
	}
	// The only white space that a plain line has is the blank.
	parts := strings.Fields(line)
	if len(parts) > MaxParts {
		return nil, false
	}
	for i, part := range parts {
		parts[i] = strings.Clone(part)
	}
	return parts, true
}

func plainLine(line string) bool {
	for i := 0; i < len(line); i++ {
		if line[i] < 32 || line[i] > 126 {
			return false
		}
	}
	return true
}
