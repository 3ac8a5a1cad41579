package impl

import (
	"strconv"
	"strings"
)

const (
	MaxText   = 20000
	MaxNumber = 1000000000
	MaxWords  = 600
	MaxParts  = 10
)

const (
	decimalFigures = "0123456789"
	hexFigures     = "0123456789abcdef"
)

// MaxNumber has 30 bits, seven of which go into a byte.
const maxVarBytes = 5

// MaxNumber has ten figures.
const maxFigures = 10

func VarText(n int) (string, bool) {
	if n < 0 || n > MaxNumber {
		return "", false
	}
	var out []byte
	for n > 127 {
		out = append(out, byte(n%128+128))
		n /= 128
	}
	return string(append(out, byte(n))), true
}

func ReadVar(text string, at int) (int, int, bool) {
	if at < 0 || at > len(text) {
		return 0, 0, false
	}
	end := min(len(text), at+maxVarBytes)
	n, weight := 0, 1
	for i := at; i < end; i++ {
		b := int(text[i])
		n += b % 128 * weight
		weight *= 128
		if b > 127 {
			continue
		}
		// A nought on top of other bytes is a longer form.
		if b == 0 && i > at || n > MaxNumber {
			break
		}
		return n, i + 1, true
	}
	return 0, 0, false
}

func ShortText(s string) (string, bool) {
	if len(s) > MaxText {
		return "", false
	}
	head, ok := VarText(len(s))
	return head + s, ok
}

func ReadShort(text string, at int) (string, int, bool) {
	size, from, ok := ReadVar(text, at)
	if !ok || size > MaxText || size > len(text)-from {
		return "", 0, false
	}
	// Cloned, as an answer shares no memory with an argument.
	return strings.Clone(text[from : from+size]), from + size, true
}

func Hex(text string) (string, bool) {
	if len(text) > MaxText {
		return "", false
	}
	out := make([]byte, 0, 2*len(text))
	for i := 0; i < len(text); i++ {
		out = append(out, hexFigures[text[i]/16], hexFigures[text[i]%16])
	}
	return string(out), true
}

func Unhex(text string) (string, bool) {
	if len(text)%2 != 0 || len(text) > 2*MaxText {
		return "", false
	}
	values, ok := valuesOf(text, hexFigures)
	if !ok {
		return "", false
	}
	out := make([]byte, len(text)/2)
	for i := range out {
		out[i] = values[2*i]*16 + values[2*i+1]
	}
	return string(out), true
}

// valuesOf tells what each figure of text is worth, which is its place among figures.
func valuesOf(text string, figures string) ([]byte, bool) {
	values := make([]byte, 0, len(text))
eachFigure:
	for i := 0; i < len(text); i++ {
		for value := 0; value < len(figures); value++ {
			if text[i] == figures[value] {
				values = append(values, byte(value))
				continue eachFigure
			}
		}
		return nil, false
	}
	return values, true
}

func Decimal(n int) string {
	return strconv.Itoa(n)
}

func ReadDecimal(text string) (int, bool) {
	// The length is bounded first, so that the number below can't go round.
	if text == "" || len(text) > maxFigures || text[0] == '0' && text != "0" {
		return 0, false
	}
	values, ok := valuesOf(text, decimalFigures)
	if !ok {
		return 0, false
	}
	n := 0
	for _, value := range values {
		n = n*10 + int(value)
	}
	if n > MaxNumber {
		return 0, false
	}
	return n, true
}

func PartsOf(line string) ([]string, bool) {
	if len(line) > MaxWords || !isPrintable(line) {
		return nil, false
	}
	var parts []string
	for _, part := range strings.Split(line, " ") {
		if part != "" {
			parts = append(parts, strings.Clone(part))
		}
	}
	if len(parts) > MaxParts {
		return nil, false
	}
	return parts, true
}

func isPrintable(line string) bool {
	for i := 0; i < len(line); i++ {
		if line[i] < 32 || line[i] > 126 {
			return false
		}
	}
	return true
}
