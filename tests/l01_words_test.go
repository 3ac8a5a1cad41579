package tests

import (
	"encoding/binary"
	"encoding/hex"
	"fmt"
	"math"
	"slices"
	"strings"
	"testing"
	"unsafe"

	"loop.example/g00237/impl"
)

// numbers has every limit at which the form of a number changes, its neighbours, and what lies between.
func numbers() []int {
	list := []int{0, 1, 9, 10, 126, 127, 128, 129, 255, 256, 300, 16382, 16383, 16384, 16385,
		2097151, 2097152, 268435455, 268435456, 999999999, impl.MaxNumber - 1, impl.MaxNumber}
	for n := 3; n < impl.MaxNumber; n = n*5/3 + 1 {
		list = append(list, n)
	}
	return list
}

func outsideNumbers() []int {
	return []int{math.MinInt, -impl.MaxNumber, -128, -1, impl.MaxNumber + 1, 1 << 30, 1 << 35, math.MaxInt}
}

// texts has texts at the limits of lengths, with every byte among them.
func texts() []string {
	var all strings.Builder
	for b := 0; b < 256; b++ {
		all.WriteByte(byte(b))
	}
	list := []string{"", "a", "\x00", "\xff", "two words\n", "h\u00e9", all.String()}
	for _, size := range []int{127, 128, 129, 16383, 16384, impl.MaxText - 1, impl.MaxText} {
		list = append(list, strings.Repeat(all.String(), size/256+1)[:size])
	}
	return list
}

func TestWordLimits(t *testing.T) {
	if impl.MaxText != 20000 || impl.MaxNumber != 1000000000 || impl.MaxWords != 600 || impl.MaxParts != 10 {
		t.Error("a limit is not the document's")
	}
}

func TestVarTextForm(t *testing.T) {
	forms := map[int]string{0: "\x00", 1: "\x01", 127: "\x7f", 128: "\x80\x01", 300: "\xac\x02", 16383: "\xff\x7f",
		16384: "\x80\x80\x01", 1000000000: "\x80\x94\xeb\xdc\x03"}
	for n, want := range forms {
		if got, ok := impl.VarText(n); !ok || got != want {
			t.Errorf("VarText(%d) = %q, %v; want %q", n, got, ok, want)
		}
	}
	for _, n := range numbers() {
		want := string(binary.AppendUvarint(nil, uint64(n)))
		if got, ok := impl.VarText(n); !ok || got != want {
			t.Errorf("VarText(%d) = %q, %v; want %q", n, got, ok, want)
		}
	}
	for _, n := range outsideNumbers() {
		if got, ok := impl.VarText(n); ok || got != "" {
			t.Errorf("VarText(%d) = %q, %v; want none", n, got, ok)
		}
	}
}

func TestVarTextIsReadBack(t *testing.T) {
	for _, n := range numbers() {
		s, _ := impl.VarText(n)
		for _, ahead := range []string{"", "\x00", "\x80\x80", "abc"} {
			for _, behind := range []string{"", "\x00", "\x81", "\xff\xff"} {
				got, at, ok := impl.ReadVar(ahead+s+behind, len(ahead))
				if !ok || got != n || at != len(ahead+s) {
					t.Errorf("ReadVar(%q, %d) = %d, %d, %v; want %d", ahead+s+behind, len(ahead), got, at, ok, n)
				}
			}
		}
	}
}

func refusedVar(t *testing.T, text string, at int) {
	t.Helper()
	if n, next, ok := impl.ReadVar(text, at); ok || n != 0 || next != 0 {
		t.Errorf("ReadVar(%q, %d) = %d, %d, %v; want none", text, at, n, next, ok)
	}
}

func TestReadVarRefuses(t *testing.T) {
	for _, text := range []string{
		"", "\x80", "\xff\xff", "\x80\x94\xeb\xdc", // cut short
		"\x80\x00", "\xff\x00", "\x81\x80\x00", "\x80\x80\x80\x80\x00", "\xac\x82\x00", // longer forms
		"\x80\x94\xeb\xdc\x83\x00", "\x80\x80\x80\x80\x80\x00", "\x80\x80\x80\x80\x80\x80\x80\x80\x80\x01",
		"\x81\x94\xeb\xdc\x03", "\xff\xff\xff\xff\x7f", "\x80\x80\x80\x80\x80\x01", // above MaxNumber
		strings.Repeat("\x80", 100) + "\x01", strings.Repeat("\xff", 100),
	} {
		refusedVar(t, text, 0)
		refusedVar(t, "\x01\x80"+text, 2)
	}
	for _, at := range []int{math.MinInt, -1, 3, 4, 5, math.MaxInt} {
		refusedVar(t, "\x01\x02\x03", at)
	}
	refusedVar(t, "", 1)
	refusedVar(t, "", -1)
}

func TestReadVarTakesJustVarText(t *testing.T) {
	edges := []byte{0, 1, 2, 3, 4, 127, 128, 129, 148, 220, 235, 255}
	row := []string{""}
	for range 5 {
		var longer []string
		for _, text := range row {
			for _, b := range edges {
				longer = append(longer, text+string([]byte{b}))
			}
		}
		row = longer
		for _, text := range row {
			n, at, ok := impl.ReadVar(text, 0)
			want, size := binary.Uvarint([]byte(text))
			right := size > 0 && want <= impl.MaxNumber && len(binary.AppendUvarint(nil, want)) == size
			if ok != right || ok && (n != int(want) || at != size) || !ok && (n != 0 || at != 0) {
				t.Fatalf("ReadVar(%q, 0) = %d, %d, %v; want %d, %d, %v", text, n, at, ok, want, size, right)
			}
		}
	}
}

func TestShortTextIsReadBack(t *testing.T) {
	for _, s := range texts() {
		short, ok := impl.ShortText(s)
		if want := string(binary.AppendUvarint(nil, uint64(len(s)))) + s; !ok || short != want {
			t.Errorf("ShortText of %d bytes = %.20q, %v; want %.20q", len(s), short, ok, want)
		}
		for _, ahead := range []string{"", "\x05", "\x80"} {
			for _, behind := range []string{"", "z", "\x80\x00"} {
				got, at, ok := impl.ReadShort(ahead+short+behind, len(ahead))
				if !ok || got != s || at != len(ahead+short) {
					t.Errorf("ReadShort of %d bytes = %.20q, %d, %v", len(s), got, at, ok)
				}
			}
		}
	}
	for _, size := range []int{impl.MaxText + 1, impl.MaxText + 2, 3 * impl.MaxText} {
		if got, ok := impl.ShortText(strings.Repeat("x", size)); ok || got != "" {
			t.Errorf("ShortText of %d bytes = %.20q, %v; want none", size, got, ok)
		}
	}
}

func TestReadShortRefuses(t *testing.T) {
	tooLong := string(binary.AppendUvarint(nil, impl.MaxText+1)) + strings.Repeat("x", impl.MaxText+1)
	most, _ := impl.ShortText(strings.Repeat("x", impl.MaxText))
	cases := []struct {
		text string
		at   int
	}{
		{"", 0}, {"", 1}, {"", -1}, {"\x01a", -1}, {"\x01a", 2}, {"\x01a", 3}, {"\x01a", math.MaxInt}, {"\x01a", math.MinInt},
		{"\x01", 0}, {"\x03ab", 0}, {"xx\x02a", 2}, {"\x80", 0}, {"\x81\x00a", 0}, {"\x80\x00", 0},
		{"\x80\x94\xeb\xdc\x03abc", 0}, {"\xff\xff\xff\xff\x7fabc", 0},
		{tooLong, 0}, {"ab" + tooLong, 2}, {most[:len(most)-1], 0},
	}
	for _, c := range cases {
		if s, at, ok := impl.ReadShort(c.text, c.at); ok || s != "" || at != 0 {
			t.Errorf("ReadShort(%.20q, %d) = %.20q, %d, %v; want none", c.text, c.at, s, at, ok)
		}
	}
}

func TestHexIsReadBack(t *testing.T) {
	for _, s := range texts() {
		figures, ok := impl.Hex(s)
		if want := hex.EncodeToString([]byte(s)); !ok || figures != want {
			t.Errorf("Hex of %d bytes = %.20q, %v; want %.20q", len(s), figures, ok, want)
		}
		if got, ok := impl.Unhex(figures); !ok || got != s {
			t.Errorf("Unhex of %d figures = %.20q, %v; want %.20q", len(figures), got, ok, s)
		}
	}
	if got, ok := impl.Hex("\x00\x0f\xf0\xab"); !ok || got != "000ff0ab" {
		t.Errorf("Hex = %q, %v", got, ok)
	}
	if got, ok := impl.Hex(strings.Repeat("x", impl.MaxText+1)); ok || got != "" {
		t.Errorf("Hex beyond MaxText = %.20q, %v; want none", got, ok)
	}
}

func refusedHex(t *testing.T, text string) {
	t.Helper()
	if got, ok := impl.Unhex(text); ok || got != "" {
		t.Errorf("Unhex(%.20q) = %.20q, %v; want none", text, got, ok)
	}
}

func TestUnhexRefuses(t *testing.T) {
	for _, text := range []string{"0", "abc", "0A", "A0", "FF", "0x", " 0", "0 ", "-1", "+1", "1\n", "\x00\x00", "\u00e9",
		strings.Repeat("0", 2*impl.MaxText+1), strings.Repeat("0", 2*impl.MaxText+2)} {
		refusedHex(t, text)
	}
	for b := 0; b < 256; b++ {
		sign := string([]byte{byte(b)})
		if !strings.Contains("0123456789abcdef", sign) {
			refusedHex(t, sign+"0")
			refusedHex(t, "0"+sign)
			refusedHex(t, "00ff"+sign+sign+"00")
		}
	}
}

func TestDecimalOfEveryInt(t *testing.T) {
	fixed := map[int]string{0: "0", 7: "7", -5: "-5", 10: "10", -10: "-10", impl.MaxNumber: "1000000000",
		-impl.MaxNumber - 1: "-1000000001", math.MaxInt: "9223372036854775807", math.MinInt: "-9223372036854775808",
		math.MinInt + 1: "-9223372036854775807"}
	for n, want := range fixed {
		if got := impl.Decimal(n); got != want {
			t.Errorf("Decimal(%d) = %q; want %q", n, got, want)
		}
	}
	for n := math.MaxInt; n > 0; n = n / 10 * 9 {
		for _, m := range []int{n, -n, n - 1, 1 - n} {
			if got, want := impl.Decimal(m), fmt.Sprint(m); got != want {
				t.Errorf("Decimal(%d) = %q", m, got)
			}
		}
	}
}

func TestDecimalIsReadBack(t *testing.T) {
	for _, n := range numbers() {
		if got, ok := impl.ReadDecimal(impl.Decimal(n)); !ok || got != n {
			t.Errorf("ReadDecimal of Decimal(%d) = %d, %v", n, got, ok)
		}
	}
	for n := range 2000 {
		if got, ok := impl.ReadDecimal(impl.Decimal(n)); !ok || got != n {
			t.Errorf("ReadDecimal of Decimal(%d) = %d, %v", n, got, ok)
		}
	}
}

func refusedDecimal(t *testing.T, text string) {
	t.Helper()
	if got, ok := impl.ReadDecimal(text); ok || got != 0 {
		t.Errorf("ReadDecimal(%q) = %d, %v; want none", text, got, ok)
	}
}

func TestReadDecimalRefuses(t *testing.T) {
	for _, text := range []string{"", "00", "01", "007", "0000000000", "01000000000", "-0", "-1", "-", "+", "+1", "1-", " 1", "1 ",
		"1_0", "0x1", "1.0", "1e3", "a", "1000000001", "1999999999", "9999999999", "10000000000",
		"9223372036854775807", "18446744073709551616", "18446744073709551617", strings.Repeat("9", 500)} {
		refusedDecimal(t, text)
	}
	for _, n := range outsideNumbers() {
		refusedDecimal(t, impl.Decimal(n))
	}
	for b := 0; b < 256; b++ {
		if b < '0' || b > '9' {
			sign := string([]byte{byte(b)})
			refusedDecimal(t, sign)
			refusedDecimal(t, sign+"1")
			refusedDecimal(t, "1"+sign)
		}
	}
}

func TestPartsOf(t *testing.T) {
	blanks := strings.Repeat(" ", impl.MaxWords-1)
	cases := []struct {
		line string
		want []string
	}{
		{"", nil}, {" ", nil}, {"     ", nil}, {blanks + " ", nil},
		{"a", []string{"a"}}, {"work 1", []string{"work", "1"}}, {" tick  1 2 ", []string{"tick", "1", "2"}},
		{"   a    b   ", []string{"a", "b"}}, {"a,b;c \"d\"", []string{"a,b;c", "\"d\""}}, {"! ~", []string{"!", "~"}},
		{"0 1 2 3 4 5 6 7 8 9", strings.Split("0123456789", "")},
		{"  0  1  2  3  4  5  6  7  8  9  ", strings.Split("0123456789", "")},
		{blanks + "z", []string{"z"}}, {"z" + blanks, []string{"z"}},
		{strings.Repeat("y", impl.MaxWords), []string{strings.Repeat("y", impl.MaxWords)}},
	}
	for _, c := range cases {
		if got, ok := impl.PartsOf(c.line); !ok || !slices.Equal(got, c.want) {
			t.Errorf("PartsOf(%.40q) = %q, %v; want %q", c.line, got, ok, c.want)
		}
	}
}

func TestPartsOfRefuses(t *testing.T) {
	for _, line := range []string{"0 1 2 3 4 5 6 7 8 9 10", "  a b c d e f g h i j k  ", "\x1f", "\x7f", "a\tb", "a\n", "\u00e9",
		strings.Repeat(" ", impl.MaxWords+1), strings.Repeat("y", impl.MaxWords+1), "a" + strings.Repeat(" ", impl.MaxWords)} {
		if got, ok := impl.PartsOf(line); ok || len(got) != 0 {
			t.Errorf("PartsOf(%.40q) = %q, %v; want none", line, got, ok)
		}
	}
}

func TestPartsOfEveryByte(t *testing.T) {
	for b := 0; b < 256; b++ {
		sign := string([]byte{byte(b)})
		var want []string
		switch {
		case b == 32:
			want = []string{"a", "b"}
		case b > 32 && b <= 126:
			want = []string{"a" + sign + "b"}
		}
		got, ok := impl.PartsOf("a" + sign + "b")
		if ok != (b >= 32 && b <= 126) || !slices.Equal(got, want) {
			t.Errorf("PartsOf with byte %d = %q, %v; want %q", b, got, ok, want)
		}
	}
}

// sharesMemory is true when part lies within whole.
func sharesMemory(whole string, part string) bool {
	from := uintptr(unsafe.Pointer(unsafe.StringData(whole)))
	at := uintptr(unsafe.Pointer(unsafe.StringData(part)))
	return len(part) > 0 && at >= from && at < from+uintptr(len(whole))
}

func TestWordsAreNewMemory(t *testing.T) {
	text := string([]byte("\x05hello"))
	if s, _, _ := impl.ReadShort(text, 0); sharesMemory(text, s) {
		t.Error("ReadShort hands out its argument's memory")
	}
	line := string([]byte("some words"))
	first, _ := impl.PartsOf(line)
	second, _ := impl.PartsOf(line)
	for _, part := range first {
		if sharesMemory(line, part) {
			t.Error("PartsOf hands out its argument's memory")
		}
	}
	first[0] = "other"
	if second[0] != "some" {
		t.Error("two answers of PartsOf share a list")
	}
}
