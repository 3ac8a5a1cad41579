package tests

import (
	"fmt"
	"math"
	"math/big"
	"regexp"
	"slices"
	"strings"
	"testing"

	"loop.example/g00237/impl"
)

var (
	aNumber  = regexp.MustCompile(`\A[0-9]{1,6}\z`)
	figures  = regexp.MustCompile(`\A *([0-9]+)`)
	fieldGap = regexp.MustCompile(`[ \t]+`)
)

// numberTexts has numbers at every count of figures, most of them with noughts ahead too.
func numberTexts() []string {
	list := []string{"0", "00", "000000", "000001", "100000", "999998", "999999", "099999", "010000", "10000", "123456"}
	for _, n := range []int{1, 2, 7, 9, 10, 11, 19, 20, 99, 100, 101, 909, 1000} {
		list = append(list, fmt.Sprint(n), fmt.Sprintf("%05d", n), fmt.Sprintf("%06d", n))
	}
	return list
}

// otherTexts has texts that are no numbers, some of which look nearly like one.
func otherTexts() []string {
	return []string{"", " ", "\t", "\x00", "\xff", "a", "A", "aa", "ab", "b", "B", "\u00e9", "-", "-1", "+1", "1.", "1.5", "1e3", "0x1",
		" 7", "7 ", "  7", "7\t", "7\n", "07 ", "10 ", "9 ", "1a", "10a", "9a", "1\x00", "0000000", "0000001", "1000000", "9999999",
		strings.Repeat("9", 40), strings.Repeat("a", 100), strings.Repeat("a", 100) + "\x00", "1:", "1/", "\uff11"}
}

// wholeNumber is the number of figures of any length, modulo Round, without an int of its own.
func wholeNumber(t *testing.T, row string) int {
	t.Helper()
	n, ok := new(big.Int).SetString(row, 10)
	if !ok {
		t.Fatalf("%q is no row of figures", row)
	}
	return int(n.Mod(n, big.NewInt(1000000)).Int64())
}

// wantOrder is -1, 0 or 1 as a is less than, the same as or more than b.
func wantOrder(t *testing.T, a string, b string) int {
	t.Helper()
	if aNumber.MatchString(a) && aNumber.MatchString(b) {
		return wholeNumber(t, a) - wholeNumber(t, b)
	}
	return strings.Compare(a, b)
}

func TestValueLimits(t *testing.T) {
	if impl.MaxVal != 40 || impl.Round != 1000000 {
		t.Error("a limit is not the document's")
	}
}

func TestNumbersAreToldAndReadBack(t *testing.T) {
	for n := range impl.Round {
		s := impl.NumText(n)
		if s != impl.Decimal(n) || !impl.IsNum(s) || impl.NumOf(s) != n {
			t.Fatalf("NumText(%d) = %q, which is read as %d, %v", n, s, impl.NumOf(s), impl.IsNum(s))
		}
	}
}

func TestNumTextByHand(t *testing.T) {
	for n, want := range map[int]string{0: "0", 7: "7", 999999: "999999", 1000000: "0", 1000001: "1", 1999999: "999999", 2000000: "0",
		12345678: "345678", 3000042: "42", -1: "999999", -2: "999998", -999999: "1", -1000000: "0", -1000001: "999999", -2000000: "0",
		math.MaxInt: "775807", math.MaxInt - 1: "775806", math.MinInt: "224192", math.MinInt + 1: "224193"} {
		if got := impl.NumText(n); got != want {
			t.Errorf("NumText(%d) = %q; want %q", n, got, want)
		}
	}
}

func TestNumTextOfEveryInt(t *testing.T) {
	round := big.NewInt(1000000)
	for n := math.MaxInt; n > 0; n = n / 13 * 12 {
		for _, m := range []int{n, -n, n - 1, 1 - n} {
			// Mod of the library is never below 0.
			want := new(big.Int).Mod(big.NewInt(int64(m)), round).String()
			if got := impl.NumText(m); got != want || !impl.IsNum(got) {
				t.Errorf("NumText(%d) = %q; want %q", m, got, want)
			}
		}
	}
	for n := -3000; n < 3000; n++ {
		for _, m := range []int{n, n + impl.Round, n - impl.Round} {
			if got, want := impl.NumText(m), impl.Decimal((n+impl.Round)%impl.Round); got != want {
				t.Errorf("NumText(%d) = %q; want %q", m, got, want)
			}
		}
	}
}

func TestNumOfByHand(t *testing.T) {
	for s, want := range map[string]int{
		"": 0, " ": 0, "     ": 0, "\t": 0, "x": 0, "-": 0, "0": 0, "000": 0, "7": 7, "007": 7, "12": 12, "999999": 999999,
		" 12": 12, "  12x": 12, "          12": 12, strings.Repeat(" ", 500) + "34": 34, " 007 8": 7,
		"12x": 12, "12 34": 12, "12\t34": 12, "12-3": 12, "12.9": 12, "1e3": 1, "0x10": 0, "12\n": 12, "12\x00": 12, "12\xff": 12, "1:2": 1, "1/2": 1,
		"x12": 0, "\t12": 0, " \t12": 0, "\t 12": 0, "\n12": 0, "\r12": 0, "\x0012": 0, "\u00a012": 0, "_12": 0,
		"-12": 0, "+12": 0, " -12": 0, "- 12": 0, "--1": 0, "\uff11": 0,
		"1000000": 0, "1000001": 1, "  1000001z": 1, "1999999": 999999, "0000000000000000000000012": 12,
		"9223372036854775807": 775807, "9223372036854775808": 775808, "18446744073709551616": 551616, "18446744073709551617 ": 551617,
	} {
		if got := impl.NumOf(s); got != want {
			t.Errorf("NumOf(%q) = %d; want %d", s, got, want)
		}
	}
}

func TestNumOfLongRows(t *testing.T) {
	for size := 1; size < 400; size++ {
		for _, row := range []string{strings.Repeat("9", size), "1" + strings.Repeat("0", size), strings.Repeat("1234567", size)[:size],
			strings.Repeat("0", size) + "8", strings.Repeat("9081726354", size), strings.Repeat("5", 7*size) + "000001"} {
			want := wholeNumber(t, row)
			for _, s := range []string{row, " " + row, "   " + row + "x9", row + " 1"} {
				if got := impl.NumOf(s); got != want {
					t.Fatalf("NumOf of %d figures, %.30q.. = %d; want %d", len(row), s, got, want)
				}
			}
		}
	}
}

func TestNumOfEveryByte(t *testing.T) {
	for b := range 256 {
		sign := string([]byte{byte(b)})
		for _, s := range []string{sign, sign + "5", "5" + sign, "5" + sign + "6", " " + sign + "5", " 5" + sign + "6"} {
			want := 0
			if row := figures.FindStringSubmatch(s); row != nil {
				want = wholeNumber(t, row[1])
			}
			if got := impl.NumOf(s); got != want {
				t.Errorf("NumOf(%q) = %d; want %d", s, got, want)
			}
		}
	}
}

func TestIsNum(t *testing.T) {
	for _, s := range numberTexts() {
		if !impl.IsNum(s) {
			t.Errorf("IsNum(%q) is false", s)
		}
	}
	for _, s := range otherTexts() {
		if impl.IsNum(s) {
			t.Errorf("IsNum(%.50q) is true", s)
		}
	}
	for size := range 20 {
		for _, figure := range "0123456789" {
			row := strings.Repeat(string(figure), size)
			if got, want := impl.IsNum(row), size >= 1 && size <= 6; got != want {
				t.Errorf("IsNum(%q) = %v", row, got)
			}
			if impl.IsNum(" "+row) || impl.IsNum(row+" ") || impl.IsNum("\t"+row) || impl.IsNum("-"+row) {
				t.Errorf("IsNum of %q with a sign beside it is true", row)
			}
		}
	}
}

func TestIsNumEveryByte(t *testing.T) {
	for b := range 256 {
		sign := string([]byte{byte(b)})
		for _, s := range []string{sign, sign + "5", "5" + sign, "12" + sign + "34", "12345" + sign, sign + "12345", "123456" + sign} {
			if got, want := impl.IsNum(s), aNumber.MatchString(s); got != want {
				t.Errorf("IsNum(%q) = %v; want %v", s, got, want)
			}
		}
	}
}

func TestLessAndSameByHand(t *testing.T) {
	for _, c := range []struct {
		a, b string
		want int
	}{
		{"9", "10", -1}, {"09", "10", -1}, {"9", "000010", -1}, {"999999", "000001", 1}, {"7", "07", 0}, {"000007", "7", 0},
		{"0", "000000", 0}, {"99999", "100000", -1}, {"2", "11", -1}, {"11", "2", 1},
		{"", "", 0}, {"", "0", -1}, {"", "a", -1}, {"a", "b", -1}, {"a", "ab", -1}, {"ab", "b", -1}, {"B", "a", -1}, {"a", "a", 0},
		{"a", "\xff", -1}, {"\x7f", "\x80", -1}, {"a", "a\x00", -1},
		// One of the two is no number: both are texts.
		{"9", "10a", 1}, {"10", "9a", -1}, {"10", "9 ", -1}, {" 7", "7", -1}, {"7", "7 ", -1}, {"07 ", "7", -1}, {" 9", " 10", 1},
		{"7", "x", -1}, {"7", "-7", 1}, {"-1", "-2", -1},
		// Seven figures are no number.
		{"0000007", "7", -1}, {"0000007", "0000007", 0}, {"1000000", "2", -1}, {"1000000", "0", 1}, {"9999999", "1000000", 1},
		{"9", "1000000", 1}, {"1000001", "1", 1},
	} {
		if impl.Less(c.a, c.b) != (c.want < 0) || impl.Less(c.b, c.a) != (c.want > 0) ||
			impl.Same(c.a, c.b) != (c.want == 0) || impl.Same(c.b, c.a) != (c.want == 0) {
			t.Errorf("%q and %q: less %v, more %v, same %v; want %d", c.a, c.b,
				impl.Less(c.a, c.b), impl.Less(c.b, c.a), impl.Same(c.a, c.b), c.want)
		}
	}
}

func TestOneOfThree(t *testing.T) {
	list := append(numberTexts(), otherTexts()...)
	for _, a := range list {
		for _, b := range list {
			less, more, same := impl.Less(a, b), impl.Less(b, a), impl.Same(a, b)
			want := wantOrder(t, a, b)
			if less != (want < 0) || more != (want > 0) || same != (want == 0) {
				t.Errorf("%.20q and %.20q: less %v, more %v, same %v; want %d", a, b, less, more, same, want)
			}
			held := 0
			for _, is := range []bool{less, more, same} {
				if is {
					held++
				}
			}
			if held != 1 || same != impl.Same(b, a) {
				t.Errorf("%.20q and %.20q: %d of less, more and same hold", a, b, held)
			}
		}
	}
}

func TestLessOfEveryTwoBytes(t *testing.T) {
	for x := range 256 {
		for y := range 256 {
			a, b := string([]byte{byte(x)}), string([]byte{byte(y)})
			if impl.Less("n"+a, "n"+b) != (x < y) || impl.Same("n"+a, "n"+b) != (x == y) ||
				impl.Less(a, b) != (x < y) || impl.Same(a, b) != (x == y) {
				t.Fatalf("the bytes %d and %d are not in their order", x, y)
			}
		}
	}
}

func TestLessDoesNotGoRound(t *testing.T) {
	for _, list := range [][]string{numberTexts(), otherTexts()} {
		for _, a := range list {
			for _, b := range list {
				for _, c := range list {
					if impl.Less(a, b) && impl.Less(b, c) && !impl.Less(a, c) {
						t.Errorf("%.20q, %.20q, %.20q go round", a, b, c)
					}
					if impl.Same(a, b) && (impl.Same(b, c) != impl.Same(a, c) || impl.Less(b, c) != impl.Less(a, c)) {
						t.Errorf("%.20q and %.20q are the same, but not beside %.20q", a, b, c)
					}
				}
			}
		}
	}
}

func TestCut(t *testing.T) {
	var all strings.Builder
	for b := range 256 {
		all.WriteByte(byte(255 - b))
	}
	for _, long := range []string{all.String(), strings.Repeat("\x00", 256), strings.Repeat("\u00e9", 128), strings.Repeat(" \t\n", 90), strings.Repeat("a\u20ac", 64)} {
		for size := range 256 {
			got := impl.Cut(long[:size])
			if want := long[:min(size, 40)]; got != want {
				t.Errorf("Cut of %d bytes = %q; want %q", size, got, want)
			}
		}
	}
	for _, size := range []int{impl.MaxText, 10 * impl.MaxText} {
		if got := impl.Cut(strings.Repeat("x", size)); got != strings.Repeat("x", 40) {
			t.Errorf("Cut of %d bytes = %q", size, got)
		}
	}
}

// plainFields parts by what the library knows of patterns.
func plainFields(line string) []string {
	var list []string
	for _, part := range fieldGap.Split(line, -1) {
		if part != "" && len(list) < 20 {
			list = append(list, part[:min(len(part), 40)])
		}
	}
	return list
}

func wantFields(t *testing.T, line string, want []string) {
	t.Helper()
	if got := impl.FieldsOf(line); !slices.Equal(got, want) {
		t.Errorf("FieldsOf(%.60q) = %q; want %q", line, got, want)
	}
}

func TestFieldsByHand(t *testing.T) {
	most := strings.Repeat("m", impl.MaxVal)
	for line, want := range map[string][]string{
		"": nil, " ": nil, "\t": nil, " \t \t\t  ": nil, strings.Repeat(" ", 1000): nil,
		"a": {"a"}, " a": {"a"}, "a ": {"a"}, "\ta\t": {"a"}, " a\tb ": {"a", "b"}, "a b": {"a", "b"}, "a  \t\t b": {"a", "b"},
		"a\nb": {"a\nb"}, "a\r\n": {"a\r\n"}, "\n": {"\n"}, "a\vb\fc": {"a\vb\fc"}, "a\x00b c": {"a\x00b", "c"},
		"\u00e9 \xff\x80": {"\u00e9", "\xff\x80"}, "a\u00a0b": {"a\u00a0b"}, "a\u2003b": {"a\u2003b"}, "a,b;c": {"a,b;c"},
		"b a b": {"b", "a", "b"}, "007 -1": {"007", "-1"},
		most:         {most},
		most + "x":   {most},
		most[1:]:     {most[1:]},
		most + "x y": {most, "y"}, "y " + most + "xyz\t" + most + " z": {"y", most, most, "z"},
		strings.Repeat("\u00e9", 21): {strings.Repeat("\u00e9", 20)},
	} {
		wantFields(t, line, want)
	}
}

func TestFieldsAtMostTwenty(t *testing.T) {
	var all []string
	for n := range 60 {
		for _, gap := range []string{" ", "\t", " \t "} {
			line := strings.Join(all, gap)
			want := all[:min(n, 20)]
			for _, l := range []string{line, gap + line, line + gap, gap + line + gap + gap} {
				wantFields(t, l, want)
			}
		}
		all = append(all, "f"+impl.Decimal(n))
	}
	wantFields(t, strings.Repeat("x ", 100000), slices.Repeat([]string{"x"}, 20))
}

func TestFieldsOfEveryByte(t *testing.T) {
	for b := range 256 {
		sign := string([]byte{byte(b)})
		for _, line := range []string{sign, "a" + sign + "b", sign + "ab", "ab" + sign, sign + sign + "a" + sign + sign + "b" + sign + sign} {
			wantFields(t, line, plainFields(line))
		}
	}
}

func TestFieldsOfManyLines(t *testing.T) {
	signs := []string{" ", "\t", "a", "1", "\n", "\xe9", strings.Repeat("w", 39), "  "}
	// A row of numbers that is the same at each run stands in for chance.
	state := uint32(1)
	for range 5000 {
		var line strings.Builder
		for range 60 {
			state = state*1664525 + 1013904223
			line.WriteString(signs[state>>16%8])
		}
		wantFields(t, line.String(), plainFields(line.String()))
	}
}

func TestValuesAreNewMemory(t *testing.T) {
	for _, s := range []string{"short", strings.Repeat("long", 20)} {
		whole := string([]byte(s))
		if sharesMemory(whole, impl.Cut(whole)) {
			t.Errorf("Cut of %d bytes hands out its argument's memory", len(s))
		}
	}
	line := string([]byte("some fields\there " + strings.Repeat("x", 50)))
	first, second := impl.FieldsOf(line), impl.FieldsOf(line)
	for _, field := range first {
		if sharesMemory(line, field) {
			t.Errorf("FieldsOf hands out its argument's memory in %q", field)
		}
	}
	first[0] = "other"
	if second[0] != "some" {
		t.Error("two answers of FieldsOf share a list")
	}
}
