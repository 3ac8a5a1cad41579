package tests

import (
	"math/rand/v2"
	"regexp"
	"slices"
	"strings"
	"testing"

	"loop.example/g00237/impl"
)

const (
	maxProgram = 600
	maxTokens  = 200
	oneSigns   = "{}()[]$~<+-*%.,="
)

func token(kind int, text string) impl.Token {
	return impl.Token{Kind: kind, Text: text}
}

func lineEnd() impl.Token {
	return token(impl.ToEnd, ";")
}

func has() impl.Token {
	return token(impl.ToSign, "~")
}

// written is how a token stands in a program.
func written(token impl.Token) string {
	switch token.Kind {
	case impl.ToText:
		return `"` + token.Text + `"`
	case impl.ToPattern:
		return "/" + token.Text + "/"
	}
	return token.Text
}

// someTokens has tokens of each kind, but for patterns, which stand behind a `~` alone.
func someTokens() []impl.Token {
	tokens := []impl.Token{
		token(impl.ToName, "a"), token(impl.ToName, "Zebra"), token(impl.ToName, "abcdefgh"), token(impl.ToName, "BEGIN"),
		token(impl.ToNum, "0"), token(impl.ToNum, "000000"), token(impl.ToNum, "999999"), token(impl.ToNum, "42"),
		token(impl.ToText, ""), token(impl.ToText, "~"), token(impl.ToText, "# no remark"), token(impl.ToText, " \t;/a/"),
		token(impl.ToText, "\x00\xff\x80"), token(impl.ToText, "äöü→𝄞\ufffd"),
		lineEnd(), token(impl.ToSign, "+="), token(impl.ToSign, "=="),
	}
	for _, sign := range oneSigns {
		tokens = append(tokens, token(impl.ToSign, string(sign)))
	}
	return tokens
}

func somePatterns() []impl.Token {
	patterns := []impl.Token{}
	for _, text := range []string{"a", "#", " # ", `"`, "~", ";", "^a(b|c)*$", "[\t]", "\x00", "\xff\xfe", "ä→", strings.Repeat("x", impl.MaxPattern)} {
		patterns = append(patterns, token(impl.ToPattern, text))
	}
	return patterns
}

func checkTokens(t *testing.T, s string, want ...impl.Token) {
	t.Helper()
	tokens, fault := impl.Tokens(s)
	if fault != 0 || !slices.Equal(tokens, want) {
		t.Fatalf("Tokens(%q) = %#v, %d; want %#v, 0", s, tokens, fault, want)
	}
}

func checkNoToken(t *testing.T, s string, place int) {
	t.Helper()
	tokens, fault := impl.Tokens(s)
	if fault != place || len(tokens) != 0 {
		t.Fatalf("Tokens(%q) = %#v, %d; want none, %d", s, tokens, fault, place)
	}
}

// tokenForms has for each kind what it looks like, and how many bytes of it there are at most, its marks included.
var tokenForms = []struct {
	kind int
	form *regexp.Regexp
	most int
}{
	{impl.ToName, regexp.MustCompile(`\A[a-zA-Z]+`), 8},
	{impl.ToNum, regexp.MustCompile(`\A[0-9]+`), 6},
	{impl.ToText, regexp.MustCompile(`\A"[^"\n]*"`), 30 + 2},
	{impl.ToPattern, regexp.MustCompile(`\A/[^/\n]*/`), impl.MaxPattern + 2},
	{impl.ToSign, regexp.MustCompile(`\A(?:\+=|==|[{}()\[\]$~<+\-*%.,=])`), 2},
	{impl.ToEnd, regexp.MustCompile(`\A[;\n]`), 1},
}

var passedOver = regexp.MustCompile(`\A[ \t]*(?:#[^\n]*)?`)

// plainToken is the token that a text begins with, and what it takes, by the forms above; nothing without one.
func plainToken(s string, last impl.Token) (impl.Token, string) {
	for _, kind := range tokenForms {
		found := kind.form.FindString(s)
		if found == "" || len(found) > kind.most || kind.kind == impl.ToPattern && last != has() {
			continue
		}
		text := found
		switch kind.kind {
		case impl.ToText, impl.ToPattern:
			text = found[1 : len(found)-1]
		case impl.ToEnd:
			text = ";"
		}
		if _, ok := impl.ReadPattern(text); ok || kind.kind != impl.ToPattern {
			return token(kind.kind, text), found
		}
	}
	return impl.Token{}, ""
}

// plainTokens is what Tokens answers, by the forms above.
func plainTokens(s string) ([]impl.Token, int) {
	if len(s) > maxProgram {
		return nil, maxProgram + 1
	}
	tokens, last := []impl.Token{}, impl.Token{}
	at := len(passedOver.FindString(s))
	for at < len(s) {
		next, found := plainToken(s[at:], last)
		if found == "" || len(tokens) == maxTokens {
			return nil, at + 1
		}
		tokens, last = append(tokens, next), next
		at += len(found)
		at += len(passedOver.FindString(s[at:]))
	}
	return tokens, 0
}

func checkAsPlain(t *testing.T, s string) {
	t.Helper()
	want, place := plainTokens(s)
	if place != 0 {
		checkNoToken(t, s, place)
		return
	}
	checkTokens(t, s, want...)
}

func TestTokenKinds(t *testing.T) {
	kinds := []int{impl.ToName, impl.ToNum, impl.ToText, impl.ToPattern, impl.ToSign, impl.ToEnd}
	if !slices.Equal(kinds, []int{1, 2, 3, 4, 5, 6}) {
		t.Errorf("kinds %v", kinds)
	}
}

func TestTokensByHand(t *testing.T) {
	name, num, sign := impl.ToName, impl.ToNum, impl.ToSign
	checkTokens(t, "")
	checkTokens(t, "BEGIN{x=1;}",
		token(name, "BEGIN"), token(sign, "{"), token(name, "x"), token(sign, "="), token(num, "1"), lineEnd(), token(sign, "}"))
	checkTokens(t, "$1~/^a|b$/ { n[$2] += 1 } # count\nEND { dump n }\n",
		token(sign, "$"), token(num, "1"), has(), token(impl.ToPattern, "^a|b$"), token(sign, "{"),
		token(name, "n"), token(sign, "["), token(sign, "$"), token(num, "2"), token(sign, "]"), token(sign, "+="), token(num, "1"), token(sign, "}"), lineEnd(),
		token(name, "END"), token(sign, "{"), token(name, "dump"), token(name, "n"), token(sign, "}"), lineEnd())
	checkTokens(t, `{if(NF<3*x%2-1)print"a b".NR,(y)else next}`,
		token(sign, "{"), token(name, "if"), token(sign, "("), token(name, "NF"), token(sign, "<"), token(num, "3"), token(sign, "*"),
		token(name, "x"), token(sign, "%"), token(num, "2"), token(sign, "-"), token(num, "1"), token(sign, ")"),
		token(name, "print"), token(impl.ToText, "a b"), token(sign, "."), token(name, "NR"), token(sign, ","),
		token(sign, "("), token(name, "y"), token(sign, ")"), token(name, "else"), token(name, "next"), token(sign, "}"))
}

// programs have no two tokens alike in a row that would be one without a gap.
func programs() []string {
	return []string{
		"BEGIN { x = 1 }\nEND { print x }",
		"$1 ~ /a+/ { n[$1] += $2; next }\n{ m += 1 }\nEND { dump n; print m, \"of\", NR }",
		"{ if (NF == 3) print $(1 + 2) . \" # \" . length($0) else { next } } # all\n\n;;",
		"{x=x*2%7-1;y[x]=x<5}#none",
		"NR<10{if(($2~/[#\"]/)==1)print\"found\",$2}",
		"",
	}
}

func TestTokensWithABlankBetween(t *testing.T) {
	for _, program := range programs() {
		tokens, fault := impl.Tokens(program)
		if fault != 0 {
			t.Fatalf("Tokens(%q) has a fault at %d", program, fault)
		}
		apart := []string{}
		for _, token := range tokens {
			apart = append(apart, written(token))
		}
		for _, gap := range []string{" ", "\t", " \t  "} {
			checkTokens(t, strings.Join(apart, gap), tokens...)
		}
		checkAsPlain(t, program)
	}
}

func TestEachKindBehindEachOther(t *testing.T) {
	for _, a := range someTokens() {
		for _, b := range someTokens() {
			for _, gap := range []string{" ", "\t", "  ", "\t\t", " \t \t"} {
				checkTokens(t, written(a)+gap+written(b), a, b)
			}
			for _, remark := range []string{"#\n", " # / \" ~ \n", "#a\x00\xff##\n\t"} {
				checkTokens(t, written(a)+remark+written(b), a, lineEnd(), b)
			}
			checkAsPlain(t, written(a)+written(b))
		}
	}
}

// grown is true of two tokens that are not told apart when nothing is between them.
func grown(a impl.Token, b impl.Token) bool {
	if a.Kind == impl.ToSign && b.Kind == impl.ToSign {
		return (a.Text == "+" || a.Text == "=") && b.Text[0] == '='
	}
	return a.Kind == b.Kind && (a.Kind == impl.ToName || a.Kind == impl.ToNum)
}

func TestEachKindRightBehindEachOther(t *testing.T) {
	for _, a := range someTokens() {
		for _, b := range someTokens() {
			if !grown(a, b) {
				checkTokens(t, written(a)+written(b), a, b)
			}
		}
		for _, pattern := range somePatterns() {
			checkTokens(t, written(a)+" ~"+written(pattern)+written(a), a, has(), pattern, a)
			checkTokens(t, "~\t"+written(pattern)+" "+written(a), has(), pattern, a)
		}
	}
}

func drawnTokens(r *rand.Rand, count int) []impl.Token {
	tokens := []impl.Token{}
	all, patterns := someTokens(), somePatterns()
	for range count {
		if len(tokens) > 0 && tokens[len(tokens)-1] == has() && r.IntN(2) == 0 {
			tokens = append(tokens, patterns[r.IntN(len(patterns))])
			continue
		}
		tokens = append(tokens, all[r.IntN(len(all))])
		if r.IntN(5) == 0 {
			tokens = append(tokens, has())
		}
	}
	return tokens
}

// drawnGap is passed over, ahead of a line's end or the end of all also with a remark.
func drawnGap(r *rand.Rand, aheadOfEnd bool) string {
	gap := strings.Repeat(" ", r.IntN(3)) + strings.Repeat("\t", r.IntN(2)) + strings.Repeat(" ", r.IntN(2))
	if aheadOfEnd && r.IntN(2) == 0 {
		gap += "#" + []string{"", "a", " \"", "~/b/", "##", "\xff;\x00"}[r.IntN(6)]
	}
	return gap
}

func TestDrawnTokensAreToldInTheirOrder(t *testing.T) {
	for k := range uint64(3000) {
		r := rand.New(rand.NewPCG(5, k))
		want := drawnTokens(r, r.IntN(30))
		s := drawnGap(r, len(want) == 0)
		for i, token := range want {
			if token == lineEnd() && (strings.Contains(s[strings.LastIndexByte(s, '\n')+1:], "#") || r.IntN(2) == 0) {
				s += "\n"
			} else {
				s += written(token)
			}
			isLast := i == len(want)-1
			if !isLast && grown(token, want[i+1]) {
				s += " "
			}
			s += drawnGap(r, isLast || want[i+1] == lineEnd())
		}
		if len(s) <= maxProgram {
			checkTokens(t, s, want...)
		}
	}
}

func TestWhatIsPassedOverChangesNothing(t *testing.T) {
	gaps := []string{" ", "\t", "   ", " \t\t "}
	remarks := []string{"#", " #", "# a", "#\xff\x00\r;\"/~", "###", "\t# 1 # 2"}
	for _, program := range programs() {
		want, _ := impl.Tokens(program)
		for _, gap := range gaps {
			checkTokens(t, gap+program, want...)
			checkTokens(t, program+gap, want...)
			checkTokens(t, gap+program+gap, want...)
		}
		for _, remark := range remarks {
			checkTokens(t, program+remark, want...)
			checkTokens(t, program+remark+"\n", append(slices.Clone(want), lineEnd())...)
			checkTokens(t, remark+"\n"+program, append([]impl.Token{lineEnd()}, want...)...)
		}
	}
	for _, nothing := range slices.Concat(gaps, remarks) {
		checkTokens(t, nothing)
	}
}

func TestRemarksGoUpToTheLinesEnd(t *testing.T) {
	a, b := token(impl.ToName, "a"), token(impl.ToName, "b")
	checkTokens(t, "a#b", a)
	checkTokens(t, "a#b\n", a, lineEnd())
	checkTokens(t, "a#b\nb", a, lineEnd(), b)
	checkTokens(t, "a # b ; b\n\n b # a", a, lineEnd(), lineEnd(), b)
	checkTokens(t, "# \"\n a # \"\n # ! \n", lineEnd(), a, lineEnd(), lineEnd())
	checkTokens(t, "#\n#\n#", lineEnd(), lineEnd())
	checkTokens(t, "a # \\\nb", a, lineEnd(), b)
	for n := range 256 {
		if n != '\n' {
			within := string([]byte{byte(n)})
			checkTokens(t, "a#"+within+"!\n;", a, lineEnd(), lineEnd())
			checkTokens(t, "a#!"+within, a)
		}
	}
}

func TestRemarkSignsWithinTextsAndPatterns(t *testing.T) {
	checkTokens(t, `"#" "a # b"#"`, token(impl.ToText, "#"), token(impl.ToText, "a # b"))
	checkTokens(t, "~/#/~/a#b/#/", has(), token(impl.ToPattern, "#"), has(), token(impl.ToPattern, "a#b"))
	checkNoToken(t, `a "#`, 3)
	checkNoToken(t, "a ~ /#", 5)
}

func TestPatternsBehindHas(t *testing.T) {
	a := token(impl.ToPattern, "a")
	for _, gap := range []string{"", " ", "\t", " \t \t "} {
		checkTokens(t, "~"+gap+"/a/", has(), a)
		checkTokens(t, "x~"+gap+"/a/;", token(impl.ToName, "x"), has(), a, lineEnd())
		checkTokens(t, "~~"+gap+"/a/", has(), has(), a)
		checkTokens(t, "~/a/~"+gap+"/a/", has(), a, has(), a)
	}
	for _, gap := range []string{"\n", ";", " \n", "\n ", "# r\n", " # /b/ \n\t"} {
		checkNoToken(t, "~"+gap+"/a/", 1+len(gap)+1)
	}
	checkTokens(t, "~ # /a/", has())
	checkTokens(t, "~", has())
	checkTokens(t, "~ a", has(), token(impl.ToName, "a"))
}

func TestPatternsBehindAllElse(t *testing.T) {
	checkNoToken(t, "/a/", 1)
	checkNoToken(t, " \t/a/", 3)
	checkNoToken(t, "#~\n/a/", 4)
	checkNoToken(t, "/", 1)
	for _, before := range someTokens() {
		if before == has() {
			continue
		}
		for _, gap := range []string{"", " ", "\t", " \t", "#~\n", "\n"} {
			checkNoToken(t, written(before)+gap+"/a/", len(written(before)+gap)+1)
			checkNoToken(t, "~ "+written(before)+gap+"/a/", len("~ "+written(before)+gap)+1)
		}
	}
	for _, before := range somePatterns() {
		checkNoToken(t, "~"+written(before)+"/a/", len("~"+written(before))+1)
		checkNoToken(t, "~"+written(before)+" /a/", len("~"+written(before)+" ")+1)
	}
}

func TestLengthsOfPatternTokens(t *testing.T) {
	checkNoToken(t, "~//", 2)
	checkNoToken(t, "~ // /a/", 3)
	for _, of := range []string{"a", ".", "#", "\xff"} {
		for length := range impl.MaxPattern {
			text := strings.Repeat(of, length+1)
			checkTokens(t, "~/"+text+"/", has(), token(impl.ToPattern, text))
			checkTokens(t, "~ /"+text+"/a", has(), token(impl.ToPattern, text), token(impl.ToName, "a"))
		}
		for _, more := range []int{1, 2, 100} {
			checkNoToken(t, "~/"+strings.Repeat(of, impl.MaxPattern+more)+"/", 2)
		}
	}
	// Bytes count, not runes.
	checkTokens(t, "~/"+strings.Repeat("→", 8)+"/", has(), token(impl.ToPattern, strings.Repeat("→", 8)))
	checkNoToken(t, "~/"+strings.Repeat("→", 8)+"a/", 2)
}

func TestPatternTokensThatAreNone(t *testing.T) {
	for _, text := range []string{"\n", "a\nb", "a\n", "\na", "[\n]"} {
		checkNoToken(t, "~/"+text+"/", 2)
	}
	for _, text := range []string{"*", "(", ")", "a)", "[", "]", "[]", "[^]", "+a", `\`, `\a`, "a|*", "(a", "((a)"} {
		checkNoToken(t, "~/"+text+"/", 2)
		checkNoToken(t, "a ~ /"+text+"/ b", 5)
	}
	for _, text := range []string{"~/", "~/a", "~/a\n", "~/a#", "~/a;b ", `~/"`, `~/\/`, `~/a\//`} {
		checkNoToken(t, text, 2)
	}
	checkNoToken(t, "~/a//", 5)
	checkNoToken(t, "~/[/]/", 2)
}

func TestEveryByteInAPattern(t *testing.T) {
	for b := range 256 {
		for _, form := range []string{"?", "a?", "?a", "[?]", "a?b"} {
			text := strings.Replace(form, "?", string([]byte{byte(b)}), 1)
			_, ok := impl.ReadPattern(text)
			s := "~/" + text + "/"
			if ok && b != '/' && b != '\n' {
				checkTokens(t, s, has(), token(impl.ToPattern, text))
				continue
			}
			if tokens, _ := impl.Tokens(s); len(tokens) != 0 {
				t.Fatalf("Tokens(%q) = %#v; want none", s, tokens)
			}
			checkAsPlain(t, s)
		}
	}
}

// lengthsTaken checks what has these bytes alone: as one token up to most of them, and as none beyond.
func lengthsTaken(t *testing.T, kind int, of string, most int) {
	t.Helper()
	for count := range most {
		text := strings.Repeat(of, count+1)
		checkTokens(t, text, token(kind, text))
		checkTokens(t, "; "+text+";", lineEnd(), token(kind, text), lineEnd())
	}
	for _, count := range []int{most + 1, most + 2, 2 * most, 2*most + 1, 100} {
		text := strings.Repeat(of, count)
		checkNoToken(t, text, 1)
		checkNoToken(t, "; "+text+";", 3)
	}
}

func TestLengthsOfNamesAndNumbers(t *testing.T) {
	for _, letter := range "abcdefghijklmnopqrstuvwxyzABCDEFGHIJKLMNOPQRSTUVWXYZ" {
		lengthsTaken(t, impl.ToName, string(letter), 8)
	}
	for _, figure := range "0123456789" {
		lengthsTaken(t, impl.ToNum, string(figure), 6)
	}
	checkTokens(t, "ABCdefGH", token(impl.ToName, "ABCdefGH"))
	checkNoToken(t, "ABCdefGHi", 1)
	checkTokens(t, "012345", token(impl.ToNum, "012345"))
	checkNoToken(t, "0123456", 1)
}

func TestNamesAndNumbersSideBySide(t *testing.T) {
	checkTokens(t, "a1", token(impl.ToName, "a"), token(impl.ToNum, "1"))
	checkTokens(t, "1a", token(impl.ToNum, "1"), token(impl.ToName, "a"))
	checkTokens(t, "abcdefgh123456ABCDEFGH654321",
		token(impl.ToName, "abcdefgh"), token(impl.ToNum, "123456"), token(impl.ToName, "ABCDEFGH"), token(impl.ToNum, "654321"))
	checkNoToken(t, "abcdefgh1234567", 9)
	checkNoToken(t, "123456abcdefghi", 7)
	checkNoToken(t, "a_b", 2)
	checkNoToken(t, "1_000", 2)
	checkTokens(t, "-1", token(impl.ToSign, "-"), token(impl.ToNum, "1"))
	checkTokens(t, "1.5", token(impl.ToNum, "1"), token(impl.ToSign, "."), token(impl.ToNum, "5"))
}

func TestLengthsOfTexts(t *testing.T) {
	for _, of := range []string{"a", " ", "#", "/", "\x00", "\xff", "\t", "\\"} {
		for count := range 31 {
			text := strings.Repeat(of, count)
			checkTokens(t, `"`+text+`"`, token(impl.ToText, text))
			checkTokens(t, `a"`+text+`"1`, token(impl.ToName, "a"), token(impl.ToText, text), token(impl.ToNum, "1"))
		}
		for _, count := range []int{31, 32, 60, 500} {
			checkNoToken(t, `"`+strings.Repeat(of, count)+`"`, 1)
			checkNoToken(t, `a "`+strings.Repeat(of, count)+`" b`, 3)
		}
	}
	// Bytes count, not runes.
	checkTokens(t, `"`+strings.Repeat("→", 10)+`"`, token(impl.ToText, strings.Repeat("→", 10)))
	checkNoToken(t, `"`+strings.Repeat("→", 10)+`a"`, 1)
	checkNoToken(t, `"`+strings.Repeat("→", 11)+`"`, 1)
}

func TestTextsThatAreNone(t *testing.T) {
	for _, s := range []string{`"`, `"a`, `"a; b`, "\"\n\"", "\"a\n\"", "\"\na\"", "\"a#\n", "\"\xff", "\"ä"} {
		checkNoToken(t, s, 1)
		checkNoToken(t, "\t"+s, 2)
		checkNoToken(t, "ab;"+s, 4)
	}
	checkNoToken(t, `"a"b"`, 5)
	checkNoToken(t, `"""`, 3)
	checkNoToken(t, `"\""`, 4)
	checkTokens(t, `"a""b"`, token(impl.ToText, "a"), token(impl.ToText, "b"))
	checkTokens(t, `""""`, token(impl.ToText, ""), token(impl.ToText, ""))
}

func TestEveryByteInAText(t *testing.T) {
	for b := range 256 {
		for _, around := range [][2]string{{"", ""}, {"a", ""}, {"", "a"}, {"a ", " b"}, {"\xe2\x86", "\x92"}, {"\xe2", ""}, {"ä", "→"}} {
			text := around[0] + string([]byte{byte(b)}) + around[1]
			if b == '\n' {
				checkNoToken(t, `"`+text+`"`, 1)
				continue
			}
			if b == '"' {
				checkAsPlain(t, `"`+text+`"`)
				continue
			}
			checkTokens(t, `"`+text+`"`, token(impl.ToText, text))
		}
	}
}

func TestSigns(t *testing.T) {
	told := func(signs ...string) []impl.Token {
		tokens := []impl.Token{}
		for _, sign := range signs {
			tokens = append(tokens, token(impl.ToSign, sign))
		}
		return tokens
	}
	for _, sign := range oneSigns {
		checkTokens(t, string(sign), told(string(sign))...)
	}
	checkTokens(t, oneSigns, told(strings.Split(oneSigns, "")...)...)
	rows := map[string][]string{
		"=": {"="}, "==": {"=="}, "===": {"==", "="}, "====": {"==", "=="},
		"+": {"+"}, "+=": {"+="}, "+==": {"+=", "="}, "+===": {"+=", "=="}, "++=": {"+", "+="}, "+=+=": {"+=", "+="},
		"=+": {"=", "+"}, "=+=": {"=", "+="}, "==+": {"==", "+"}, "+ =": {"+", "="}, "= =": {"=", "="}, "+\t==": {"+", "=="},
		"-=": {"-", "="}, "*=": {"*", "="}, "<=": {"<", "="}, "~=": {"~", "="}, "%=": {"%", "="}, "++": {"+", "+"}, "--": {"-", "-"},
		"=<": {"=", "<"}, "<<": {"<", "<"}, "~~": {"~", "~"}, "$$": {"$", "$"}, "..": {".", "."}, ",,": {",", ","},
	}
	for row, signs := range rows {
		checkTokens(t, row, told(signs...)...)
		checkTokens(t, " "+row+"\t", told(signs...)...)
	}
	for _, a := range oneSigns {
		for _, b := range oneSigns {
			two := string(a) + string(b)
			if two != "+=" && two != "==" {
				checkTokens(t, two, told(string(a), string(b))...)
			}
		}
	}
}

func TestEnds(t *testing.T) {
	checkTokens(t, ";", lineEnd())
	checkTokens(t, "\n", lineEnd())
	checkTokens(t, ";\n;\n\n", lineEnd(), lineEnd(), lineEnd(), lineEnd(), lineEnd())
	checkTokens(t, "a\n1;", token(impl.ToName, "a"), lineEnd(), token(impl.ToNum, "1"), lineEnd())
	checkNoToken(t, "\r\n", 1)
	checkNoToken(t, "a\r\n", 2)
}

// aloneKind is the kind of a token of this one byte: 0 where it is passed over, -1 where it is none.
func aloneKind(b byte) int {
	switch {
	case b == ' ' || b == '\t' || b == '#':
		return 0
	case b >= 'a' && b <= 'z' || b >= 'A' && b <= 'Z':
		return impl.ToName
	case b >= '0' && b <= '9':
		return impl.ToNum
	case b == '\n' || b == ';':
		return impl.ToEnd
	case strings.IndexByte(oneSigns, b) >= 0:
		return impl.ToSign
	}
	return -1
}

func TestEveryByteAlone(t *testing.T) {
	x, y := token(impl.ToText, "x"), token(impl.ToText, "y")
	for b := range 256 {
		alone := string([]byte{byte(b)})
		told := token(aloneKind(byte(b)), alone)
		if told.Kind == impl.ToEnd {
			told.Text = ";"
		}
		switch {
		case told.Kind < 0:
			checkNoToken(t, alone, 1)
			checkNoToken(t, "\"x\"\n#\n\t"+alone, 8)
			checkNoToken(t, `"x" `+alone+` 12`, 5)
			checkNoToken(t, `"x"`+alone+`12`, 4)
		case told.Kind == 0:
			checkTokens(t, alone)
			checkTokens(t, `"x"`+alone, x)
		default:
			checkTokens(t, alone, told)
			checkTokens(t, `"x"`+alone+`"y"`, x, told, y)
			checkTokens(t, `"x" `+alone+` "y"`, x, told, y)
		}
	}
}

func TestFaults(t *testing.T) {
	for _, none := range []string{"!", "/", "\x00", "\xff", "ä", "→", `"`, "abcdefghi", "1234567", "'", "\r", "_", "@", `\`, "\ufffd", "\u00a0"} {
		checkNoToken(t, none, 1)
		checkNoToken(t, " \t "+none, 4)
		checkNoToken(t, "# r\n"+none, 5)
		checkNoToken(t, "a;\"ä\" # ä\n\t"+none+" b", 14)
		checkNoToken(t, "x = 1"+strings.Repeat(" ", 100)+";"+none, 107)
		checkNoToken(t, strings.Repeat(" ", maxProgram-len(none))+none, maxProgram-len(none)+1)
		for _, before := range someTokens() {
			checkNoToken(t, written(before)+" "+none, len(written(before))+2)
			checkNoToken(t, written(before)+" "+none+" ! \n !", len(written(before))+2)
		}
	}
}

func TestWhatIsAheadOfAFaultAreTokens(t *testing.T) {
	for k := range uint64(2000) {
		s := drawnBytes(rand.New(rand.NewPCG(51, k)))
		tokens, fault := impl.Tokens(s)
		if fault == 0 {
			continue
		}
		if len(tokens) != 0 || fault < 1 || fault > len(s) {
			t.Fatalf("Tokens(%q) = %#v, %d", s, tokens, fault)
		}
		if _, again := impl.Tokens(s[:fault-1]); again != 0 {
			t.Fatalf("Tokens(%q) has a fault at %d, but what is ahead of it has one at %d", s, fault, again)
		}
	}
}

// drawnBytes are texts that come near to programs.
func drawnBytes(r *rand.Rand) string {
	words := []string{
		"a", "Z", "1", "09", " ", "\t", "\n", ";", "#", `"`, `"`, "~", "~", "/", "/", "+", "=", "{", "}", "(", ")", "[", "]",
		"$", "<", "-", "*", "%", ".", ",", "abcdefg", "12345", "xxxxxxxxxxxxxxxxxxxxxxx", "!", "\x00", "\xff", "ä", "\\", "|",
	}
	s := ""
	for range r.IntN(12) {
		s += words[r.IntN(len(words))]
	}
	return s
}

func TestTokensOfDrawnTexts(t *testing.T) {
	for k := range uint64(60000) {
		checkAsPlain(t, drawnBytes(rand.New(rand.NewPCG(52, k))))
	}
}

func TestTokensOfAllShortTexts(t *testing.T) {
	texts := []string{""}
	for range 4 {
		longer := []string{}
		for _, text := range texts {
			for _, b := range []byte("a1 \n#\"/~+=!\xe2*") {
				longer = append(longer, text+string([]byte{b}))
			}
		}
		for _, text := range longer {
			checkAsPlain(t, text)
			checkAsPlain(t, "~/a"+text)
			checkAsPlain(t, `"a`+text)
		}
		texts = longer
	}
}

func TestLengthsOfPrograms(t *testing.T) {
	checkTokens(t, strings.Repeat(" ", maxProgram))
	checkTokens(t, "#"+strings.Repeat("a", maxProgram-1))
	checkTokens(t, strings.Repeat("\t", maxProgram-1)+"a", token(impl.ToName, "a"))
	for _, more := range []int{1, 2, 100, 100000} {
		long := maxProgram + more
		checkNoToken(t, strings.Repeat(" ", long), 601)
		checkNoToken(t, "#"+strings.Repeat("a", long-1), 601)
		checkNoToken(t, strings.Repeat(" ", long-1)+"a", 601)
		checkNoToken(t, strings.Repeat(" ", long-1)+"!", 601)
		checkNoToken(t, "!"+strings.Repeat(" ", long-1), 601)
		checkNoToken(t, strings.Repeat(";", long), 601)
		checkNoToken(t, strings.Repeat("a", long), 601)
	}
	s := strings.Repeat("ab ", maxTokens)
	checkTokens(t, s, slices.Repeat([]impl.Token{token(impl.ToName, "ab")}, maxTokens)...)
	checkNoToken(t, s+" ", 601)
	checkNoToken(t, strings.Repeat("a", maxProgram), 1)
}

func TestNumberOfTokens(t *testing.T) {
	full := strings.Repeat("a;", maxTokens/2)
	want := slices.Repeat([]impl.Token{token(impl.ToName, "a"), lineEnd()}, maxTokens/2)
	checkTokens(t, full[:len(full)-1], want[:maxTokens-1]...)
	for _, behind := range []string{"", " ", "\t \t", "#", " # r ;", strings.Repeat(" ", 400), "#" + strings.Repeat(";", 399)} {
		checkTokens(t, full+behind, want...)
	}
	for _, gap := range []string{"", " ", "\t\t  ", strings.Repeat(" ", 300)} {
		place := len(full) + len(gap) + 1
		for _, next := range []string{"a", "\n", ";", "a;a", "a !", "12;", `"t"`, "+=", "~ /a/", "!", "/a/", `"`, "abcdefghi", "\xff", "1234567"} {
			checkNoToken(t, full+gap+next, place)
		}
		checkNoToken(t, full+gap+"#\n", place+1)
		checkNoToken(t, full+gap+" # r;\n;", place+5)
	}
	for _, of := range []string{";", "\n", "(", "\"\"", "a ", "1\t", "~"} {
		checkTokens(t, strings.Repeat(of, maxTokens), slices.Repeat([]impl.Token{mustTell(t, of)}, maxTokens)...)
		checkNoToken(t, strings.Repeat(of, maxTokens+1), maxTokens*len(of)+1)
	}
	checkNoToken(t, strings.Repeat("~", maxTokens)+"/a/", maxTokens+1)
	checkTokens(t, strings.Repeat("~", maxTokens-1)+"/a/", append(slices.Repeat([]impl.Token{has()}, maxTokens-1), token(impl.ToPattern, "a"))...)
}

// mustTell is the one token of a text.
func mustTell(t *testing.T, s string) impl.Token {
	t.Helper()
	tokens, fault := impl.Tokens(s)
	if fault != 0 || len(tokens) != 1 {
		t.Fatalf("Tokens(%q) = %#v, %d; want one", s, tokens, fault)
	}
	return tokens[0]
}

func TestTokensAreNewMemory(t *testing.T) {
	s := string([]byte("x += 12 ~ /ab/ \"text\" == ( # r\n;"))
	first, _ := impl.Tokens(s)
	second, _ := impl.Tokens(s)
	if len(first) != 10 || !slices.Equal(first, second) {
		t.Fatalf("Tokens(%q) = %#v, then %#v", s, first, second)
	}
	for _, token := range first {
		if sharesMemory(s, token.Text) {
			t.Errorf("Tokens hands out its argument's memory: %#v", token)
		}
	}
	first[0] = impl.Token{}
	if second[0] != token(impl.ToName, "x") {
		t.Error("two answers of Tokens share a list")
	}
}
