package tests

import (
	"fmt"
	"math"
	"math/rand/v2"
	"slices"
	"strconv"
	"strings"
	"testing"

	"loop.example/g00237/impl"
)

// checkTold checks what an expression tells, that is written as in a program.
func checkTold(t *testing.T, expression string, s impl.Store, in impl.Input, want string) {
	t.Helper()
	p := mustReadProgram(t, "{ print "+expression+" }")
	place := p.Nodes[len(p.Nodes)-2].Kids[0]
	if got := impl.Eval(p, place, s, in); got != want {
		t.Errorf("%s tells %q; want %q, of %.60q", expression, got, want, in.Line)
	}
}

// checkDone checks what a statement makes of a store, that is written as in a program.
func checkDone(t *testing.T, statement string, s impl.Store, in impl.Input, want impl.Store, wantOn bool) {
	t.Helper()
	p := mustReadProgram(t, "{ "+statement+" }")
	for _, place := range []int{p.Nodes[len(p.Nodes)-1].Kids[0], len(p.Nodes) - 1} {
		got, on := impl.Exec(p, place, s, in)
		checkSame(t, statement, got, want)
		if on != wantOn {
			t.Fatalf("%s goes on: %v", statement, on)
		}
	}
}

// checkRun checks what a program makes of a text, by hand and by the sentences.
func checkRun(t *testing.T, program string, text string, want impl.Store) {
	t.Helper()
	p := mustReadProgram(t, program)
	got, ok := impl.RunTree(p, text)
	if !ok {
		t.Fatalf("%s is not run", program)
	}
	checkSame(t, program, got, want)
	checkSame(t, program+", by the sentences", plainTree(p, text), want)
}

// checkNothingMeant checks that a node tells nothing and does nothing.
func checkNothingMeant(t *testing.T, p impl.Program, place int, s impl.Store, in impl.Input) {
	t.Helper()
	if got := impl.Eval(p, place, s, in); got != "" {
		t.Fatalf("Eval of %d is %q", place, got)
	}
	got, on := impl.Exec(p, place, s, in)
	checkSame(t, fmt.Sprintf("Exec of %d", place), got, s)
	if !on {
		t.Fatalf("Exec of %d goes on no more", place)
	}
}

// checkNotRun checks that a program's rules do nothing.
func checkNotRun(t *testing.T, p impl.Program, s impl.Store, in impl.Input) {
	t.Helper()
	for when := range 5 {
		checkSame(t, fmt.Sprintf("RunRules of %d", when), impl.RunRules(p, when, s, in), s)
	}
	if got, ok := impl.RunTree(p, "a\nb\n"); ok || toldStore(got) != toldStore(impl.Store{}) {
		t.Fatalf("RunTree = %s, %v", toldStore(got), ok)
	}
}

// checkParts holds each node of a right program against what its sentence makes of what the program says of its kids.
func checkParts(t *testing.T, p impl.Program, s impl.Store, in impl.Input) {
	t.Helper()
	by, below := byProgram{p, in}, plainBelow(p.Nodes)
	for place, node := range p.Nodes {
		switch {
		case below[place] > maxComeTo:
			checkNothingMeant(t, p, place, s, in)
		case node.Op <= impl.ExHas:
			if got, want := impl.Eval(p, place, s, in), plainTell(node, s, in, by); got != want {
				t.Fatalf("Eval of %d of\n%s\nis %q; want %q", place, toldProgram(p), got, want)
			}
			got, on := impl.Exec(p, place, s, in)
			checkSame(t, "Exec of an expression", got, s)
			if !on {
				t.Fatal("Exec of an expression goes on no more")
			}
		default:
			got, on := impl.Exec(p, place, s, in)
			want, wantOn := plainDo(node, s, in, by)
			checkSame(t, fmt.Sprintf("Exec of %d of\n%s", place, toldProgram(p)), got, want)
			if on != wantOn {
				t.Fatalf("Exec of %d of\n%s goes on: %v", place, toldProgram(p), on)
			}
			if told := impl.Eval(p, place, s, in); told != "" {
				t.Fatalf("Eval of a statement is %q", told)
			}
		}
	}
	for when := range 5 {
		want := s
		if plainComesTo(p) <= maxComeTo {
			want = plainRules(p, when, s, by)
		}
		checkSame(t, fmt.Sprintf("RunRules of %d of\n%s", when, toldProgram(p)), impl.RunRules(p, when, s, in), want)
	}
}

func TestPartsMeanWhatTheirPartsMean(t *testing.T) {
	for k := range uint64(6000) {
		r := rand.New(rand.NewPCG(91, k))
		nodes := []int{5, 10, 20, 40}[k%4]
		p := meantProgram(r, r.IntN(nodes+1), r.IntN(7))
		for range 3 {
			checkParts(t, p, drawnMeantStore(r), drawnInput(r))
		}
	}
}

func TestPartsOfProgramsThatAreRead(t *testing.T) {
	for k, s := range append(programTexts(), programs()...) {
		p := mustReadProgram(t, s)
		for j := range uint64(40) {
			r := rand.New(rand.NewPCG(uint64(k), j))
			checkParts(t, p, drawnMeantStore(r), drawnInput(r))
		}
	}
}

func TestPartsOfEveryOp(t *testing.T) {
	// Of each Op, what is told, how stores come out, and whether it goes on.
	seen := map[int]map[string]bool{}
	for k := range uint64(3000) {
		r := rand.New(rand.NewPCG(92, k))
		p, s, in := meantProgram(r, 25, 0), drawnRightStore(r), drawnInput(r)
		for place, node := range p.Nodes {
			if seen[node.Op] == nil {
				seen[node.Op] = map[string]bool{}
			}
			done, on := impl.Exec(p, place, s, in)
			seen[node.Op][impl.Eval(p, place, s, in)] = true
			if node.Op > impl.ExHas {
				seen[node.Op][fmt.Sprint(impl.SameStore(done, s), on)] = true
			}
		}
	}
	for op := impl.ExNum; op <= impl.StDump; op++ {
		many := 9
		switch op {
		case impl.ExLess, impl.ExSame, impl.ExHas, impl.StPrint, impl.StSet, impl.StAdd, impl.StSetCell, impl.StAddCell, impl.StNext, impl.StDump:
			many = 2
		case impl.StIf, impl.StBlock:
			many = 4
		case impl.ExFields, impl.ExLine:
			many = 7
		}
		if len(seen[op]) < many {
			t.Errorf("of Op %d there are but %d: %v", op, len(seen[op]), seen[op])
		}
	}
}

func TestDrawnProgramsRun(t *testing.T) {
	changed := 0
	for k := range uint64(4000) {
		r := rand.New(rand.NewPCG(93, k))
		p := runProgram(r)
		text := ""
		for range r.IntN(6) {
			text += drawnLine(r) + "\n"
		}
		text += oneOf(r, "", drawnLine(r), strings.Repeat("a 1\n", r.IntN(25)))
		got, ok := impl.RunTree(p, text)
		if ok != (plainComesTo(p) <= maxComeTo) {
			t.Fatalf("of %v nodes run: %v", plainComesTo(p), ok)
		}
		if !ok {
			checkNotRun(t, p, drawnMeantStore(r), drawnInput(r))
			continue
		}
		checkSame(t, fmt.Sprintf("RunTree of %q by\n%s", text, toldProgram(p)), got, plainTree(p, text))
		checkStoreOk(t, got, true)
		if toldStore(got) != toldStore(impl.Store{}) {
			changed++
		}
	}
	if changed < 2500 {
		t.Errorf("only %d come to something", changed)
	}
}

func TestTrue(t *testing.T) {
	for s, want := range map[string]bool{"": false, "0": false, "00": true, " 0": true, "0 ": true, "1": true, "000000": true, " ": true, "\x00": true, "a": true, "-0": true, "10": true, "\n": true, strings.Repeat("0", 41): true} {
		if impl.True(s) != want {
			t.Errorf("True(%q) = %v", s, !want)
		}
	}
	for b := range 256 {
		if s := string([]byte{byte(b)}); impl.True(s) != (b != '0') || !impl.True(s+"0") || !impl.True("0"+s) {
			t.Errorf("True of the byte %d", b)
		}
	}
}

func TestFieldsOfLines(t *testing.T) {
	most := strings.Repeat("abcdefghij", 4)
	twenty := strings.Fields(strings.Repeat("f1 ", 19) + "last")
	for _, c := range []struct {
		line   string
		whole  string
		fields []string
	}{
		{"", "", nil}, {" ", " ", nil}, {"\t", "\t", nil}, {"  \t ", "  \t ", nil}, {strings.Repeat(" ", 50), strings.Repeat(" ", 40), nil},
		{"a", "a", []string{"a"}}, {" a ", " a ", []string{"a"}}, {"a\tb  c", "a\tb  c", []string{"a", "b", "c"}}, {"0", "0", []string{"0"}},
		{most, most, []string{most}}, {most + "x", most, []string{most}}, {"y " + most + "x z", "y " + most[:38], []string{"y", most, "z"}},
		{strings.Repeat(" ", 45) + "far", strings.Repeat(" ", 40), []string{"far"}}, {"a\nb", "a\nb", []string{"a\nb"}}, {"\x00 \xff", "\x00 \xff", []string{"\x00", "\xff"}},
		{strings.Join(twenty, " "), plainCut(strings.Join(twenty, " "), 40), twenty}, {strings.Join(twenty, "\t") + " more", plainCut(strings.Join(twenty, "\t"), 40), twenty},
	} {
		in := impl.Input{Line: c.line, Num: 3}
		checkTold(t, "NF", impl.Store{}, in, strconv.Itoa(len(c.fields)))
		for _, none := range []string{"0", "000", `""`, `"x"`, `"-1"`, `"x1"`, `" "`, "none", `"1000000"`} {
			checkTold(t, "$"+none, impl.Store{}, in, c.whole)
		}
		for i, field := range c.fields {
			for _, form := range []string{"%d", "%06d", `" %d"`, `"%dx"`, `"%d "`, `"1%06d"`, "(0 + %d)"} {
				checkTold(t, "$"+fmt.Sprintf(form, i+1), impl.Store{}, in, field)
			}
		}
		if len(c.fields) > 0 {
			checkTold(t, "$NF", impl.Store{}, in, c.fields[len(c.fields)-1])
		} else {
			checkTold(t, "$NF", impl.Store{}, in, c.whole)
		}
		for _, behind := range []int{1, 2, 20, 1000, 999999 - len(c.fields)} {
			checkTold(t, "$"+strconv.Itoa(len(c.fields)+behind), impl.Store{}, in, "")
		}
		checkTold(t, "$(0 - 1)", impl.Store{}, in, "")
		checkTold(t, "length($0)", impl.Store{}, in, strconv.Itoa(len(c.whole)))
	}
	// What a field tells may be the number of another one.
	checkTold(t, "$$$1", impl.Store{}, impl.Input{Line: "3 x 2"}, "x")
	checkTold(t, "$n", impl.Store{Vars: vars("n", "2")}, impl.Input{Line: "a b"}, "b")
}

func TestNumberOfTheLine(t *testing.T) {
	for n, want := range map[int]string{0: "0", 1: "1", 20: "20", 999999: "999999", 1000000: "0", 1000001: "1", -1: "999999", -1000000: "0", math.MaxInt: "775807", math.MinInt: "224192"} {
		checkTold(t, "NR", impl.Store{}, impl.Input{Line: "7", Num: n}, want)
	}
}

func TestNamesAndCellsThatAreTold(t *testing.T) {
	forty := strings.Repeat("k", 40)
	s := impl.Store{Vars: vars("a", "1", "b", "", "k", forty), Cells: cells("a", "", "none", "a", "1", "one", "a", forty, "forty", "b", "1", "two"), Out: "out"}
	for expression, want := range map[string]string{
		"a": "1", "b": "", "c": "", "A": "", "k": forty, `a[""]`: "none", "a[1]": "one", "a[a]": "one", "a[01]": "", `a["1"]`: "one", "b[1]": "two", `b[""]`: "", "c[1]": "", "a[b]": "none", "a[c]": "none",
		"a[k]": "forty", `a[k . "x"]`: "forty", "a[0 + 1]": "one", "a[a[2]]": "none", "b[b[2] . 1]": "two", "07": "07", `" 7 "`: " 7 ", `""`: "", "999999": "999999", "00": "00",
	} {
		checkTold(t, expression, s, impl.Input{Line: "x y"}, want)
	}
}

// In stores that are not right values may be longer than MaxVal: these alone make keys and texts that are longer.
func TestLongKeysAndTexts(t *testing.T) {
	long := strings.Repeat("0123456789", 30)
	s := impl.Store{Vars: vars("k", long, "m", long[:41]), Cells: cells("t", long[:40], "cut", "t", long[:41], "not cut", "t", "long", long)}
	for expression, want := range map[string]string{
		"k": long, "m": long[:41], "t[k]": "cut", "t[m]": "cut", `t["long"]`: long, "length(k)": "300", "length(m)": "41", `length(t["long"])`: "300", "length(t[k])": "3",
		"k . m": long[:40], `"" . k`: long[:40], `k . ""`: long[:40], `length(k . "")`: "40", "k == m": "0", "m < k": "1", "k < m": "0", "k ~ /9$/": "1", "m ~ /9$/": "0", "k + 1": "456790", "k . 0 + 1": long[:40],
	} {
		checkTold(t, expression, s, impl.Input{}, want)
	}
	checkDone(t, "t[k] = 1", s, impl.Input{}, impl.Store{Vars: s.Vars, Cells: cells("t", long[:40], "1", "t", long[:41], "not cut", "t", "long", long)}, true)
	checkDone(t, "t[k] += 1", s, impl.Input{}, impl.Store{Vars: s.Vars, Cells: cells("t", long[:40], "1", "t", long[:41], "not cut", "t", "long", long)}, true)
	checkDone(t, "k = k", s, impl.Input{}, impl.Store{Vars: vars("k", long[:40], "m", long[:41]), Cells: s.Cells}, true)
	checkDone(t, "u[1] = k", s, impl.Input{}, impl.Store{Vars: s.Vars, Cells: append(slices.Clone(s.Cells), cells("u", "1", long[:40])...)}, true)
	checkDone(t, "print k, k", s, impl.Input{}, impl.Store{Vars: s.Vars, Cells: s.Cells, Out: long + " " + long + "\n"}, true)
	wide := impl.Store{Vars: vars("w", strings.Repeat("w", 1000001), "x", strings.Repeat("x", 999999))}
	checkTold(t, "length(w)", wide, impl.Input{}, "1")
	checkTold(t, "length(x)", wide, impl.Input{}, "999999")
	checkTold(t, `length("")`, wide, impl.Input{}, "0")
	checkTold(t, "length(none)", wide, impl.Input{}, "0")
	checkTold(t, `length("`+long[:30]+`")`, wide, impl.Input{}, "30")
	checkTold(t, "length($0)", wide, impl.Input{Line: long}, "40")
	checkTold(t, "length($1)", wide, impl.Input{Line: " \t" + long}, "40")
}

func TestReckoning(t *testing.T) {
	s := impl.Store{Vars: vars("f", strings.Repeat("9", 40), "n", "12")}
	for expression, want := range map[string]string{
		"1 + 2": "3", "007 + 1": "8", "999999 + 1": "0", "999999 + 999999": "999998", "500000 + 500000": "0", `"x" + "y"`: "0", `"12ab" + " 3 4"`: "15", `"1000001" + 1`: "2", `"-5" + 1`: "1", "none + none": "0", "n + f": "11",
		"5 - 3": "2", "3 - 5": "999998", "0 - 1": "999999", "0 - 999999": "1", "7 - 7": "0", `"x" - 1`: "999999", `1 - "x"`: "1", "n - 2 - 3": "7",
		"6 * 7": "42", "1000 * 1000": "0", "999999 * 999999": "1", "999999 * 2": "999998", "123456 * 654321": "853376", `"x" * 5`: "0", "0 * 9": "0", "f * f": "1",
		"7 % 3": "1", "7 % 7": "0", "3 % 7": "3", "0 % 7": "0", "7 % 0": "0", "0 % 0": "0", `7 % "x"`: "0", `7 % ""`: "0", "7 % none": "0", `"x" % 7`: "0", `7 % "1000000"`: "0", `7 % "1000005"`: "2", "999999 % 1": "0", "(0 - 1) % 10": "9",
		"1 + 2 * 3": "7", "(1 + 2) * 3": "9", "10 - 3 - 2": "5", "1 . 2": "12", "1 . 2 + 3": "15", `"a" . "b"`: "ab", `"" . ""`: "", `"a " . " b"`: "a  b", "f . 1": strings.Repeat("9", 40),
	} {
		checkTold(t, expression, s, impl.Input{}, want)
	}
	thirty := strings.Repeat("t", 30)
	for count := range 31 {
		checkTold(t, `"`+thirty+`" . "`+strings.Repeat("u", count)+`"`, s, impl.Input{}, plainCut(thirty+strings.Repeat("u", count), 40))
	}
}

func TestReckoningOfAllTexts(t *testing.T) {
	all := append(append(numberTexts(), otherTexts()...), " 999999", "999999x", "0999999", "3", "4")
	nodes := []impl.Node{node(impl.ExName, "a"), node(impl.ExName, "b")}
	for op := impl.ExAdd; op <= impl.ExSame; op++ {
		nodes = append(nodes, node(op, "", 0, 1))
	}
	p := impl.Program{Nodes: nodes}
	for _, a := range all {
		for _, b := range all {
			s := impl.Store{Vars: vars("a", a, "b", b)}
			for place, node := range nodes {
				if got, want := impl.Eval(p, place, s, impl.Input{}), plainTell(node, s, impl.Input{}, bySentences{p, impl.Input{}}); got != want {
					t.Fatalf("Op %d of %q and %q tells %q; want %q", node.Op, a, b, got, want)
				}
			}
		}
	}
}

func TestLessAndSame(t *testing.T) {
	for expression, want := range map[string]string{
		"1 < 2": "1", "2 < 1": "0", "9 < 10": "1", "10 < 9": "0", "5 < 5": "0", "007 < 8": "1", "07 < 7": "0", "999999 < 0": "0",
		`"a" < "b"`: "1", `"b" < "a"`: "0", `"a" < "a"`: "0", `"a" < "ab"`: "1", `"" < "a"`: "1", `"" < ""`: "0", `"B" < "a"`: "1", `"10x" < "9x"`: "1",
		`9 < "10x"`: "0", `"10x" < 9`: "1", `10 < "a"`: "1", `"a" < 10`: "0", `"" < 0`: "1", `9 < " 10"`: "0", `9 < "1000000"`: "0",
		"1 == 1": "1", "1 == 2": "0", "01 == 1": "1", "000000 == 0": "1", `"a" == "a"`: "1", `"a" == "A"`: "0", `"" == ""`: "1", `"a" == "a "`: "0",
		`"" == 0`: "0", `1 == "1"`: "1", `1 == " 1"`: "0", `1 == "1x"`: "0", `"0000001" == 1`: "0", "none == 0": "0", `none == ""`: "1", "(1 < 2) == 1": "1",
	} {
		checkTold(t, expression, impl.Store{}, impl.Input{}, want)
	}
}

func TestHas(t *testing.T) {
	in := impl.Input{Line: "abc b9 "}
	for expression, want := range map[string]string{
		"$0 ~ /abc/": "1", "$0 ~ /^abc/": "1", "$0 ~ /9 $/": "1", "$0 ~ /b9/": "1", "$0 ~ /x/": "0", "$0 ~ /^b/": "0", "$0 ~ /9$/": "0", "$2 ~ /9$/": "1", "$0 ~ /x*/": "1", "$0 ~ /^$/": "0", "$3 ~ /^$/": "1", "$3 ~ /./": "0",
		"$3 ~ /x*/": "1", `"" ~ /|a/`: "1", `"x" ~ /()/`: "1", "$0 ~ /[90]/": "1", "$1 ~ /[90]/": "0", "$1 ~ /^(a|b|c)+$/": "1", "NF ~ /2/": "1", "$0 ~ /$/": "1", `"a" ~ /a$b/`: "0", "($0 ~ /c/) ~ /1/": "1", `"." ~ /\./`: "1", `"x" ~ /\./`: "0",
	} {
		checkTold(t, expression, impl.Store{}, in, want)
	}
	// Where it is found, does not count.
	for at := range 41 {
		line := strings.Repeat("-", at) + "x" + strings.Repeat("-", 40-at)
		checkTold(t, "$0 ~ /x/", impl.Store{}, impl.Input{Line: line}, plainTruth(at < 40))
		checkTold(t, "$0 ~ /x$/", impl.Store{}, impl.Input{Line: line}, plainTruth(at == 39))
		checkTold(t, "$0 ~ /^x/", impl.Store{}, impl.Input{Line: line}, plainTruth(at == 0))
	}
}

func TestPrint(t *testing.T) {
	s, in := impl.Store{Vars: vars("n", "5"), Cells: cells("t", "k", "v"), Out: "out\n"}, impl.Input{Line: " a  b", Num: 2}
	with := func(out string) impl.Store { return impl.Store{Vars: s.Vars, Cells: s.Cells, Out: out} }
	checkDone(t, "print n", s, in, with("out\n5\n"), true)
	checkDone(t, `print ""`, s, in, with("out\n\n"), true)
	checkDone(t, "print n, NR", s, in, with("out\n5 2\n"), true)
	checkDone(t, `print n, "", $0`, s, in, with("out\n5   a  b\n"), true)
	checkDone(t, `print $2, t["k"], none, n + 1`, s, in, with("out\nb v  6\n"), true)
	checkDone(t, `print "", "", "", ""`, s, in, with("out\n   \n"), true)
	forty := strings.Repeat("f", 40)
	four := strings.Join([]string{forty, forty, forty, forty}, " ") + "\n"
	for _, size := range []int{0, 2835, 2836, 2837, 2900, 2995, 2999, 3000} {
		out := strings.Repeat("o", size)
		checkDone(t, "print $1, $1, $1, $1", with(out), impl.Input{Line: forty + "x"}, with(plainCut(out+four, 3000)), true)
		checkDone(t, `print ""`, with(out), in, with(plainCut(out+"\n", 3000)), true)
	}
	// An Out that is too long is cut where something is said, and stays where nothing is.
	checkDone(t, `print ""`, with(strings.Repeat("o", 3100)), in, with(strings.Repeat("o", 3000)), true)
	checkDone(t, "dump none", with(strings.Repeat("o", 3100)), in, with(strings.Repeat("o", 3100)), true)
	checkDone(t, "dump t", with(strings.Repeat("o", 3100)), in, with(strings.Repeat("o", 3000)), true)
}

func TestSettings(t *testing.T) {
	s := impl.Store{Vars: vars("b", "999999", "d", "12x"), Cells: cells("t", "b", "999999", "t", "d", "12x"), Out: "out\n"}
	withVars := func(pairs ...string) impl.Store { return impl.Store{Vars: vars(pairs...), Cells: s.Cells, Out: s.Out} }
	withCells := func(threes ...string) impl.Store {
		return impl.Store{Vars: s.Vars, Cells: cells(threes...), Out: s.Out}
	}
	for statement, want := range map[string]impl.Store{
		`b = "x y"`: withVars("b", "x y", "d", "12x"), "b = b + 2": withVars("b", "1", "d", "12x"), `d = ""`: withVars("b", "999999", "d", ""), "b = none": withVars("b", "", "d", "12x"),
		"a = 1": withVars("a", "1", "b", "999999", "d", "12x"), "c = d": withVars("b", "999999", "c", "12x", "d", "12x"), "e = 007": withVars("b", "999999", "d", "12x", "e", "007"), `e = ""`: withVars("b", "999999", "d", "12x", "e", ""),
		"b += 2": withVars("b", "1", "d", "12x"), "d += 1": withVars("b", "999999", "d", "13"), `d += "x"`: withVars("b", "999999", "d", "12"), "d += d": withVars("b", "999999", "d", "24"), `b += " 1 7"`: withVars("b", "0", "d", "12x"),
		"a += 3": withVars("a", "3", "b", "999999", "d", "12x"), "c += none": withVars("b", "999999", "c", "0", "d", "12x"), "e += 007": withVars("b", "999999", "d", "12x", "e", "7"),
		`t["b"] = 1`: withCells("t", "b", "1", "t", "d", "12x"), `t["d"] = ""`: withCells("t", "b", "999999", "t", "d", ""), `t["c"] = t["d"]`: withCells("t", "b", "999999", "t", "c", "12x", "t", "d", "12x"),
		`t[none] = 1`: withCells("t", "", "1", "t", "b", "999999", "t", "d", "12x"), `u["b"] = 2`: withCells("t", "b", "999999", "t", "d", "12x", "u", "b", "2"), `b["b"] = 2`: withCells("b", "b", "2", "t", "b", "999999", "t", "d", "12x"),
		`t["b"] += 2`: withCells("t", "b", "1", "t", "d", "12x"), `t["d"] += 1`: withCells("t", "b", "999999", "t", "d", "13"), `t["c"] += "7x"`: withCells("t", "b", "999999", "t", "c", "7", "t", "d", "12x"),
		`t["e"] += none`: withCells("t", "b", "999999", "t", "d", "12x", "t", "e", "0"), `s["b"] += b`: withCells("s", "b", "999999", "t", "b", "999999", "t", "d", "12x"), `t["d"] += t["d"]`: withCells("t", "b", "999999", "t", "d", "24"),
	} {
		checkDone(t, statement, s, impl.Input{}, want, true)
	}
	forty := strings.Repeat("f", 40)
	checkDone(t, `a = "`+forty[:30]+`" . "`+forty[:30]+`"`, impl.Store{}, impl.Input{}, impl.Store{Vars: vars("a", forty)}, true)
	checkDone(t, "t[$1] = $2", impl.Store{}, impl.Input{Line: forty + "x " + forty + "y"}, impl.Store{Cells: cells("t", forty, forty)}, true)
	checkDone(t, "t[$1] += $2", impl.Store{}, impl.Input{Line: forty + "x 5"}, impl.Store{Cells: cells("t", forty, "5")}, true)
}

func TestSettingsInFullStores(t *testing.T) {
	s := impl.Store{Vars: manyVars(60), Cells: manyCells(2000), Out: "out\n"}
	for _, statement := range []string{"new = 1", "new += 1", `new["k"] = 1`, `new["k"] += 1`, "x[0] = 1", "x[0] += 1", `z["a"] = 1`, "aA = 1", "zz += 1"} {
		checkDone(t, statement, s, impl.Input{}, s, true)
	}
	for _, place := range []int{0, 30, 59} {
		for _, form := range []string{"%s = 61", "%s += 61"} {
			want := copyOfStore(s)
			want.Vars[place].Val = plainNumText(61 + map[string]int{"%s += 61": place}[form])
			checkDone(t, fmt.Sprintf(form, s.Vars[place].Name), s, impl.Input{}, want, true)
		}
	}
	for _, place := range []int{0, 1000, 1999} {
		for _, form := range []string{`%s["%s"] = 61`, `%s["%s"] += 61`} {
			want := copyOfStore(s)
			want.Cells[place].Val = plainNumText(61 + map[string]int{`%s["%s"] += 61`: place}[form])
			checkDone(t, fmt.Sprintf(form, s.Cells[place].Name, s.Cells[place].Key), s, impl.Input{}, want, true)
		}
	}
	// Where there is room for one more, the second one is not set.
	s = impl.Store{Vars: manyVars(59), Cells: manyCells(1999)}
	want := impl.SetCell(impl.SetVar(s, "new", "1"), "new", "k", "1")
	if len(want.Vars) != 60 || len(want.Cells) != 2000 {
		t.Fatal("there is no room")
	}
	checkDone(t, `{ new = 1; newer = 1; new["k"] = 1; new["l"] = 1; none += 1; none[1] += 1 }`, s, impl.Input{}, want, true)
}

func TestChoices(t *testing.T) {
	for text, isTrue := range map[string]bool{`""`: false, "0": false, "none": false, "00": true, `" 0"`: true, "1": true, `"x"`: true, "1 < 2": true, "2 < 1": false, "0 + 0": false, `"" . ""`: false, "0 . 0": true} {
		said := map[bool]string{true: "yes\n", false: "no\n"}[isTrue]
		checkDone(t, "if ("+text+`) print "yes" else print "no"`, impl.Store{}, impl.Input{}, impl.Store{Out: said}, true)
		alone := map[bool]string{true: "yes\n", false: ""}[isTrue]
		checkDone(t, "if ("+text+`) print "yes"`, impl.Store{}, impl.Input{}, impl.Store{Out: alone}, true)
		checkDone(t, "if ("+text+") next", impl.Store{Out: "o"}, impl.Input{}, impl.Store{Out: "o"}, !isTrue)
		checkDone(t, "if ("+text+") next else n = 1", impl.Store{}, impl.Input{}, impl.Store{Vars: map[bool][]impl.Var{true: nil, false: vars("n", "1")}[isTrue]}, !isTrue)
		checkDone(t, "if ("+text+") n = 1 else next", impl.Store{}, impl.Input{}, impl.Store{Vars: map[bool][]impl.Var{false: nil, true: vars("n", "1")}[isTrue]}, isTrue)
		checkDone(t, "if ("+text+") { } else { }", impl.Store{}, impl.Input{}, impl.Store{}, true)
	}
	// The expression is asked once, ahead of both.
	checkDone(t, "if (n) n = 0 else n = 1", impl.Store{Vars: vars("n", "1")}, impl.Input{}, impl.Store{Vars: vars("n", "0")}, true)
	checkDone(t, "if (n) n = 0 else n = 1", impl.Store{}, impl.Input{}, impl.Store{Vars: vars("n", "1")}, true)
}

func TestNext(t *testing.T) {
	out := func(said string) impl.Store { return impl.Store{Out: said} }
	for statement, want := range map[string]string{
		"next": "", "{ next; print 1 }": "", "{ print 1; next; print 2 }": "1\n", "{ { print 1; { next }; print 2 }; print 3 }": "1\n", "{ { { next; print 1 }; print 2 }; print 3 }": "",
		"{ print 1; if (1) next; print 2 }": "1\n", "{ if (1) { print 1; next; print 2 } else print 3; print 4 }": "1\n", "{ if (0) print 1 else { { print 2; next } }; print 3 }": "2\n", "{ if (1) { if (1) next }; print 1 }": "",
		"{ { }; print 1; { print 2; next; next } }": "1\n2\n",
	} {
		checkDone(t, statement, impl.Store{}, impl.Input{}, out(want), false)
	}
	for statement, want := range map[string]string{
		"{ }": "", "{ { } }": "", "{ { }; { { }; { } } }": "", "{ if (0) next; print 2 }": "2\n", "{ if (1) print 1 else next; print 2 }": "1\n2\n", "{ if (0) { next }; { if (0) { next } }; print 3 }": "3\n", "{ print 1; print 2 }": "1\n2\n",
	} {
		checkDone(t, statement, impl.Store{}, impl.Input{}, out(want), true)
	}
	// Twenty statements, of which one is the last that is done.
	for stop := range 20 {
		statements := slices.Repeat([]string{"n += 1"}, 20)
		statements[stop] = "next"
		want := impl.Store{}
		if stop > 0 {
			want.Vars = vars("n", strconv.Itoa(stop))
		}
		checkDone(t, "{ "+strings.Join(statements, ";")+" }", impl.Store{}, impl.Input{}, want, false)
	}
}

func TestBlocksAndDumps(t *testing.T) {
	s := impl.Store{Vars: vars("t", "9"), Cells: cells("s", "x", "0", "t", "", "1", "t", "b", "2", "u", "x", "3"), Out: "out\n"}
	with := func(out string) impl.Store { return impl.Store{Vars: s.Vars, Cells: s.Cells, Out: out} }
	checkDone(t, "{ }", s, impl.Input{}, s, true)
	checkDone(t, "dump t", s, impl.Input{}, with("out\n 1\nb 2\n"), true)
	checkDone(t, "dump s", s, impl.Input{}, with("out\nx 0\n"), true)
	checkDone(t, "dump none", s, impl.Input{}, s, true)
	checkDone(t, "dump T", s, impl.Input{}, s, true)
	checkDone(t, "{ dump u; dump s; dump u }", s, impl.Input{}, with("out\nx 3\nx 0\nx 3\n"), true)
	checkDone(t, `{ u["a"] = 7; dump u; u["x"] += 1; dump u }`, impl.Store{Cells: cells("u", "x", "3")}, impl.Input{}, impl.Store{Cells: cells("u", "a", "7", "u", "x", "4"), Out: "a 7\nx 3\na 7\nx 4\n"}, true)
	// What is said of many cells is cut.
	many := impl.Store{Cells: manyCells(2000)}
	for _, size := range []int{0, 1, 1500, 2998, 2999, 3000, 3001} {
		many.Out = strings.Repeat("o", size)
		checkDone(t, "{ dump y; dump x }", many, impl.Input{}, plainDump(plainDump(many, "y"), "x"), true)
	}
}

func TestRulesInTheirOrder(t *testing.T) {
	p := mustReadProgram(t, `BEGIN { print "b" } { print "l"; n = 2 } END { print "e" } n == 2 { print "two"; n = 0 } n { print "not" } BEGIN { print "bb" } n == 0 { print "nought" } "" { print "never" } END { print n, NR, $1 } 00 { print "last" }`)
	in := impl.Input{Line: "x y", Num: 7}
	for when, want := range map[int]impl.Store{
		impl.WhenBegin: {Out: "b\nbb\n"}, impl.WhenLine: {Vars: vars("n", "0"), Out: "l\ntwo\nnought\nlast\n"}, impl.WhenEnd: {Out: "e\n 7 x\n"},
		0: {}, 4: {}, -1: {}, math.MaxInt: {}, math.MinInt: {},
	} {
		checkSame(t, fmt.Sprint("rules of ", when), impl.RunRules(p, when, impl.Store{}, in), want)
	}
	checkSame(t, "at the end", impl.RunRules(p, impl.WhenEnd, impl.Store{Vars: vars("n", "5"), Out: "out\n"}, in), impl.Store{Vars: vars("n", "5"), Out: "out\ne\n5 7 x\n"})
	// Of a When that no rule has, and without rules, nothing is done.
	for _, program := range []string{"", "{ print 1 }", "BEGIN { print 1 }", "END { print 1 }"} {
		p := mustReadProgram(t, program)
		s := impl.Store{Vars: vars("n", "5"), Cells: cells("t", "k", "v"), Out: "out\n"}
		for when := -1; when < 6; when++ {
			want := s
			if len(p.Rules) > 0 && p.Rules[0].When == when {
				want = impl.Say(s, "1")
			}
			checkSame(t, fmt.Sprintf("%q of %d", program, when), impl.RunRules(p, when, s, in), want)
		}
	}
}

func TestRulesThatGoOnNoMore(t *testing.T) {
	for program, want := range map[string]string{
		`{ print 1 } { print 2; next; print 3 } { print 4 } 1 { print 5 }`: "1\n2\n", `{ next } { print 1 }`: "", `0 { next } { print 1 }`: "1\n", `1 { { { if (1) next } }; print 1 } { print 2 }`: "", `{ print 1 } 1 { next }`: "1\n",
		`n { next } { n = 1 } n { print 1; next } { print 2 }`: "1\n", `BEGIN { next } END { next } { print 1 }`: "1\n",
	} {
		p := mustReadProgram(t, program)
		if got := impl.RunRules(p, impl.WhenLine, impl.Store{}, impl.Input{}); got.Out != want {
			t.Errorf("%s says %q; want %q", program, got.Out, want)
		}
	}
	for when, word := range map[int]string{impl.WhenBegin: "BEGIN", impl.WhenEnd: "END"} {
		p := mustReadProgram(t, fmt.Sprintf("%s { print 1 } { print 2 } %s { next; print 3 } %s { print 4 }", word, word, word))
		if got := impl.RunRules(p, when, impl.Store{}, impl.Input{}); got.Out != "1\n" {
			t.Errorf("%s says %q", word, got.Out)
		}
	}
}

func TestRulesOfEveryIf(t *testing.T) {
	for test, isTrue := range map[string]bool{`""`: false, "0": false, "00": true, `" 0"`: true, "1": true, `"a"`: true, "$1": false, "$2": true, "NF": true, "$9": false, "n": false, "n == 0": false, `n == ""`: true} {
		checkRun(t, test+` { print "done" }`, "0 x\n", impl.Store{Out: map[bool]string{true: "done\n", false: ""}[isTrue]})
	}
}

func checkLines(t *testing.T, text string, want ...string) {
	t.Helper()
	got := impl.LinesOf(text)
	if !slices.Equal(got, want) || !slices.Equal(plainLinesOf(text), want) {
		t.Fatalf("LinesOf(%.100q) = %.100q; want %.100q", text, got, want)
	}
}

func TestLinesByHand(t *testing.T) {
	long := strings.Repeat("long ", 10000)
	checkLines(t, "")
	checkLines(t, "\n", "")
	checkLines(t, "\n\n", "", "")
	checkLines(t, "a", "a")
	checkLines(t, "a\n", "a")
	checkLines(t, "a\n\n", "a", "")
	checkLines(t, "\na", "", "a")
	checkLines(t, "\na\n", "", "a")
	checkLines(t, "a\nb", "a", "b")
	checkLines(t, "a\nb\n", "a", "b")
	checkLines(t, "a\n\nb", "a", "", "b")
	checkLines(t, "a\n\n\nb\n\n", "a", "", "", "b", "")
	checkLines(t, " ", " ")
	checkLines(t, " \n\t\n", " ", "\t")
	checkLines(t, "a\r\nb\rc\x00\n\xff", "a\r", "b\rc\x00", "\xff")
	checkLines(t, long+"\n"+long, long, long)
}

func TestNumberOfLines(t *testing.T) {
	for _, count := range []int{0, 1, 2, 19, 20, 21, 22, 40, 100000} {
		lines := []string{}
		for i := range count {
			lines = append(lines, strconv.Itoa(i))
		}
		first := lines[:min(count, 20)]
		text := strings.Join(lines, "\n")
		checkLines(t, text, first...)
		if count > 0 {
			checkLines(t, text+"\n", first...)
			checkLines(t, text+"\n\n", append(slices.Clone(first), "")[:min(count+1, 20)]...)
		}
		checkLines(t, strings.Repeat("\n", count), slices.Repeat([]string{""}, min(count, 20))...)
	}
}

func TestLinesPutTogether(t *testing.T) {
	for k := range uint64(5000) {
		r := rand.New(rand.NewPCG(94, k))
		text := ""
		for range r.IntN(60) {
			text += oneOf(r, "a", "b ", "\n", "\n", "\n\n", "\t")
		}
		lines := impl.LinesOf(text)
		checkLines(t, text, lines...)
		together := ""
		for _, line := range lines {
			together += line + "\n"
		}
		if len(lines) < 20 && strings.TrimSuffix(text, "\n") != strings.TrimSuffix(together, "\n") || !strings.HasPrefix(text+"\n", together) {
			t.Fatalf("the lines of %q put together are %q", text, together)
		}
	}
}

func TestProgramsOverTexts(t *testing.T) {
	see := `BEGIN { print "b", $0, NR, NF } { print "l", $0, NR, NF } END { print "e", $0, NR, NF }`
	for text, want := range map[string]string{
		"":             "b  0 0\ne  0 0\n",
		"\n":           "b  0 0\nl  1 0\ne  1 0\n",
		"x y":          "b  0 0\nl x y 1 2\ne x y 1 2\n",
		"x y\n":        "b  0 0\nl x y 1 2\ne x y 1 2\n",
		"x\n\n":        "b  0 0\nl x 1 1\nl  2 0\ne  2 0\n",
		"x\n \na b\tc": "b  0 0\nl x 1 1\nl   2 0\nl a b\tc 3 3\ne a b\tc 3 3\n",
	} {
		checkRun(t, see, text, impl.Store{Out: want})
	}
	for _, count := range []int{1, 2, 19, 20, 21, 50} {
		text, told := "", 0
		for i := range count {
			text += fmt.Sprintf("%d line\n", 100+i)
			if i < 20 {
				told += 100 + i
			}
		}
		last := strconv.Itoa(99 + min(count, 20))
		want := impl.Store{Vars: vars("n", strconv.Itoa(min(count, 20)), "s", strconv.Itoa(told)), Out: last + " " + strconv.Itoa(min(count, 20)) + "\n"}
		for _, end := range []string{text, strings.TrimSuffix(text, "\n")} {
			checkRun(t, "{ n = NR; s += $1 } END { print $1, NR }", end, want)
		}
	}
}

func TestProgramsOverLines(t *testing.T) {
	checkRun(t, `{ n += $2; if ($1 == 2) next; print $0 } END { print n, NR }`, "1 5\n2 6\n", impl.Store{Vars: vars("n", "11"), Out: "1 5\n11 2\n"})
	// A rule that goes on no more ends its line alone, and the begin and the end alone.
	checkRun(t, `BEGIN { print "b"; next; print "bb" } BEGIN { print "bbb" } $1 == "x" { next } { print $1 } END { print "e"; next } END { print "ee" }`, "a\nx\nc\n", impl.Store{Out: "b\na\nc\ne\n"})
	checkRun(t, `{ t[$1] += $2; t["all"] += 1 } END { dump t }`, "b 1\na 2\n\nb 999999\n", impl.Store{Cells: cells("t", "", "0", "t", "a", "2", "t", "all", "4", "t", "b", "0"), Out: " 0\na 2\nall 4\nb 0\n"})
	checkRun(t, "$1 ~ /^[0123456789]+$/ { n += 1 } END { print n . \" of \" . NR }", "12\nx\n7 y\n", impl.Store{Vars: vars("n", "2"), Out: "2 of 3\n"})
	checkRun(t, "", "a\nb\n", impl.Store{})
	checkRun(t, "{ }", "a\nb\n", impl.Store{})
	checkRun(t, "BEGIN { n = 5 }", "", impl.Store{Vars: vars("n", "5")})
	checkRun(t, "BEGIN { n = 5 } { n += NR } END { n = n . \"!\" }", "a\nb\nc", impl.Store{Vars: vars("n", "11!")})
	// What is said over all the lines stays within its bound.
	forty := strings.Repeat("f", 40)
	checkRun(t, "{ print $0, $0, $0, $0 }", strings.Repeat(forty+"\n", 20), impl.Store{Out: strings.Repeat(forty+" "+forty+" "+forty+" "+forty+"\n", 20)[:3000]})
}

func TestStoresThatProgramsFill(t *testing.T) {
	// Of each line 120 cells, and of the begin 61 names.
	nodes := []impl.Node{node(impl.ExNum, "1"), node(impl.StAdd, "n", 0), node(impl.ExName, "n"), node(impl.StSetCell, "c", 2, 2)}
	nodes, do := stacked(nodes, slices.Repeat([]int{1, 3}, 120))
	settings := []int{}
	for i := range 61 {
		settings = append(settings, len(nodes))
		nodes = append(nodes, node(impl.StSet, lettered(i), 0))
	}
	nodes, begin := stacked(nodes, settings)
	p := impl.Program{Nodes: nodes, Rules: []impl.Rule{rule(impl.WhenBegin, -1, begin), rule(impl.WhenLine, -1, do)}}
	checkOkProgram(t, p, true)
	got, ok := impl.RunTree(p, strings.Repeat("\n", 20))
	if !ok || len(got.Vars) != 60 || impl.VarOf(got, lettered(59)) != "1" || impl.VarOf(got, lettered(60)) != "" {
		t.Errorf("run: %v; there are %d names", ok, len(got.Vars))
	}
	// There is no room for n, so that one cell alone is set.
	checkSame(t, "names without room", got, plainTree(p, strings.Repeat("\n", 20)))
	p.Rules = p.Rules[1:]
	got, ok = impl.RunTree(p, strings.Repeat("\n", 20))
	if !ok || len(got.Cells) != 2000 || impl.VarOf(got, "n") != "2400" || impl.CellOf(got, "c", "2000") != "2000" || impl.CellOf(got, "c", "2001") != "" {
		t.Errorf("run: %v; there are %d cells", ok, len(got.Cells))
	}
	checkStoreOk(t, got, true)
}

// sized is a row of nodes whose last one has so many nodes below it: it names the one ahead of it twice, or once.
func sized(below int, leaf impl.Node, twice int, once int) []impl.Node {
	if below == 0 {
		return []impl.Node{node(impl.ExNum, "1"), leaf}
	}
	if below%2 == 1 {
		nodes := sized(below-1, leaf, twice, once)
		return append(nodes, node(once, "", len(nodes)-1))
	}
	nodes := sized(below/2-1, leaf, twice, once)
	return append(nodes, node(twice, "", len(nodes)-1, len(nodes)-1))
}

func sizedExpression(below int) []impl.Node {
	return sized(below, node(impl.ExFields, ""), impl.ExJoin, impl.ExLong)
}

// sizedStatement has leaves that say something where there is a cell of u.
func sizedStatement(below int) []impl.Node {
	return sized(below, node(impl.StDump, "u"), impl.StBlock, impl.StBlock)
}

func TestNodesBelowANode(t *testing.T) {
	s, in := impl.Store{Vars: vars("n", "1"), Cells: cells("u", "", ""), Out: "out\n"}, impl.Input{Line: "a b c"}
	for _, below := range []int{0, 1, 2, 3, 100, 1000, 1990, 1998, 1999, 2000, 2001, 2002, 2003, 2010, 3000, 4000, 4001, 1 << 20, 1<<20 + 1} {
		for _, nodes := range [][]impl.Node{sizedExpression(below), sizedStatement(below)} {
			p, last := impl.Program{Nodes: nodes}, len(nodes)-1
			if plainBelow(nodes)[last] != float64(below) || !impl.ProgramOk(p) {
				t.Fatalf("there are %v below", plainBelow(nodes)[last])
			}
			checkParts(t, p, s, in)
			told := impl.Eval(p, last, s, in)
			done, _ := impl.Exec(p, last, s, in)
			if isMeant := told != "" || !impl.SameStore(done, s); isMeant != (below <= 2000) {
				t.Fatalf("with %d below it means something: %v", below, isMeant)
			}
			// What stands beside it does not count, nor do the rules.
			p.Nodes = append(p.Nodes, node(impl.StBlock, ""))
			p.Rules = slices.Repeat([]impl.Rule{rule(impl.WhenEnd, -1, last+1)}, 12)
			if impl.Eval(p, last, s, in) != told || impl.Eval(p, 0, s, in) != "1" {
				t.Fatal("other nodes count, too")
			}
		}
	}
}

func TestNodesBelowAStatementOfBoth(t *testing.T) {
	s, in := impl.Store{Cells: cells("u", "", "")}, impl.Input{Line: "a b c"}
	for _, c := range []struct{ tested, done int }{{1000, 998}, {1000, 999}, {1998, 0}, {1999, 0}, {0, 1998}, {0, 1999}, {1997, 1}, {1998, 1}, {2000, 0}, {0, 2000}} {
		nodes := sizedExpression(c.tested)
		test := len(nodes) - 1
		for i, n := range sizedStatement(c.done) {
			if i > 0 {
				for k := range n.Kids {
					n.Kids[k] += test
				}
				nodes = append(nodes, n)
			}
		}
		nodes = append(nodes, node(impl.StIf, "", test, len(nodes)-1))
		p, last := impl.Program{Nodes: nodes}, len(nodes)-1
		checkOkProgram(t, p, true)
		checkParts(t, p, s, in)
		got, on := impl.Exec(p, last, s, in)
		if isMeant := got.Out != ""; !on || isMeant != (c.tested+c.done+2 <= 2000) {
			t.Errorf("with %d and %d below it is done: %v", c.tested, c.done, isMeant)
		}
	}
}

func TestNodesOfAllRules(t *testing.T) {
	s := impl.Store{Cells: cells("u", "", ""), Out: "out\n"}
	for count := 1990; count < 2012; count++ {
		nodes := sizedStatement(count - 2)
		do := len(nodes) - 1
		nodes = append(nodes, node(impl.StBlock, ""))
		// Other rules count, too, whatever their When is.
		for _, others := range [][]impl.Rule{nil, {rule(impl.WhenBegin, -1, do+1)}, {rule(impl.WhenEnd, -1, do+1), rule(impl.WhenLine, 0, do+1)}} {
			q := impl.Program{Nodes: nodes, Rules: append([]impl.Rule{rule(impl.WhenLine, 0, do)}, others...)}
			checkOkProgram(t, q, true)
			want := count+len(others)+len(others)/2 <= 2000
			if int(plainComesTo(q)) != count+len(others)+len(others)/2 {
				t.Fatalf("the rules have %v nodes", plainComesTo(q))
			}
			checkParts(t, q, s, impl.Input{})
			if got := impl.RunRules(q, impl.WhenLine, s, impl.Input{}); (got.Out != s.Out) != want {
				t.Fatalf("rules of %v nodes are done: %v", plainComesTo(q), !want)
			}
			if _, ok := impl.RunTree(q, "a\n"); ok != want {
				t.Fatalf("a program of %v nodes is run: %v", plainComesTo(q), ok)
			}
			if !want {
				checkNotRun(t, q, s, impl.Input{})
			}
		}
	}
	for count := 1980; count < 2020; count++ {
		if _, ok := impl.RunTree(heap(count), "a\n"); ok != (count <= 2000) {
			t.Errorf("a program of %d nodes is run: %v", count, ok)
		}
	}
}

// wide has a row of blocks that each name the one ahead 20 times.
func wide(first impl.Node) impl.Program {
	p := impl.Program{Nodes: []impl.Node{first}}
	for len(p.Nodes) < maxNodes {
		p.Nodes = append(p.Nodes, node(impl.StBlock, "", slices.Repeat([]int{len(p.Nodes) - 1}, 20)...))
	}
	return p
}

// choosing has a row of blocks of one StIf each, both of whose statements are the block ahead.
func choosing(test impl.Node) impl.Program {
	p := impl.Program{Nodes: []impl.Node{test, node(impl.StDump, "u")}}
	for len(p.Nodes) < maxNodes {
		last := len(p.Nodes) - 1
		p.Nodes = append(p.Nodes, node(impl.StIf, "", 0, last, last), node(impl.StBlock, "", last+1))
	}
	return p
}

func TestMeaningOfNodesThatDouble(t *testing.T) {
	s, in := impl.Store{Cells: cells("u", "", "")}, impl.Input{Line: "a b c"}
	all := []impl.Program{
		wide(node(impl.StBlock, "")), wide(node(impl.StDump, "u")), wide(node(impl.StNext, "")), choosing(node(impl.ExFields, "")), choosing(node(impl.ExNum, "0")),
	}
	for _, op := range []int{impl.ExAdd, impl.ExSub, impl.ExMul, impl.ExMod, impl.ExJoin, impl.ExLess, impl.ExSame, impl.StBlock} {
		all = append(all, doubling(op, maxNodes))
	}
	inGoodTime(t, func() {
		for _, p := range all {
			checkOkProgram(t, p, true)
			checkParts(t, p, s, in)
			last := len(p.Nodes) - 1
			checkNothingMeant(t, p, last, s, in)
			if p.Nodes[last].Op == impl.StBlock {
				p.Rules = []impl.Rule{rule(impl.WhenLine, -1, last)}
				checkNotRun(t, p, s, in)
			}
		}
	})
}

// As much as may be done over 20 lines, of what costs most.
func TestAsMuchAsMayBeDone(t *testing.T) {
	text := strings.Repeat(strings.Repeat("ab ", 20)+"\n", 20)
	nodes := []impl.Node{
		node(impl.ExNum, "1"), node(impl.StAdd, "n", 0), node(impl.ExName, "n"), node(impl.StSetCell, "c", 2, 2), node(impl.StDump, "c"),
		node(impl.ExNum, "0"), node(impl.ExField, "", 5), node(impl.ExHas, "(a|b| )*(ab)*x", 6), node(impl.StPrint, "", 7, 2),
	}
	for _, statements := range [][]int{slices.Repeat([]int{1, 3}, 360), slices.Repeat([]int{1, 3, 4}, 310), slices.Repeat([]int{1, 8}, 240)} {
		nodes, do := stacked(slices.Clone(nodes), statements)
		p := impl.Program{Nodes: nodes, Rules: []impl.Rule{rule(impl.WhenLine, -1, do)}}
		checkOkProgram(t, p, true)
		inGoodTime(t, func() {
			got, ok := impl.RunTree(p, text)
			if n, _ := strconv.Atoi(impl.VarOf(got, "n")); !ok || n != 20*len(statements)/2 && n != 20*len(statements)/3 {
				t.Errorf("run: %v; n is %d", ok, n)
			}
		})
	}
}

func TestMeaningOfWrongPrograms(t *testing.T) {
	s, in := impl.Store{Vars: vars("a", "1", "x", "2"), Cells: cells("c", "1", "2", "x", "", "3"), Out: "out\n"}, impl.Input{Line: "a b c", Num: 2}
	wrong := []impl.Program{
		{Rules: []impl.Rule{rule(impl.WhenLine, -1, 0)}},
		{Nodes: slices.Repeat([]impl.Node{node(impl.ExNum, "1")}, maxNodes+1)},
		// The fault stands behind what is asked for.
		{Nodes: append(groundNodes(), node(impl.ExNum, "x"))},
		{Nodes: append(groundNodes(), node(impl.StPrint, "", 9))},
		{Nodes: append(groundNodes(), node(impl.StPrint, "", math.MinInt))},
		{Nodes: append(groundNodes(), node(impl.ExHas, "(", 0))},
		{Nodes: append(groundNodes(), node(0, ""))},
		{Nodes: groundNodes(), Rules: []impl.Rule{rule(impl.WhenEnd, 0, 3)}},
		{Nodes: groundNodes(), Rules: []impl.Rule{rule(impl.WhenLine, -2, 3)}},
		{Nodes: groundNodes(), Rules: []impl.Rule{rule(impl.WhenLine, 1, 3)}},
		{Nodes: groundNodes(), Rules: []impl.Rule{rule(impl.WhenLine, 0, 5)}},
		{Nodes: groundNodes(), Rules: []impl.Rule{rule(0, -1, 3)}},
		{Nodes: groundNodes(), Rules: slices.Repeat([]impl.Rule{rule(impl.WhenLine, -1, 3)}, maxRules+1)},
	}
	right := 0
	for _, text := range programTexts() {
		for _, other := range othersOf(mustReadProgram(t, text)) {
			if plainOk(other) {
				right++
				checkParts(t, other, s, in)
			} else {
				wrong = append(wrong, other)
			}
		}
	}
	for _, p := range wrong {
		for place := -1; place <= len(p.Nodes); place++ {
			checkNothingMeant(t, p, place, s, in)
		}
		checkNotRun(t, p, s, in)
	}
	if right < 100 || len(wrong) < 1000 {
		t.Errorf("%d others are right, %d wrong", right, len(wrong))
	}
}

func TestPlacesOfNoNode(t *testing.T) {
	s := impl.Store{Vars: vars("a", "1"), Cells: cells("c", "1", "2"), Out: "out\n"}
	for _, text := range append(programTexts(), "", "{ print 1 }") {
		p := mustReadProgram(t, text)
		for _, place := range []int{-1, -2, len(p.Nodes), len(p.Nodes) + 1, 1 << 40, -1 << 40, math.MaxInt, math.MinInt} {
			checkNothingMeant(t, p, place, s, impl.Input{Line: "a b"})
		}
	}
	// A statement is no expression, nor the other way round.
	p := mustReadProgram(t, `{ print "x"; next }`)
	for place, n := range p.Nodes {
		told := impl.Eval(p, place, s, impl.Input{})
		done, on := impl.Exec(p, place, s, impl.Input{})
		if n.Op == impl.ExText && (told != "x" || !on || done.Out != "out\n") || n.Op != impl.ExText && (told != "" || on == (n.Op != impl.StPrint)) {
			t.Errorf("of node %d %q is told, and it goes on: %v", place, told, on)
		}
	}
}

func TestMeaningInWrongStores(t *testing.T) {
	for k := range uint64(800) {
		r := rand.New(rand.NewPCG(95, k))
		p, s := runProgram(r), drawnWrongStore(r)
		switch k % 8 {
		case 0:
			s.Vars = append(manyVars(59), vars("a", "1", "a", "2", "b", "3")...)
		case 1:
			s.Vars = slices.Repeat(vars("b", "1", "a", "2"), 31)
		case 2:
			s.Cells = append(s.Cells, manyCells(1995)...)
		}
		checkParts(t, p, s, drawnInput(r))
	}
	s := impl.Store{Vars: slices.Repeat(manyVars(300), 30), Cells: slices.Repeat(manyCells(1000), 30), Out: strings.Repeat("o", 1<<20)}
	inGoodTime(t, func() {
		for _, statement := range []string{"new = 1", "x[1] = 1", "dump none", "x += x[1]", "aB += 1"} {
			checkDone(t, statement, s, impl.Input{}, s, true)
		}
		cut := copyOfStore(s)
		cut.Out = cut.Out[:3000]
		checkDone(t, `{ print "x"; dump x; print "y" }`, s, impl.Input{}, cut, true)
	})
}

// ownTexts lets each text of a program have memory of its own.
func ownTexts(p impl.Program) impl.Program {
	for i := range p.Nodes {
		p.Nodes[i].Text = strings.Clone(p.Nodes[i].Text)
	}
	return p
}

func textsOfProgram(p impl.Program) []string {
	list := []string{}
	for _, n := range p.Nodes {
		list = append(list, n.Text)
	}
	return list
}

// checkOwn checks that a store that is answered is new memory, and is not spoilt by what is done to another answer.
func checkOwn(t *testing.T, what string, call func() impl.Store, handedIn []string, lists impl.Store) {
	t.Helper()
	answer, other := call(), call()
	told := toldStore(answer)
	checkNew(t, what, textsOfStore(answer), handedIn)
	if len(answer.Vars) > 0 && len(lists.Vars) > 0 && &answer.Vars[0] == &lists.Vars[0] || len(answer.Cells) > 0 && len(lists.Cells) > 0 && &answer.Cells[0] == &lists.Cells[0] {
		t.Fatalf("%s hands out its argument's lists", what)
	}
	spoilStore(other)
	if toldStore(answer) != told || toldStore(call()) != told {
		t.Fatalf("%s: an answer is not as it was", what)
	}
}

func TestWhatIsMeantIsNew(t *testing.T) {
	for k := range uint64(500) {
		r := rand.New(rand.NewPCG(96, k))
		p := ownTexts(roomy(runProgram(r)))
		if k%4 == 0 {
			p.Nodes[len(p.Nodes)-1].Op = 99
		}
		s := roomyStore(drawnMeantStore(r))
		in := impl.Input{Line: strings.Clone(drawnLine(r)), Num: 1}
		text := strings.Clone(in.Line + "\n" + drawnLine(r))
		wasProgram, wasStore := toldProgram(p), toldStore(s)
		handedIn := append(append(textsOfProgram(p), textsOfStore(s)...), in.Line, text)
		for place := -1; place <= len(p.Nodes); place++ {
			checkNew(t, "Eval", []string{impl.Eval(p, place, s, in)}, handedIn)
			checkOwn(t, "Exec", func() impl.Store { done, _ := impl.Exec(p, place, s, in); return done }, handedIn, s)
		}
		for when := range 5 {
			checkOwn(t, "RunRules", func() impl.Store { return impl.RunRules(p, when, s, in) }, handedIn, s)
		}
		checkOwn(t, "RunTree", func() impl.Store { done, _ := impl.RunTree(p, text); return done }, handedIn, impl.Store{})
		checkNew(t, "LinesOf", impl.LinesOf(text), handedIn)
		if toldProgram(p) != wasProgram || toldStore(s) != wasStore {
			t.Fatal("an argument is not as it was")
		}
		checkRoom(t, p)
		checkStoreRoom(t, s)
	}
}

func TestTextsThatAreToldAreNew(t *testing.T) {
	p := ownTexts(mustReadProgram(t, `{ a = "text"; b = 123456; c["key"] = $1; d = $0; print "said"; e = e; print $2; g["k"] += 1; f += 1 }`))
	s := roomyStore(impl.Store{Vars: vars("e", "value"), Cells: cells("g", "k", "1")})
	in := impl.Input{Line: strings.Clone("first second")}
	handedIn := append(append(textsOfProgram(p), textsOfStore(s)...), in.Line)
	got := impl.RunRules(p, impl.WhenLine, s, in)
	checkSame(t, "all", got, impl.Store{Vars: vars("a", "text", "b", "123456", "d", "first second", "e", "value", "f", "1"), Cells: cells("c", "key", "first", "g", "k", "2"), Out: "said\nsecond\n"})
	checkNew(t, "RunRules", textsOfStore(got), handedIn)
	for place := range p.Nodes {
		checkNew(t, "Eval", []string{impl.Eval(p, place, s, in)}, handedIn)
	}
	lines := impl.LinesOf(in.Line + "\n" + in.Line)
	lines[0] = "spoilt"
	if again := impl.LinesOf(in.Line + "\n" + in.Line); again[0] != in.Line || lines[1] != in.Line {
		t.Error("two answers of LinesOf share a list")
	}
}

func TestMeaningOfNilAndEmptyLists(t *testing.T) {
	in := impl.Input{Line: "a"}
	stores := []impl.Store{{}, {Vars: []impl.Var{}}, {Cells: []impl.Cell{}}, {Vars: make([]impl.Var, 0, 5), Cells: make([]impl.Cell, 0, 5)}}
	none := []impl.Program{{}, {Nodes: []impl.Node{}}, {Rules: []impl.Rule{}}, {Nodes: make([]impl.Node, 0, 5), Rules: make([]impl.Rule, 0, 5)}}
	for _, s := range stores {
		for _, p := range none {
			checkNothingMeant(t, p, 0, s, in)
			for when := range 5 {
				checkSame(t, "RunRules", impl.RunRules(p, when, s, in), impl.Store{})
			}
			if got, ok := impl.RunTree(p, "a\nb\n"); !ok || toldStore(got) != toldStore(impl.Store{}) {
				t.Errorf("RunTree = %s, %v", toldStore(got), ok)
			}
		}
		for _, kids := range [][]int{nil, {}, make([]int, 0, 3)} {
			p := impl.Program{Nodes: []impl.Node{
				{Op: impl.ExFields, Kids: kids}, {Op: impl.StBlock, Kids: kids}, {Op: impl.StSet, Text: "n", Kids: []int{0}}, {Op: impl.StBlock, Kids: []int{1, 2}}, {Op: impl.StDump, Text: "n", Kids: kids}, {Op: impl.ExName, Text: "n", Kids: kids},
			}, Rules: []impl.Rule{rule(impl.WhenLine, -1, 1), rule(impl.WhenLine, -1, 3)}}
			checkParts(t, p, s, in)
			checkSame(t, "RunRules", impl.RunRules(p, impl.WhenLine, s, in), impl.Store{Vars: vars("n", "1")})
			if impl.Eval(p, 0, s, in) != "1" || impl.Eval(p, 5, s, in) != "" {
				t.Error("Eval with kids that are nil or empty")
			}
		}
	}
	if len(impl.LinesOf("")) != 0 {
		t.Error("the empty text has lines")
	}
}

func TestMeaningDoesNotHangOnEarlierOnes(t *testing.T) {
	p := mustReadProgram(t, `BEGIN { n = 1 } $1 ~ /a/ { n += 1; c[n] = $0 } END { dump c; print n }`)
	tell := func() string {
		s, ok := impl.RunTree(p, "a b\nc\nda\n")
		return toldStore(s) + fmt.Sprint(ok, impl.LinesOf("a\nb"), impl.Eval(p, 0, s, impl.Input{})) + toldStore(impl.RunRules(p, impl.WhenEnd, s, impl.Input{}))
	}
	first := tell()
	for k := range uint64(200) {
		r := rand.New(rand.NewPCG(97, k))
		checkParts(t, runProgram(r), drawnWrongStore(r), drawnInput(r))
		if tell() != first {
			t.Fatal("an answer hangs on earlier ones")
		}
	}
}
