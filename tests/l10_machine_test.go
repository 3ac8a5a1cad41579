package tests

import (
	"fmt"
	"math"
	"math/rand/v2"
	"slices"
	"strconv"
	"strings"
	"testing"

	"loop.example/g00237/impl"
)

// checkPartsRun checks what each part of a right code makes of a store.
func checkPartsRun(t *testing.T, c impl.Code, s impl.Store, in impl.Input) {
	t.Helper()
	for _, ends := range plainEnds(c) {
		want, _ := plainRun(c, ends[0], ends[1], s, in)
		checkSame(t, fmt.Sprintf("RunCode of %d .. %d of\n%s", ends[0], ends[1], toldCode(c)), impl.RunCode(c, ends[0], ends[1], s, in), want)
	}
}

// checkAllRun checks what a right code makes of a text.
func checkAllRun(t *testing.T, c impl.Code, text string) {
	t.Helper()
	got, ok := impl.RunAll(c, text)
	if !ok {
		t.Fatalf("not run: %s", toldCode(c))
	}
	checkSame(t, fmt.Sprintf("RunAll of %.200q by\n%s", text, toldCode(c)), got, plainAll(c, text))
	checkStoreOk(t, got, true)
}

// checkMachine holds code against its tree, and answers whether there is code that may be held against one.
func checkMachine(t *testing.T, p impl.Program, s impl.Store, in impl.Input, text string) bool {
	t.Helper()
	c, ok := impl.Compile(p)
	tree, isRun := impl.RunTree(p, text)
	if !ok || !isRun {
		return false
	}
	got, isRun := impl.RunAll(c, text)
	if !isRun {
		t.Fatalf("RunAll is false of\n%s", toldProgram(p))
	}
	checkSame(t, fmt.Sprintf("RunAll of %.200q by\n%s", text, toldProgram(p)), got, tree)
	for part, ends := range plainEnds(c) {
		want := impl.RunRules(p, impl.WhenBegin+part, s, in)
		checkSame(t, fmt.Sprintf("RunCode of part %d of\n%s", part, toldProgram(p)), impl.RunCode(c, ends[0], ends[1], s, in), want)
	}
	checkPartsRun(t, c, s, in)
	checkAllRun(t, c, text)
	return true
}

// checkRunCoded checks what a program makes of a text, by hand, by its tree and by its code.
func checkRunCoded(t *testing.T, program string, text string, want impl.Store) {
	t.Helper()
	checkRun(t, program, text, want)
	c := mustCompile(t, program)
	got, ok := impl.RunAll(c, text)
	if !ok {
		t.Fatalf("%s is not run", program)
	}
	checkSame(t, "RunAll of "+program, got, want)
	checkAllRun(t, c, text)
}

// checkCoded checks what written code makes of a store, as each of the three parts.
func checkCoded(t *testing.T, code string, s impl.Store, in impl.Input, want impl.Store) {
	t.Helper()
	texts, list := coded(t, code)
	for _, p := range placedParts(texts, list) {
		checkCode(t, p.code, true)
		checkSame(t, code, impl.RunCode(p.code, p.from, p.to, s, in), want)
		checkPartsRun(t, p.code, s, in)
	}
}

// checkNoMachine checks that code that is not right does nothing, whatever is asked for.
func checkNoMachine(t *testing.T, c impl.Code) {
	t.Helper()
	checkCode(t, c, false)
	s := impl.Store{Vars: vars("a", "1"), Cells: cells("x", "k", "v"), Out: "out\n"}
	size := len(c.List)
	for _, ends := range append(plainEnds(c), [2]int{0, 0}, [2]int{0, size}, [2]int{size, size}, [2]int{-1, size + 1}, [2]int{math.MinInt, math.MaxInt}) {
		checkSame(t, "RunCode of "+toldCode(c), impl.RunCode(c, ends[0], ends[1], s, impl.Input{Line: "a b", Num: 1}), s)
	}
	for _, text := range []string{"", "a\nb\n"} {
		if got, ok := impl.RunAll(c, text); ok || toldStore(got) != toldStore(impl.Store{}) {
			t.Fatalf("RunAll = %s, %v of %s", toldStore(got), ok, toldCode(c))
		}
	}
}

func TestCodeDoesWhatItsTreeMeans(t *testing.T) {
	held := 0
	for k := range uint64(5000) {
		r := rand.New(rand.NewPCG(101, k))
		p := runProgram(r)
		if k%3 == 0 {
			p = meantProgram(r, r.IntN(40), 1+r.IntN(maxRules))
		}
		if checkMachine(t, p, drawnMeantStore(r), drawnInput(r), drawnLines(r)) {
			held++
		}
	}
	if held < 1500 {
		t.Errorf("only %d have code", held)
	}
}

func TestCodeOfDraftedPrograms(t *testing.T) {
	held := 0
	for k := range uint64(3000) {
		r := rand.New(rand.NewPCG(102, k))
		d := &drafter{r, 5 + int(k%40)}
		if p, ok := impl.ReadProgram(d.program()); ok && checkMachine(t, p, drawnMeantStore(r), drawnInput(r), drawnLines(r)) {
			held++
		}
	}
	if held < 1500 {
		t.Errorf("only %d have code", held)
	}
}

// everyOpProgram has each of the Ops, in each of the Whens.
const everyOpProgram = `BEGIN { n = 1; t["b"] = $0; dump t }
$1 ~ /a|1/ { t[$1] += $2; if (NF < 2) next else { print NR, length($1), n . t["b"], 7 % $2 }; n += 2 - $2 * 3; t[n] = x }
t[$1] == "2" { print "two" }
END { dump t; print n + u["k"], NF }`

func TestCodeOfProgramsThatAreRead(t *testing.T) {
	for k, s := range append(programTexts(), everyOpProgram) {
		p := mustReadProgram(t, s)
		for j := range uint64(60) {
			r := rand.New(rand.NewPCG(uint64(k), j))
			if !checkMachine(t, p, drawnMeantStore(r), drawnInput(r), drawnLines(r)) {
				t.Fatalf("%q has no code", s)
			}
		}
	}
	checkRunCoded(t, everyOpProgram, "a 2\n1\nb 9\na 1 x", impl.Store{
		Vars: vars("n", "999996"), Cells: cells("t", "1", "0", "t", "999996", "", "t", "999997", "", "t", "a", "3", "t", "b", ""),
		Out: "b \n1 1 1 1\ntwo\n4 1 999997 0\n1 0\n999996 \n999997 \na 3\nb \n999996 3\n",
	})
}

// Of each instruction, how many ways of coming out there are in what is drawn: so that the drawn tests hold something.
func TestEveryInstructionIsRun(t *testing.T) {
	seen := map[int]map[string]bool{}
	for op := impl.CoText; op <= impl.CoDump; op++ {
		seen[op] = map[string]bool{}
	}
	ways := func(c impl.Code, s impl.Store, in impl.Input) {
		for _, ends := range plainEnds(c) {
			_, way := plainRun(c, ends[0], ends[1], s, in)
			for i, place := range way {
				next := append(way, ends[1])[i+1]
				seen[c.List[place].Op][fmt.Sprint(next-place, i > 0, len(in.Line), len(s.Vars) > 0)] = true
			}
		}
	}
	for k := range uint64(1500) {
		r := rand.New(rand.NewPCG(103, k))
		p := runProgram(r)
		if c, ok := impl.Compile(p); ok {
			ways(c, drawnRightStore(r), drawnInput(r))
		}
		ways(drawnCode(r), drawnRightStore(r), drawnInput(r))
	}
	for op, those := range seen {
		if len(those) < 20 {
			t.Errorf("of Op %d there are but %d ways: %v", op, len(those), those)
		}
	}
}

func TestInstructionsByHand(t *testing.T) {
	forty := strings.Repeat("f", 40)
	s := impl.Store{Vars: vars("a", "12x", "b", "", "f", forty), Cells: cells("t", "", "none", "t", "a", "5", "t", forty, "long"), Out: "out\n"}
	in := impl.Input{Line: " k  7\t" + forty + "x ", Num: 1000003}
	for code, said := range map[string]string{
		`text ""`: "", `text 007`: "007", `text "a \" b"`: "a \" b", "name a": "12x", "name b": "", "name c": "", "name t": "", "name NF": "",
		`text a; cell t`: "5", `text ""; cell t`: "none", `text b; cell t`: "", "text a; cell u": "", "name f; cell t": "long", "name b; cell t": "none", "name f; name f; join; cell t": "long",
		"text 0; field": plainCut(in.Line, 40), "text x; field": plainCut(in.Line, 40), "text 1; field": "k", "text 2; field": "7", `text " 3x"; field`: forty, "text 4; field": "", "text 999999; field": "", "text 1000001; field": "k",
		"fields": "3", "line": "3", "text abc; long": "3", `text ""; long`: "0", "name f; long": "40", "text 0; field; long": "40",
		"text 5; text 3; add": "8", "name a; text 1; add": "13", "text 999999; text 2; add": "1", "text x; name none; add": "0",
		"text 5; text 3; sub": "2", "text 3; text 5; sub": "999998", `text 1; text ""; sub`: "1", `text ""; text 1; sub`: "999999",
		"text 5; text 3; mul": "15", "text 999999; text 999999; mul": "1", "text 1000; text 1000; mul": "0",
		"text 5; text 3; mod": "2", "text 3; text 5; mod": "3", "text 3; text 0; mod": "0", "text 0; text 3; mod": "0", "text 3; text x; mod": "0", "text 3; text 1000000; mod": "0", "text 7; text 1000004; mod": "3",
		"text a; text b; join": "ab", `text ""; text b; join`: "b", "name f; text b; join": forty, "text b; name f; join": "b" + forty[1:], "name f; name f; join; long": "40",
		"text 9; text 10; less": "1", "text 10; text 9; less": "0", "text 9x; text 10x; less": "0", "text 10x; text 9x; less": "1", "text 5; text 5; less": "0", `text ""; text 0; less`: "1",
		"text 01; text 1; same": "1", "text a; text a; same": "1", "text a; text b; same": "0", `text ""; text 0; same`: "0", `text " 1"; text 1; same`: "0",
		"text abc; has b": "1", "text abc; has ^b": "0", "text abc; has c$": "1", `text ""; has x*`: "1", `text ""; has .`: "0", "text 0; field; has 7": "1", "name f; has ^f+$": "1",
	} {
		checkCoded(t, code+"; print 1", s, in, impl.Store{Vars: s.Vars, Cells: s.Cells, Out: "out\n" + said + "\n"})
	}
	bare := impl.Input{Line: " \t ", Num: -1}
	for code, said := range map[string]string{
		"fields": "0", "text 0; field": " \t ", "text 1; field": "", "line": "999999", "name a": "", "text a; cell t": "", "text 0; field; long": "3", "fields; field": " \t ",
	} {
		checkCoded(t, code+"; print 1", impl.Store{}, bare, impl.Store{Out: said + "\n"})
	}
}

func TestStatementsByHand(t *testing.T) {
	s := impl.Store{Vars: vars("b", "999999", "d", "12x"), Cells: cells("t", "b", "999999", "t", "d", "12x"), Out: "out\n"}
	with := func(pairs []impl.Var, threes []impl.Cell, said string) impl.Store {
		return impl.Store{Vars: pairs, Cells: threes, Out: "out\n" + said}
	}
	for code, want := range map[string]impl.Store{
		"": s, "text x; print 1": with(s.Vars, s.Cells, "x\n"), `text ""; print 1`: with(s.Vars, s.Cells, "\n"), "text 1; text 2; print 2": with(s.Vars, s.Cells, "1 2\n"),
		"text 1; text 2; text 3; print 3": with(s.Vars, s.Cells, "1 2 3\n"), `text 1; text ""; text 3; text 4; print 4`: with(s.Vars, s.Cells, "1  3 4\n"),
		"text x; set b":                  with(vars("b", "x", "d", "12x"), s.Cells, ""),
		"text x; set a":                  with(vars("a", "x", "b", "999999", "d", "12x"), s.Cells, ""),
		`text ""; set c`:                 with(vars("b", "999999", "c", "", "d", "12x"), s.Cells, ""),
		"text 2x; addto b":               with(vars("b", "1", "d", "12x"), s.Cells, ""),
		"text 2; addto d":                with(vars("b", "999999", "d", "14"), s.Cells, ""),
		"text 007; addto e":              with(vars("b", "999999", "d", "12x", "e", "7"), s.Cells, ""),
		"name none; addto e":             with(vars("b", "999999", "d", "12x", "e", "0"), s.Cells, ""),
		"name d; addto d":                with(vars("b", "999999", "d", "24"), s.Cells, ""),
		"text b; text x; setcell t":      with(s.Vars, cells("t", "b", "x", "t", "d", "12x"), ""),
		"text c; text x; setcell t":      with(s.Vars, cells("t", "b", "999999", "t", "c", "x", "t", "d", "12x"), ""),
		`text ""; text x; setcell t`:     with(s.Vars, cells("t", "", "x", "t", "b", "999999", "t", "d", "12x"), ""),
		`text b; text ""; setcell u`:     with(s.Vars, cells("t", "b", "999999", "t", "d", "12x", "u", "b", ""), ""),
		"text b; text 2; addcell t":      with(s.Vars, cells("t", "b", "1", "t", "d", "12x"), ""),
		"text d; text 2; addcell t":      with(s.Vars, cells("t", "b", "999999", "t", "d", "14"), ""),
		"text 3; text 5; addcell s":      with(s.Vars, cells("s", "3", "5", "t", "b", "999999", "t", "d", "12x"), ""),
		"text d; name none; addcell u":   with(s.Vars, cells("t", "b", "999999", "t", "d", "12x", "u", "d", "0"), ""),
		"dump t":                         with(s.Vars, s.Cells, "b 999999\nd 12x\n"),
		"dump u":                         s,
		"dump b":                         s,
		"next":                           s,
		"text 1; print 1; dump t; next":  with(s.Vars, s.Cells, "1\nb 999999\nd 12x\n"),
		"text 1; set b; name b; print 1": with(vars("b", "1", "d", "12x"), s.Cells, "1\n"),
	} {
		checkCoded(t, code, s, impl.Input{Line: "x"}, want)
	}
}

// What is put first is taken last, whatever takes it.
func TestOrderOfTexts(t *testing.T) {
	for code, said := range map[string]string{
		"text 7; text 4; sub; print 1": "3\n", "text 7; text 4; mod; print 1": "3\n", "text 4; text 7; mod; print 1": "4\n", "text 4; text 7; less; print 1": "1\n", "text 7; text 4; less; print 1": "0\n",
		"text 7; text 4; join; print 1": "74\n", "text a; text b; text c; text d; print 4": "a b c d\n", "text a; text b; text c; print 2; print 1": "b c\na\n",
		"text a; text b; print 1; print 1": "b\na\n", "text 1; text 9; text 4; sub; sub; print 1": "999996\n", "text 9; text 4; sub; text 1; sub; print 1": "4\n",
		"text 1; text 2; text 3; text 4; join; less; print 2": "1 1\n", "text a; text b; text c; text d; text e; join; print 4": "a b c de\n",
	} {
		checkCoded(t, code, impl.Store{}, impl.Input{}, impl.Store{Out: said})
	}
	checkCoded(t, "text 3; text 5; setcell t", impl.Store{}, impl.Input{}, impl.Store{Cells: cells("t", "3", "5")})
	checkCoded(t, "text 3; text 5; addcell t", impl.Store{}, impl.Input{}, impl.Store{Cells: cells("t", "3", "5")})
	checkCoded(t, "text 3; text 5; addcell t", impl.Store{Cells: cells("t", "3", "10", "t", "5", "20")}, impl.Input{}, impl.Store{Cells: cells("t", "3", "15", "t", "5", "20")})
	checkCoded(t, "text 0; text 3; text 5; setcell t; zero 7; text x; print 1", impl.Store{}, impl.Input{}, impl.Store{Cells: cells("t", "3", "5")})
	for program, want := range map[string]impl.Store{
		"{ print 7 - 4, 7 % 4, 7 < 4, 7 . 4 }": {Out: "3 3 0 74\n"}, "{ t[3] = 5; u[3] += 5; u[5] += 3; u[3] += 5 }": {Cells: cells("t", "3", "5", "u", "3", "10", "u", "5", "3")},
		"{ print $1 - $2 - $3, $1 . $2 . $3, ($1 < $2) . 5, $3 % $2 % $1 }": {Out: "999999 937 05 1\n"},
	} {
		checkRunCoded(t, program, "9 3 7", want)
	}
}

func TestJumpsOverNothing(t *testing.T) {
	for program, said := range map[string]string{
		`{ if (1) { }; print 1 }`: "1\n", `{ if (0) { }; print 1 }`: "1\n", `{ if (1) { } else { }; print 1 }`: "1\n", `{ if (0) { } else { }; print 1 }`: "1\n",
		`{ if (1) { } else print 2; print 1 }`: "1\n", `{ if (0) { } else print 2; print 1 }`: "2\n1\n", `{ if (1) print 2 else { }; print 1 }`: "2\n1\n", `{ if (0) print 2 else { }; print 1 }`: "1\n",
		`{ if (1) { } }`: "", `{ if (0) { } }`: "", `{ if (1) { } else { } }`: "", `{ if (0) { } else { } }`: "", `{ if (1) { } else print 2 }`: "", `{ if (0) { } else print 2 }`: "2\n", `{ if (1) print 2 else { } }`: "2\n", `{ if (0) print 2 else { } }`: "",
		`{ if (1) { { }; { { } } } else print 2; print 1 }`: "1\n", `{ if (0) next else { { }; { { } } }; print 1 }`: "1\n", `{ if (1) next else { }; print 1 }`: "", `{ if (0) next else { }; print 1 }`: "1\n",
		`1 { }`: "", `0 { }`: "", `1 { } 1 { print 1 }`: "1\n", `0 { } 1 { print 1 }`: "1\n", `0 { } 0 { } 1 { } { print 1 }`: "1\n", `1 { { } } 0 { { }; { } } { print 1 } 1 { }`: "1\n",
		`{ if (1) { if (0) { } else { } } else { if (1) { } }; print 1 }`: "1\n", `{ if (0) { if (0) { } } else { if (1) { } else { } } }`: "", `{ } { print 1 } { }`: "1\n", ``: "",
	} {
		checkRunCoded(t, program, "x\n", impl.Store{Out: said})
		checkRunCoded(t, program, "x\ny", impl.Store{Out: said + said})
		for head, text := range map[string]string{"BEGIN ": "", "END ": "x\n"} {
			if strings.HasPrefix(program, "{ if") {
				checkRunCoded(t, head+program, text, impl.Store{Out: said})
			}
		}
	}
	for code, said := range map[string]string{
		// To the next instruction.
		"text 1; zero 2; text x; print 1": "x\n", "text 0; zero 2; text x; print 1": "x\n", "jump 1; text x; print 1": "x\n", "jump 1; jump 2; jump 3; text x; print 1": "x\n",
		"text 0; zero 2; text 0; zero 4; jump 5; text x; print 1": "x\n", "text x; jump 2; print 1": "x\n", "text x; text 0; zero 3; print 1": "x\n", "text x; text 1; zero 3; print 1": "x\n",
		// To the end of the part.
		"text 1; zero 2": "", "text 0; zero 2": "", "jump 1": "", "text x; print 1; jump 3": "x\n", "text x; print 1; text 0; zero 4": "x\n", "jump 3; text x; print 1": "",
		"text 0; zero 4; text x; print 1": "", "text 1; zero 4; text x; print 1": "x\n", "text 0; zero 3; jump 5; text x; print 1": "x\n", "text 1; zero 3; jump 5; text x; print 1": "",
		"jump 1; jump 2; jump 3": "", "jump 3; jump 2; jump 3": "",
		// Over others that jump.
		"jump 2; jump 4; text x; print 1": "x\n", "text a; jump 3; long; text b; print 2": "a b\n", "text a; text 1; zero 4; long; print 1": "1\n", "text abc; text 0; zero 4; long; print 1": "abc\n",
	} {
		checkCoded(t, code, impl.Store{}, impl.Input{}, impl.Store{Out: said})
	}
}

func TestZero(t *testing.T) {
	for text, isTrue := range map[string]bool{``: false, `0`: false, `00`: true, ` 0`: true, `1`: true, `0 `: true, ` `: true, `x`: true, `000000`: true, `-0`: true} {
		said := map[bool]string{true: "yes\n", false: ""}[isTrue]
		checkCoded(t, fmt.Sprintf("text %q; zero 4; text yes; print 1", text), impl.Store{}, impl.Input{}, impl.Store{Out: said})
		checkCoded(t, "name n; zero 4; text yes; print 1", impl.Store{Vars: vars("n", text)}, impl.Input{}, impl.Store{Vars: vars("n", text), Out: said})
		said = map[bool]string{true: "yes\nall\n", false: "no\nall\n"}[isTrue]
		checkCoded(t, fmt.Sprintf("text %q; zero 5; text yes; print 1; jump 7; text no; print 1; text all; print 1", text), impl.Store{}, impl.Input{}, impl.Store{Out: said})
		checkRunCoded(t, fmt.Sprintf(`{ if ("%s") print "yes" else print "no"; print "all" }`, text), "x", impl.Store{Out: said})
		checkRunCoded(t, fmt.Sprintf(`"%s" { print "yes" } { print "all" }`, text), "x", impl.Store{Out: strings.TrimPrefix(said, "no\n")})
	}
	// A name that is not there is the empty text; it takes one, and no more.
	checkCoded(t, "name n; zero 4; text yes; print 1", impl.Store{}, impl.Input{}, impl.Store{})
	checkCoded(t, "text a; text b; name n; zero 4; print 2", impl.Store{}, impl.Input{}, impl.Store{Out: "a b\n"})
}

func TestNextEndsThePart(t *testing.T) {
	for program, said := range map[string]string{
		`{ next; print 1 } { print 2 } END { print "end" }`:                                                        "end\n",
		`{ print 1; next; print 2 } { print 3 } END { print "end" }`:                                               "1\n1\n1\nend\n",
		`{ print 1; print 2; next } END { print "end" }`:                                                           "1\n2\n1\n2\n1\n2\nend\n",
		`{ if ($1 == "b") next; print $1 } END { print "end" }`:                                                    "a\nc\nend\n",
		`{ if ($1 == "b") next else print $1; print "on" } END { print "end" }`:                                    "a\non\nc\non\nend\n",
		`{ if ($1 == "b") print "b" else { next; print "x" }; print "on" } { print 3 } END { print 4 }`:            "b\non\n3\n4\n",
		`{ if (1) { if (1) { next } }; print 1 } END { print "end" }`:                                              "end\n",
		`$1 == "b" { next } { print $1 }`:                                                                          "a\nc\n",
		`{ print $1 } $1 == "b" { next }`:                                                                          "a\nb\nc\n",
		`BEGIN { print 0; next; print 1 } BEGIN { print 2 } { print $1 } END { print "end" }`:                      "0\na\nb\nc\nend\n",
		`BEGIN { next } { next } END { next }`:                                                                     "",
		`BEGIN { if (1) next; print 1 } { print $1; next } END { print 8; if (1) next; print 9 } END { print 10 }`: "a\nb\nc\n8\n",
		`END { next; print 1 } END { print 2 } BEGIN { print 0 }`:                                                  "0\n",
	} {
		checkRunCoded(t, program, "a\nb\nc\n", impl.Store{Out: said})
	}
	for code, said := range map[string]string{
		"next; text 1; print 1": "", "text 1; print 1; next; text 2; print 1": "1\n", "text 1; print 1; next": "1\n", "next; next": "", "text 1; zero 3; next; text x; print 1": "", "text 0; zero 3; next; text x; print 1": "x\n",
		"jump 2; next; text x; print 1": "x\n", "text 0; zero 4; jump 5; next; next": "", "jump 3; text x; print 1; next; text y; print 1": "",
	} {
		checkCoded(t, code, impl.Store{}, impl.Input{}, impl.Store{Out: said})
	}
}

// CoNext may leave texts behind; they are not on the stack of the next line, nor of the end.
func TestStackBehindNext(t *testing.T) {
	texts, list := coded(t, "text kept; text 0; field; zero 6; next; jump 6; text all; print 2")
	for _, p := range placedParts(texts, list) {
		checkCode(t, p.code, true)
		checkPartsRun(t, p.code, impl.Store{}, impl.Input{Line: "x"})
		checkPartsRun(t, p.code, impl.Store{}, impl.Input{})
		checkAllRun(t, p.code, "x\n\ny\n\n\n")
	}
	most := strings.Repeat("text t; ", 20) + "next"
	texts, list = coded(t, most)
	for _, p := range placedParts(texts, list) {
		checkCode(t, p.code, true)
		checkAllRun(t, p.code, strings.Repeat("x\n", 20))
	}
	c := impl.Code{Texts: texts, List: append(slices.Repeat(list, 2), moved(list, 0)...), Line: 21, End: 42}
	checkCode(t, c, true)
	checkAllRun(t, c, "x\ny\n")
}

func TestLongTextsInCode(t *testing.T) {
	long := strings.Repeat("0123456789", 30)
	s := impl.Store{Vars: vars("k", long, "m", long[:41]), Cells: cells("t", long[:40], "4", "t", long[:41], "not cut", "t", "long", long)}
	told := func(said string) impl.Store { return impl.Store{Vars: s.Vars, Cells: s.Cells, Out: said} }
	for code, said := range map[string]string{
		"name k": long, "name m": long[:41], "name k; cell t": "4", "name m; cell t": "4", "text long; cell t": long, "name k; long": "300", "name m; long": "41", "name k; name m; join": long[:40],
		`text ""; name k; join`: long[:40], `name k; text ""; join`: long[:40], "name k; name m; same": "0", "name m; name k; less": "1", "name k; has 9$": "1", "name m; has 9$": "0", "name k; text 1; add": "456790",
		"name k; field": "", "text 0; field; long": "40", "text 1; field; long": "40",
	} {
		checkCoded(t, code+"; print 1", s, impl.Input{Line: long}, told(said+"\n"))
	}
	with := func(pairs []impl.Var, threes []impl.Cell) impl.Store { return impl.Store{Vars: pairs, Cells: threes} }
	for code, want := range map[string]impl.Store{
		"name k; set k":                with(vars("k", long[:40], "m", long[:41]), s.Cells),
		"name k; set l":                with(vars("k", long, "l", long[:40], "m", long[:41]), s.Cells),
		"name k; addto k":              with(vars("k", "913578", "m", long[:41]), s.Cells),
		"name k; text 1; setcell t":    with(s.Vars, cells("t", long[:40], "1", "t", long[:41], "not cut", "t", "long", long)),
		"name m; text 1; addcell t":    with(s.Vars, cells("t", long[:40], "5", "t", long[:41], "not cut", "t", "long", long)),
		"text 1; name k; setcell u":    with(s.Vars, append(slices.Clone(s.Cells), cells("u", "1", long[:40])...)),
		"name k; name m; setcell u":    with(s.Vars, append(slices.Clone(s.Cells), cells("u", long[:40], long[:40])...)),
		"name k; name k; addcell u":    with(s.Vars, append(slices.Clone(s.Cells), cells("u", long[:40], "456789")...)),
		"text long; text 1; addcell t": with(s.Vars, cells("t", long[:40], "4", "t", long[:41], "not cut", "t", "long", "456790")),
		"name k; name k; print 2":      told(long + " " + long + "\n"),
		"dump t":                       told(long[:40] + " 4\n" + long[:41] + " not cut\nlong " + long + "\n"),
	} {
		checkCoded(t, code, s, impl.Input{}, want)
	}
	// In right stores texts of 40 bytes and fields are put together.
	forty := strings.Repeat("f", 40)
	checkRunCoded(t, `{ k = $1 . $2; t[k . "x"] = k . k; t[k] += 1; u[$0] += 7; print k, length(k) }`, forty+"x y\n", impl.Store{
		Vars: vars("k", forty), Cells: cells("t", forty, "1", "u", forty, "7"), Out: forty + " 40\n",
	})
}

func TestNumbersThatGoRoundInCode(t *testing.T) {
	checkRunCoded(t, `{ n += 400000; m = n - 999999; c[n] += n * n; print 0 - n, n * 3, n % 7, (n % 0) . (n % "x") } END { print n, NR - 5 }`, "a\nb\nc\n", impl.Store{
		Vars: vars("m", "200001", "n", "200000"), Cells: cells("c", "200000", "0", "c", "400000", "0", "c", "800000", "0"),
		Out: "600000 200000 6 00\n200000 400000 5 00\n800000 600000 3 00\n200000 999998\n",
	})
	all := append(append(numberTexts(), otherTexts()...), " 999999", "999999x", "0999999", "3", "4")
	codes := []impl.Code{}
	for op := impl.CoAdd; op <= impl.CoSame; op++ {
		list := []impl.Instr{instr(impl.CoName, 0), instr(impl.CoName, 1), instr(op, 0), instr(impl.CoSet, 2)}
		codes = append(codes, impl.Code{Texts: []string{"a", "b", "c"}, List: list})
	}
	for _, a := range all {
		for _, b := range all {
			for _, c := range codes {
				s := impl.Store{Vars: vars("a", a, "b", b)}
				want, _ := plainRun(c, 0, 4, s, impl.Input{})
				checkSame(t, fmt.Sprintf("Op %d of %q and %q", c.List[2].Op, a, b), impl.RunCode(c, 0, 4, s, impl.Input{}), want)
			}
		}
	}
}

func TestWhatCodeSaysOverTheLimit(t *testing.T) {
	forty := strings.Repeat("f", 40)
	four := strings.Join([]string{forty, forty, forty, forty}, " ") + "\n"
	for _, size := range []int{0, 2835, 2836, 2837, 2995, 2998, 2999, 3000, 3001, 3100} {
		out := strings.Repeat("o", size)
		s := impl.Store{Vars: vars("f", forty), Cells: cells("t", "k", "v"), Out: out}
		with := func(said string) impl.Store { return impl.Store{Vars: s.Vars, Cells: s.Cells, Out: said} }
		checkCoded(t, "name f; name f; name f; name f; print 4", s, impl.Input{}, with(plainCut(out+four, 3000)))
		checkCoded(t, `text ""; print 1`, s, impl.Input{}, with(plainCut(out+"\n", 3000)))
		checkCoded(t, "dump t", s, impl.Input{}, with(plainCut(out+"k v\n", 3000)))
		checkCoded(t, "dump none", s, impl.Input{}, s)
	}
	checkRunCoded(t, "{ print $1, $1, $1, $1; print $0 } END { print 1 }", strings.Repeat(forty+"\n", 20), impl.Store{Out: strings.Repeat(four+forty+"\n", 20)[:3000]})
}

func TestCodeInFullStores(t *testing.T) {
	s := impl.Store{Vars: manyVars(60), Cells: manyCells(2000), Out: "out\n"}
	for _, code := range []string{"text 1; set new", "text 1; addto new", "text k; text 1; setcell new", "text k; text 1; addcell new", "text 0; text 1; setcell x", "text 0; text 1; addcell x", "text 1; set aA", "text 1; addto zz"} {
		checkCoded(t, code, s, impl.Input{}, s)
	}
	for _, place := range []int{0, 30, 59} {
		for word, want := range map[string]string{"set": "61", "addto": strconv.Itoa(place + 61)} {
			changed := copyOfStore(s)
			changed.Vars[place].Val = want
			checkCoded(t, "text 61; "+word+" "+s.Vars[place].Name, s, impl.Input{}, changed)
		}
	}
	for _, place := range []int{0, 1000, 1999} {
		for word, want := range map[string]string{"setcell": "61", "addcell": strconv.Itoa(place + 61)} {
			changed := copyOfStore(s)
			changed.Cells[place].Val = want
			checkCoded(t, "text "+s.Cells[place].Key+"; text 61; "+word+" "+s.Cells[place].Name, s, impl.Input{}, changed)
		}
	}
	// Where there is room for one more, the second one is not set.
	s = impl.Store{Vars: manyVars(59), Cells: manyCells(1999)}
	checkCoded(t, "text 1; set new; text 1; set newer; text k; text 1; setcell new; text l; text 1; setcell new; text 1; addto none; text 1; text 1; addcell none", s, impl.Input{}, impl.SetCell(impl.SetVar(s, "new", "1"), "new", "k", "1"))
}

// checkFromAndTo checks every from and to about a right code: what is not both ends of a part does nothing.
func checkFromAndTo(t *testing.T, c impl.Code, s impl.Store, in impl.Input) {
	t.Helper()
	places := []int{math.MinInt, -256, math.MaxInt, len(c.List) + 256}
	for place := -2; place <= len(c.List)+2; place++ {
		places = append(places, place)
	}
	for _, from := range places {
		for _, to := range places {
			want := s
			if slices.Contains(plainEnds(c), [2]int{from, to}) {
				want, _ = plainRun(c, from, to, s, in)
			}
			if got := impl.RunCode(c, from, to, s, in); toldStore(got) != toldStore(want) {
				t.Fatalf("RunCode of %d .. %d is\n%s\nwant\n%s\nof %s", from, to, toldStore(got), toldStore(want), toldCode(c))
			}
		}
	}
}

func TestFromAndTo(t *testing.T) {
	s, in := impl.Store{Vars: vars("n", "5"), Cells: cells("t", "k", "v"), Out: "out\n"}, impl.Input{Line: "a b", Num: 2}
	for _, program := range append(programTexts(), everyOpProgram, "BEGIN { print 1; print 2 } { print 3; print 4 } END { print 5; print 6 }", "BEGIN { next } { next } END { next }",
		// Parts without instructions: several ends are at one place.
		"BEGIN { print 1 }", "{ print 2 }", "END { print 3 }", "BEGIN { print 1 } { print 2 }", "BEGIN { print 1 } END { print 3 }", "{ print 2 } END { print 3 }") {
		checkFromAndTo(t, mustCompile(t, program), s, in)
	}
	for k := range uint64(60) {
		r := rand.New(rand.NewPCG(104, k))
		checkFromAndTo(t, drawnCode(r), s, in)
	}
}

func TestFromAndToByHand(t *testing.T) {
	run := func(program string, from int, to int) string {
		return impl.RunCode(mustCompile(t, program), from, to, impl.Store{Out: "o\n"}, impl.Input{}).Out
	}
	all := "BEGIN { print 1; print 2 } { print 3; print 4 } END { print 5; print 6 }"
	for ends, said := range map[[2]int]string{
		{0, 4}: "o\n1\n2\n", {4, 8}: "o\n3\n4\n", {8, 12}: "o\n5\n6\n", {0, 8}: "o\n", {4, 12}: "o\n", {0, 12}: "o\n", {4, 0}: "o\n", {8, 4}: "o\n", {12, 8}: "o\n", {12, 0}: "o\n", {0, 2}: "o\n", {2, 4}: "o\n", {4, 6}: "o\n", {6, 8}: "o\n",
		{10, 12}: "o\n", {8, 10}: "o\n", {-1, 4}: "o\n", {8, 13}: "o\n", {12, 13}: "o\n", {-4, 0}: "o\n", {12, 16}: "o\n", {0, 0}: "o\n", {4, 4}: "o\n", {12, 12}: "o\n",
	} {
		if got := run(all, ends[0], ends[1]); got != said {
			t.Errorf("%v says %q; want %q", ends, got, said)
		}
	}
	for program, said := range map[string]string{"BEGIN { print 1 }": "o\n1\n", "{ print 1 }": "o\n1\n", "END { print 1 }": "o\n1\n", "BEGIN { } { print 1 } END { }": "o\n1\n", "": "o\n"} {
		if got := run(program, 0, len(mustCompile(t, program).List)); got != said {
			t.Errorf("%s says %q; want %q", program, got, said)
		}
	}
	// Without the lines' part the end's begins where the beginning's ends.
	for ends, said := range map[[2]int]string{{0, 2}: "o\n1\n", {2, 4}: "o\n3\n", {2, 2}: "o\n", {0, 4}: "o\n", {2, 0}: "o\n", {4, 2}: "o\n"} {
		if got := run("BEGIN { print 1 } END { print 3 }", ends[0], ends[1]); got != said {
			t.Errorf("%v says %q; want %q", ends, got, said)
		}
	}
}

func TestWrongCodesAreNotRun(t *testing.T) {
	for _, code := range []string{
		"add", "text 1", "text 1; print 2", "print 1", "text 1; add", "text 1; text 2; print 1", "text 1; print 5", "text 1; print 0", "zero 1", "text 1; zero 1", "text 1; zero 0", "text 1; zero 3", "jump 0", "jump 2", "text 1; setcell t", "text 1; addcell t",
		"set x", "addto x", "cell x", "field", "long", "has x", "text 1; set 1", "text 1; addto abcdefghi", `name ""`, "name x", "text 1; cell x1; print 1", "text 1; has (; print 1", "dump 1", "text 1; zero 3; text 2", "text 1; zero 4; text 2; text 3; print 1",
		strings.Repeat("text 1; ", 21) + strings.Repeat("print 1; ", 21), strings.Repeat("jump 1; ", 2), "next; text 1; zero 9", strings.Repeat("next; ", 251), `text "` + strings.Repeat("x", 31) + `"; print 1`,
	} {
		texts, list := coded(t, code)
		for _, ends := range [][2]int{{0, 0}, {0, len(list)}, {len(list), len(list)}} {
			checkNoMachine(t, impl.Code{Texts: texts, List: list, Line: ends[0], End: ends[1]})
		}
	}
	say := []impl.Instr{instr(impl.CoText, 0), instr(impl.CoPrint, 1)}
	for _, c := range []impl.Code{
		{Texts: []string{"x"}, List: say, Begin: 1}, {Texts: []string{"x"}, List: say, Begin: -1}, {Texts: []string{"x"}, List: say, Line: -1}, {Texts: []string{"x"}, List: say, Line: 2, End: 0}, {Texts: []string{"x"}, List: say, Line: 0, End: 3}, {Texts: []string{"x"}, List: say, Line: 1, End: 2},
		{List: say}, {Texts: slices.Repeat([]string{"x"}, 61), List: say}, {Begin: 1}, {Line: 1}, {End: -1}, {Line: math.MinInt, End: math.MaxInt}, {Line: math.MaxInt, End: math.MinInt}, {Begin: math.MinInt},
		{Texts: []string{"x"}, List: []impl.Instr{say[0], say[1], {}}}, {Texts: []string{"x"}, List: []impl.Instr{say[0], say[1], instr(25, 0)}}, {Texts: []string{"x"}, List: []impl.Instr{instr(impl.CoText, -1), say[1]}},
		{Texts: []string{"x"}, List: []impl.Instr{instr(impl.CoText, 1), say[1]}}, {Texts: []string{"x"}, List: []impl.Instr{say[0], instr(impl.CoPrint, math.MaxInt)}}, {Texts: []string{"x"}, List: []impl.Instr{say[0], instr(impl.CoPrint, math.MinInt)}},
		// One wrong part is enough, whichever is asked for.
		{Texts: []string{"x"}, List: append(slices.Repeat(say, 2), say[0]), Line: 2, End: 4}, {Texts: []string{"x"}, List: append(slices.Clone(say), say[1], say[0], say[1]), Line: 2, End: 3},
		{Texts: []string{"x"}, List: append([]impl.Instr{say[0]}, slices.Repeat(say, 2)...), Line: 1, End: 3},
	} {
		checkNoMachine(t, c)
	}
	right, wrong := 0, 0
	for k := range uint64(4000) {
		r := rand.New(rand.NewPCG(105, k))
		d := &drafter{r, 5 + int(k%25)}
		p, _ := impl.ReadProgram(d.program())
		c, _ := impl.Compile(p)
		if k%2 == 0 {
			c = drawnCode(r)
		}
		for range 1 + r.IntN(3) {
			c = turnedCode(r, c)
		}
		if !plainCodeOk(c) {
			wrong++
			checkNoMachine(t, c)
			continue
		}
		right++
		checkPartsRun(t, c, drawnMeantStore(r), drawnInput(r))
		checkAllRun(t, c, drawnLines(r))
	}
	if right < 500 || wrong < 1500 {
		t.Errorf("%d are right, %d wrong", right, wrong)
	}
}

func TestCodeThatNoProgramHas(t *testing.T) {
	long, stopped := 0, 0
	for k := range uint64(4000) {
		r := rand.New(rand.NewPCG(106, k))
		c := drawnCode(r)
		checkCode(t, c, true)
		for range 2 {
			checkPartsRun(t, c, drawnMeantStore(r), drawnInput(r))
		}
		checkAllRun(t, c, drawnLines(r))
		for _, ends := range plainEnds(c) {
			_, way := plainRun(c, ends[0], ends[1], impl.Store{}, impl.Input{})
			if len(way) > 20 {
				long++
			}
			if len(way) > 0 && c.List[way[len(way)-1]].Op == impl.CoNext {
				stopped++
			}
		}
	}
	if long < 300 || stopped < 300 {
		t.Errorf("only %d parts are long, %d end at a CoNext", long, stopped)
	}
}

func TestCodeThatNoProgramHasByHand(t *testing.T) {
	for code, said := range map[string]string{
		// Nothing comes to some instructions.
		"next; add": "", "next; print 4; setcell t": "", "jump 2; add; text x; print 1": "x\n", "jump 3; text y; print 1; text x; print 1": "x\n", "text 0; zero 4; next; add; text x; print 1": "x\n", "text 1; zero 4; next; add; text x; print 1": "",
		"jump 2; zero 3; text x; print 1": "x\n", "next; " + strings.Repeat("text y; ", 30): "", "text x; print 1; jump 4; text y": "x\n",
		// Both ways of a choice put a text.
		"text 1; zero 4; text a; jump 5; text b; print 1": "a\n", "text 0; zero 4; text a; jump 5; text b; print 1": "b\n", "text p; text 0; zero 5; text a; jump 6; text b; text q; print 3": "p b q\n",
		// Texts are below others for long, and twenty of them.
		"text a; text b; print 1; text c; print 1; print 1": "b\nc\na\n", strings.Repeat("fields; ", 20) + strings.Repeat("print 4; ", 5): strings.Repeat("0 0 0 0\n", 5), strings.Repeat("text a; ", 20) + strings.Repeat("join; ", 19) + "print 1": strings.Repeat("a", 20) + "\n",
		// Texts that no program has.
		`text "a\nb\"c"; print 1`: "a\nb\"c\n", `text "\x00\xff"; print 1`: "\x00\xff\n", "name print; print 1": "\n", "text k; text v; setcell NF; text k; cell NF; print 1": "v\n", `text "a/b"; has a/b; print 1`: "1\n",
	} {
		texts, list := coded(t, code)
		for _, p := range placedParts(texts, list) {
			checkCode(t, p.code, true)
			if got := impl.RunCode(p.code, p.from, p.to, impl.Store{}, impl.Input{}).Out; got != said {
				t.Errorf("%s says %q; want %q", code, got, said)
			}
			checkPartsRun(t, p.code, impl.Store{}, impl.Input{})
		}
	}
	// Texts that are alike, and such as are needed by nothing.
	texts := append([]string{"x", "x", "(", "unneeded", "x", "n", "n", ""}, slices.Repeat([]string{"x"}, 52)...)
	list := []impl.Instr{instr(impl.CoText, 1), instr(impl.CoSet, 5), instr(impl.CoName, 6), instr(impl.CoText, 4), instr(impl.CoSame, 0), instr(impl.CoText, 59), instr(impl.CoPrint, 2)}
	for _, ends := range [][2]int{{0, 0}, {0, 7}, {7, 7}} {
		c := impl.Code{Texts: texts, List: list, Line: ends[0], End: ends[1]}
		checkCode(t, c, true)
		checkSame(t, "Texts that are alike", impl.RunCode(c, 0, 7, impl.Store{}, impl.Input{}), impl.Store{Vars: vars("n", "x"), Out: "1 x\n"})
	}
}

// The blocks have no code, but more nodes than may be run by the tree: the code is run as if they were not there.
func TestCodeOfTooManyEmptyBlocks(t *testing.T) {
	p := mustReadProgram(t, `BEGIN { print 1 } { { }; n += NR; if (n) { } } END { print n }`)
	c, _ := impl.Compile(p)
	kids := p.Nodes[p.Rules[1].Do].Kids
	nodes := wide(node(impl.StBlock, "")).Nodes[:maxNodes-len(p.Nodes)]
	for _, n := range p.Nodes {
		for k := range n.Kids {
			n.Kids[k] += len(nodes)
		}
	}
	for i := range p.Rules {
		p.Rules[i].Do += len(nodes)
	}
	kids[0] = len(nodes) - 1
	p.Nodes = append(nodes, p.Nodes...)
	checkOkProgram(t, p, true)
	if _, ok := impl.RunTree(p, "a\nb\n"); ok {
		t.Fatal("the tree is run")
	}
	same, ok := impl.Compile(p)
	if !ok || toldCode(same) != toldCode(c) {
		t.Fatalf("Compile = %s, %v; want %s", toldCode(same), ok, toldCode(c))
	}
	got, ok := impl.RunAll(same, "a\nb\n")
	if !ok {
		t.Fatal("the code is not run")
	}
	checkSame(t, "RunAll", got, impl.Store{Vars: vars("n", "3"), Out: "1\n3\n"})
}

func TestCodeOverLines(t *testing.T) {
	program := `BEGIN { print "b", NR, NF, $0 } { print NR, $1; last = $0 } END { print "e", NR, NF, $0 }`
	for _, count := range []int{0, 1, 2, 19, 20, 21, 22, 100} {
		text, said, want := "", "b 0 0 \n", impl.Store{}
		for i := range count {
			line := fmt.Sprintf("l%d x", i)
			text += line + "\n"
			if i < 20 {
				said += fmt.Sprintf("%d l%d\n", i+1, i)
				want.Vars = vars("last", line)
			}
		}
		if count == 0 {
			want.Out = said + "e 0 0 \n"
		} else {
			want.Out = said + fmt.Sprintf("e %d 2 l%d x\n", min(count, 20), min(count, 20)-1)
			checkRunCoded(t, program, strings.TrimSuffix(text, "\n"), want)
		}
		checkRunCoded(t, program, text, want)
	}
	for text, said := range map[string]string{"": "0  0\n", "\n": "1  0\n", "\n\n": "2  0\n", "a": "1 a 1\n", "a\n": "1 a 1\n", "a\n\n": "2  0\n", "\na": "2 a 1\n", "a b\nc": "2 c 1\n", "a\r\nb\t c \n": "2 b\t c  2\n", " ": "1   0\n"} {
		checkRunCoded(t, "END { print NR, $0, NF }", text, impl.Store{Out: said})
	}
	// What one part sets, the next ones find.
	checkRunCoded(t, `BEGIN { n = 5; t["a"] = 1 } { n += 1; t[$1] += n } END { t["z"] = n; dump t }`, "a\nb\na\n", impl.Store{
		Vars: vars("n", "8"), Cells: cells("t", "a", "15", "t", "b", "7", "t", "z", "8"), Out: "a 15\nb 7\nz 8\n",
	})
	checkRunCoded(t, `{ print 1 }`, "", impl.Store{})
	checkRunCoded(t, ``, "a\nb\n", impl.Store{})
	checkRunCoded(t, `{ t[NR . $1] = NR } END { dump t }`, strings.Repeat("k\n", 30), impl.Store{Cells: inOrder(lineCells(20)), Out: plainDump(impl.Store{Cells: inOrder(lineCells(20))}, "t").Out})
}

// lineCells has a cell of t for each of so many lines.
func lineCells(count int) []impl.Cell {
	list := []impl.Cell{}
	for i := range count {
		n := strconv.Itoa(i + 1)
		list = append(list, impl.Cell{Name: "t", Key: n + "k", Val: n})
	}
	return list
}

func TestCodeInWrongStores(t *testing.T) {
	for k := range uint64(1500) {
		r := rand.New(rand.NewPCG(107, k))
		s := drawnWrongStore(r)
		switch k % 8 {
		case 0:
			s.Vars = append(manyVars(59), vars("a", "1", "a", "2", "b", "3")...)
		case 1:
			s.Vars = slices.Repeat(vars("b", "1", "a", "2"), 31)
		case 2:
			s.Cells = append(s.Cells, manyCells(1995)...)
		}
		in := drawnInput(r)
		checkPartsRun(t, drawnCode(r), s, in)
		checkMachine(t, runProgram(r), s, in, "")
	}
	s := impl.Store{Vars: slices.Repeat(manyVars(300), 30), Cells: slices.Repeat(manyCells(1000), 30), Out: strings.Repeat("o", 1<<20)}
	inGoodTime(t, func() {
		for _, code := range []string{"text 1; set new", "text 1; text 1; setcell x", "dump none", "text 1; cell x; addto x", "text 1; addto aB", "next", "jump 1", "name x; zero 2"} {
			checkCoded(t, code, s, impl.Input{}, s)
		}
		cut := copyOfStore(s)
		cut.Out = cut.Out[:3000]
		checkCoded(t, "text x; print 1; dump x", s, impl.Input{}, cut)
		c := mustCompile(t, "{ print 1 }")
		checkSame(t, "refused", impl.RunCode(c, 0, 1, s, impl.Input{}), s)
	})
}

// As much as may be run over 20 lines, of what costs most.
func TestAsMuchAsMayBeRun(t *testing.T) {
	text := strings.Repeat(strings.Repeat("ab ", 20)+"\n", 20)
	for _, part := range []string{"text 1; addto n; name n; name n; setcell c;", "text 1; addto n; name n; name n; setcell c; dump c;", `text 1; addto n; text 0; field; has "(a|b| )*(ab)*x"; print 1;`, "text 1; addto n; jump 0;"} {
		texts, list := coded(t, part)
		all := []impl.Instr{}
		for len(all)+len(list) <= maxInstrs {
			all = append(all, list...)
			if last := len(all) - 1; all[last].Op == impl.CoJump {
				all[last].Arg = last + 1
			}
		}
		c := impl.Code{Texts: texts, List: all, End: len(all)}
		checkCode(t, c, true)
		inGoodTime(t, func() {
			got, ok := impl.RunAll(c, text)
			if n := impl.VarOf(got, "n"); !ok || n != strconv.Itoa(20*(len(all)/len(list))) {
				t.Errorf("run: %v; n is %s", ok, n)
			}
		})
	}
}

// roomyCode has memory of its own, and spare room behind its lists, filled with what must stay.
func roomyCode(c impl.Code) impl.Code {
	texts := []string{}
	for _, text := range c.Texts {
		texts = append(texts, strings.Clone(text))
	}
	c.Texts = append(texts, "spare", "room")[:len(texts)]
	c.List = append(slices.Clone(c.List), instr(-5, -5), instr(-6, -6))[:len(c.List)]
	return c
}

func checkCodeRoom(t *testing.T, c impl.Code) {
	t.Helper()
	if !slices.Equal(c.Texts[len(c.Texts):][:2], []string{"spare", "room"}) || !slices.Equal(c.List[len(c.List):][:2], []impl.Instr{instr(-5, -5), instr(-6, -6)}) {
		t.Fatal("something was written into the spare room behind a list")
	}
}

func TestWhatIsRunIsNew(t *testing.T) {
	for k := range uint64(800) {
		r := rand.New(rand.NewPCG(108, k))
		c := drawnCode(r)
		if compiled, ok := impl.Compile(runProgram(r)); ok && k%2 == 0 {
			c = compiled
		}
		c = roomyCode(c)
		if k%5 == 0 {
			c.Begin = 1
		}
		s := roomyStore(drawnMeantStore(r))
		in := impl.Input{Line: strings.Clone(drawnLine(r)), Num: 1}
		text := strings.Clone(in.Line + "\n" + drawnLine(r))
		wasCode, wasStore := toldCode(c), toldStore(s)
		handedIn := append(append(slices.Clone(c.Texts), textsOfStore(s)...), in.Line, text)
		for _, ends := range append(plainEnds(c), [2]int{-1, 0}, [2]int{len(c.List), 0}, [2]int{1, 2}) {
			checkOwn(t, "RunCode", func() impl.Store { return impl.RunCode(c, ends[0], ends[1], s, in) }, handedIn, s)
		}
		checkOwn(t, "RunAll", func() impl.Store { done, _ := impl.RunAll(c, text); return done }, handedIn, impl.Store{})
		if toldCode(c) != wasCode || toldStore(s) != wasStore {
			t.Fatal("an argument is not as it was")
		}
		checkCodeRoom(t, c)
		checkStoreRoom(t, s)
	}
	// Every kind of text that may be set or said.
	c := roomyCode(mustCompile(t, `{ a = "text"; b = 123456; c["key"] = $1; d = $0; print "said"; e = e; print $2; g["k"] += 1; f += 1; h = g["k"]; print "x", $1 }`))
	s := roomyStore(impl.Store{Vars: vars("e", "value"), Cells: cells("g", "k", "1")})
	in := impl.Input{Line: strings.Clone("first second")}
	got := impl.RunCode(c, c.Line, c.End, s, in)
	checkSame(t, "all", got, impl.Store{Vars: vars("a", "text", "b", "123456", "d", "first second", "e", "value", "f", "1", "h", "2"), Cells: cells("c", "key", "first", "g", "k", "2"), Out: "said\nsecond\nx first\n"})
	checkNew(t, "RunCode", textsOfStore(got), append(append(slices.Clone(c.Texts), textsOfStore(s)...), in.Line))
	all, _ := impl.RunAll(c, in.Line)
	checkNew(t, "RunAll", textsOfStore(all), append(slices.Clone(c.Texts), in.Line))
}

func TestMachinesOfNilAndEmptyLists(t *testing.T) {
	stores := []impl.Store{{}, {Vars: []impl.Var{}}, {Cells: []impl.Cell{}}, {Vars: make([]impl.Var, 0, 5), Cells: make([]impl.Cell, 0, 5)}}
	for _, c := range []impl.Code{{}, {Texts: []string{}}, {List: []impl.Instr{}}, {Texts: make([]string, 0, 5), List: make([]impl.Instr, 0, 5)}} {
		for _, text := range []string{"", "a\nb\n"} {
			if got, ok := impl.RunAll(c, text); !ok || toldStore(got) != toldStore(impl.Store{}) {
				t.Errorf("RunAll = %s, %v", toldStore(got), ok)
			}
		}
		for _, s := range append(stores, impl.Store{Vars: vars("n", "1"), Out: "out"}) {
			for _, ends := range [][2]int{{0, 0}, {0, 1}, {-1, 0}, {1, 1}} {
				checkSame(t, "RunCode of no code", impl.RunCode(c, ends[0], ends[1], s, impl.Input{Line: "a"}), s)
			}
		}
	}
	for _, texts := range [][]string{nil, {}} {
		c := impl.Code{Texts: texts, List: []impl.Instr{instr(impl.CoFields, 0), instr(impl.CoPrint, 1)}, End: 2}
		for _, s := range stores {
			checkSame(t, "RunCode", impl.RunCode(c, 0, 2, s, impl.Input{Line: "a"}), impl.Store{Out: "1\n"})
		}
	}
}

func TestMachinesDoNotHangOnEarlierOnes(t *testing.T) {
	c := mustCompile(t, `BEGIN { n = 1 } $1 ~ /a/ { n += 1; c[n] = $0; if (n == 3) next } END { dump c; print n }`)
	tell := func() string {
		s, ok := impl.RunAll(c, "a b\nc\nda\n")
		return toldStore(s) + fmt.Sprint(ok) + toldStore(impl.RunCode(c, c.Line, c.End, s, impl.Input{Line: "a"}))
	}
	first := tell()
	for k := range uint64(300) {
		r := rand.New(rand.NewPCG(109, k))
		other := drawnCode(r)
		impl.RunAll(other, drawnLines(r))
		impl.RunCode(other, other.Line, other.End, drawnWrongStore(r), drawnInput(r))
		if tell() != first {
			t.Fatal("an answer hangs on earlier ones")
		}
	}
}
