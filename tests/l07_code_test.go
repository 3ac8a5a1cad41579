package tests

import (
	"encoding/binary"
	"fmt"
	"math"
	"math/rand/v2"
	"slices"
	"strings"
	"testing"
	"time"

	"loop.example/g00237/impl"
)

// checkText checks ReadCode, and answers whether the text is the form of a code.
func checkText(t *testing.T, s string) bool {
	t.Helper()
	want, ok := plainReadCode(s)
	c, right := impl.ReadCode(s)
	if right != ok || toldCode(c) != toldCode(want) {
		t.Fatalf("ReadCode(%q) = %s, %v; want %s, %v", s, toldCode(c), right, toldCode(want), ok)
	}
	if !ok {
		return false
	}
	if again, fine := impl.CodeText(c); !fine || again != s {
		t.Fatalf("%q comes back as %q, %v", s, again, fine)
	}
	return true
}

// checkCode checks CodeOk and CodeText, and that a code comes back just when it is right.
func checkCode(t *testing.T, c impl.Code, want bool) {
	t.Helper()
	if plain := plainCodeOk(c); plain != want {
		t.Fatalf("said to be %v, but %v: %s", want, plain, toldCode(c))
	}
	if got := impl.CodeOk(c); got != want {
		t.Fatalf("CodeOk is %v; want %v, of %s", got, want, toldCode(c))
	}
	s, ok := impl.CodeText(c)
	if !want {
		if ok || s != "" {
			t.Fatalf("CodeText = %q, %v; want none, of %s", s, ok, toldCode(c))
		}
		return
	}
	if !ok || s != plainCodeText(c) {
		t.Fatalf("CodeText = %q, %v; want %q, of %s", s, ok, plainCodeText(c), toldCode(c))
	}
	back, right := impl.ReadCode(s)
	if !right || toldCode(back) != toldCode(c) || !checkText(t, s) {
		t.Fatalf("from %q comes back %s, %v; want %s", s, toldCode(back), right, toldCode(c))
	}
}

func checkNoCode(t *testing.T, p impl.Program) {
	t.Helper()
	if c, ok := impl.Compile(p); ok || toldCode(c) != toldCode(impl.Code{}) {
		t.Fatalf("Compile = %s, %v; want none, of\n%s", toldCode(c), ok, toldProgram(p))
	}
}

// checkCompile checks the code of a program and what comes back of it, and answers whether it has one.
func checkCompile(t *testing.T, p impl.Program) bool {
	t.Helper()
	want, ok := plainCompile(p)
	if !ok {
		checkNoCode(t, p)
		return false
	}
	c, right := impl.Compile(p)
	if !right || toldCode(c) != toldCode(want) {
		t.Fatalf("Compile = %s, %v; want %s, of\n%s", toldCode(c), right, toldCode(want), toldProgram(p))
	}
	checkCode(t, c, true)
	return true
}

func mustCompile(t *testing.T, s string) impl.Code {
	t.Helper()
	p := mustReadProgram(t, s)
	if !checkCompile(t, p) {
		t.Fatalf("%q has no code", s)
	}
	c, _ := impl.Compile(p)
	return c
}

// checkWritten checks against code that is written out.
func checkWritten(t *testing.T, s string, texts []string, line int, end int, list ...impl.Instr) {
	t.Helper()
	want := impl.Code{Texts: texts, List: list, Line: line, End: end}
	if c := mustCompile(t, s); toldCode(c) != toldCode(want) {
		t.Fatalf("the code of %q is %s; want %s", s, toldCode(c), toldCode(want))
	}
}

// inGoodTime fails where something does not come to an end.
func inGoodTime(t *testing.T, what func()) {
	t.Helper()
	done := make(chan struct{})
	go func() {
		defer close(done)
		what()
	}()
	select {
	case <-done:
	case <-time.After(time.Minute):
		t.Fatal("it does not come to an end")
	}
}

func TestCodeConstants(t *testing.T) {
	ops := []int{
		impl.CoText, impl.CoName, impl.CoCell, impl.CoField, impl.CoFields, impl.CoLine, impl.CoLong, impl.CoAdd, impl.CoSub, impl.CoMul, impl.CoMod, impl.CoJoin,
		impl.CoLess, impl.CoSame, impl.CoHas, impl.CoPrint, impl.CoSet, impl.CoAddTo, impl.CoSetCell, impl.CoAddCell, impl.CoZero, impl.CoJump, impl.CoNext, impl.CoDump,
	}
	for i, op := range ops {
		if op != i+1 {
			t.Errorf("the Op at %d is %d", i, op)
		}
	}
	if len(ops) != 24 || len(opForms) != 24 {
		t.Error("there are 24 of them")
	}
}

func TestCodeByHand(t *testing.T) {
	checkWritten(t, "", nil, 0, 0)
	checkWritten(t, "{ if (NF) print 1 else next }", []string{"1"}, 0, 6,
		instr(impl.CoFields, 0), instr(impl.CoZero, 5), instr(impl.CoText, 0), instr(impl.CoPrint, 1), instr(impl.CoJump, 6), instr(impl.CoNext, 0))
	checkWritten(t, "$1 < 3 { n += $2 * 2 }\nEND { print n }", []string{"1", "3", "2", "n"}, 0, 10,
		instr(impl.CoText, 0), instr(impl.CoField, 0), instr(impl.CoText, 1), instr(impl.CoLess, 0), instr(impl.CoZero, 10),
		instr(impl.CoText, 2), instr(impl.CoField, 0), instr(impl.CoText, 2), instr(impl.CoMul, 0), instr(impl.CoAddTo, 3),
		instr(impl.CoName, 3), instr(impl.CoPrint, 1))
	checkWritten(t, "END { dump n } $1 ~ /a+/ { n[$1] += $2; next } BEGIN { x = \"\" }", []string{"", "x", "1", "a+", "2", "n"}, 2, 12,
		instr(impl.CoText, 0), instr(impl.CoSet, 1),
		instr(impl.CoText, 2), instr(impl.CoField, 0), instr(impl.CoHas, 3), instr(impl.CoZero, 12),
		instr(impl.CoText, 2), instr(impl.CoField, 0), instr(impl.CoText, 4), instr(impl.CoField, 0), instr(impl.CoAddCell, 5), instr(impl.CoNext, 0),
		instr(impl.CoDump, 5))
}

func TestCodesComeBack(t *testing.T) {
	ops, whens := map[int]bool{}, map[string]bool{}
	written := map[int]bool{}
	for _, s := range programTexts() {
		p := mustReadProgram(t, s)
		for _, node := range p.Nodes {
			ops[node.Op] = true
		}
		for _, rule := range p.Rules {
			whens[fmt.Sprint(rule.When, rule.If == -1)] = true
		}
		for _, in := range mustCompile(t, s).List {
			written[in.Op] = true
		}
	}
	for op := impl.ExNum; op <= impl.StDump; op++ {
		if !ops[op] {
			t.Errorf("no program has Op %d", op)
		}
	}
	for op := impl.CoText; op <= impl.CoDump; op++ {
		if !written[op] {
			t.Errorf("no code has Op %d", op)
		}
	}
	if len(whens) != 4 {
		t.Errorf("the rules are of %v alone", whens)
	}
}

func TestDrawnProgramsHaveCode(t *testing.T) {
	compiled, refused := 0, 0
	for k := range uint64(8000) {
		r := rand.New(rand.NewPCG(7, k))
		nodes := []int{5, 10, 20, 40, maxNodes}[k%5]
		if checkCompile(t, drawnProgram(r, r.IntN(nodes+1), r.IntN(maxRules+1))) {
			compiled++
		} else {
			refused++
		}
	}
	if compiled < 3000 || refused < 20 {
		t.Errorf("%d have code, %d have none", compiled, refused)
	}
}

func TestDraftedProgramsHaveCode(t *testing.T) {
	compiled := 0
	for k := range uint64(6000) {
		d := &drafter{rand.New(rand.NewPCG(71, k)), 5 + int(k%40)}
		if p, ok := impl.ReadProgram(d.program()); ok && checkCompile(t, p) {
			compiled++
		}
	}
	if compiled < 3500 {
		t.Errorf("only %d have code", compiled)
	}
}

// A program without one of the Whens has no code in that part; nor has one with empty blocks alone.
func TestPartsWithoutCode(t *testing.T) {
	heads := []string{"BEGIN", "", "END"}
	for which := range 8 {
		for _, order := range [][]int{{0, 1, 2}, {2, 1, 0}, {1, 2, 0}, {0, 2, 1}} {
			with, without, sizes := "", "", [3]int{}
			for _, part := range order {
				if which>>part&1 == 1 {
					with += heads[part] + " { next }\n"
					without += heads[part] + " { }\n"
					sizes[part] = 1
				}
			}
			list := slices.Repeat([]impl.Instr{instr(impl.CoNext, 0)}, sizes[0]+sizes[1]+sizes[2])
			checkWritten(t, with, nil, sizes[0], sizes[0]+sizes[1], list...)
			checkWritten(t, without, nil, 0, 0)
			checkWritten(t, with+without, nil, sizes[0], sizes[0]+sizes[1], list...)
			checkWritten(t, without+with+with, nil, 2*sizes[0], 2*(sizes[0]+sizes[1]), slices.Repeat(list, 2)...)
		}
	}
	checkWritten(t, "{ { } } BEGIN { { { }; { } } } END { { }; { } }", nil, 0, 0)
	// What no rule comes to has no code.
	if c, ok := impl.Compile(impl.Program{Nodes: groundNodes()}); !ok || toldCode(c) != toldCode(impl.Code{}) {
		t.Errorf("Compile = %s, %v", toldCode(c), ok)
	}
	if c, ok := impl.Compile(impl.Program{Nodes: groundNodes(), Rules: []impl.Rule{rule(impl.WhenEnd, -1, 3)}}); !ok || toldCode(c) != toldCode(impl.Code{}) {
		t.Errorf("Compile = %s, %v", toldCode(c), ok)
	}
}

func TestRulesAreInTheOrderOfTheirWhens(t *testing.T) {
	dumped := func(names string) []impl.Instr {
		list := []impl.Instr{}
		for i := range len(names) {
			list = append(list, instr(impl.CoDump, i))
		}
		return list
	}
	checkWritten(t, "END { dump a } BEGIN { dump b } { dump c } END { dump d } { dump e } BEGIN { dump f }",
		[]string{"b", "f", "c", "e", "a", "d"}, 2, 4, dumped("bfcead")...)
	checkWritten(t, "{ dump a } { dump b } { dump c }", []string{"a", "b", "c"}, 0, 3, dumped("abc")...)
	checkWritten(t, "END { dump a } END { dump b } { } BEGIN { dump c }", []string{"c", "a", "b"}, 1, 1, dumped("cab")...)
	checkWritten(t, "{ dump a } x { dump b } { dump c } END { dump d } y { } BEGIN { dump e }", []string{"e", "a", "x", "b", "c", "y", "d"}, 1, 8,
		instr(impl.CoDump, 0), instr(impl.CoDump, 1), instr(impl.CoName, 2), instr(impl.CoZero, 5), instr(impl.CoDump, 3), instr(impl.CoDump, 4),
		instr(impl.CoName, 5), instr(impl.CoZero, 8), instr(impl.CoDump, 6))
}

func TestRulesWithAnIf(t *testing.T) {
	x := instr(impl.CoName, 0)
	next := instr(impl.CoNext, 0)
	checkWritten(t, "x { }", []string{"x"}, 0, 2, x, instr(impl.CoZero, 2))
	checkWritten(t, "x { next }", []string{"x"}, 0, 3, x, instr(impl.CoZero, 3), next)
	checkWritten(t, "x { next } { next }", []string{"x"}, 0, 4, x, instr(impl.CoZero, 3), next, next)
	checkWritten(t, "{ next } x { next }", []string{"x"}, 0, 4, next, x, instr(impl.CoZero, 4), next)
	checkWritten(t, "x { } x { } { }", []string{"x"}, 0, 4, x, instr(impl.CoZero, 2), x, instr(impl.CoZero, 4))
	checkWritten(t, "x { { } } END { next }", []string{"x"}, 0, 2, x, instr(impl.CoZero, 2), next)
	checkWritten(t, "END { next } BEGIN { next } x { next; next }", []string{"x"}, 1, 5, next, x, instr(impl.CoZero, 5), next, next, next)
	checkWritten(t, "x { if (x) next }", []string{"x"}, 0, 5, x, instr(impl.CoZero, 5), x, instr(impl.CoZero, 5), next)
}

func TestCodeOfEachExpression(t *testing.T) {
	for _, c := range []struct {
		s     string
		texts []string
		list  []impl.Instr
	}{
		{"7", []string{"7"}, []impl.Instr{instr(impl.CoText, 0)}},
		{"007", []string{"007"}, []impl.Instr{instr(impl.CoText, 0)}},
		{`"7 a"`, []string{"7 a"}, []impl.Instr{instr(impl.CoText, 0)}},
		{`""`, []string{""}, []impl.Instr{instr(impl.CoText, 0)}},
		{"x", []string{"x"}, []impl.Instr{instr(impl.CoName, 0)}},
		{"x[1]", []string{"1", "x"}, []impl.Instr{instr(impl.CoText, 0), instr(impl.CoCell, 1)}},
		{"x[x[x]]", []string{"x"}, []impl.Instr{instr(impl.CoName, 0), instr(impl.CoCell, 0), instr(impl.CoCell, 0)}},
		{"$1", []string{"1"}, []impl.Instr{instr(impl.CoText, 0), instr(impl.CoField, 0)}},
		{"$$NF", nil, []impl.Instr{instr(impl.CoFields, 0), instr(impl.CoField, 0), instr(impl.CoField, 0)}},
		{"NF", nil, []impl.Instr{instr(impl.CoFields, 0)}},
		{"NR", nil, []impl.Instr{instr(impl.CoLine, 0)}},
		{"length(NR)", nil, []impl.Instr{instr(impl.CoLine, 0), instr(impl.CoLong, 0)}},
		{"NF + NR", nil, []impl.Instr{instr(impl.CoFields, 0), instr(impl.CoLine, 0), instr(impl.CoAdd, 0)}},
		{"NF - NR", nil, []impl.Instr{instr(impl.CoFields, 0), instr(impl.CoLine, 0), instr(impl.CoSub, 0)}},
		{"NF * NR", nil, []impl.Instr{instr(impl.CoFields, 0), instr(impl.CoLine, 0), instr(impl.CoMul, 0)}},
		{"NF % NR", nil, []impl.Instr{instr(impl.CoFields, 0), instr(impl.CoLine, 0), instr(impl.CoMod, 0)}},
		{"NF . NR", nil, []impl.Instr{instr(impl.CoFields, 0), instr(impl.CoLine, 0), instr(impl.CoJoin, 0)}},
		{"NF < NR", nil, []impl.Instr{instr(impl.CoFields, 0), instr(impl.CoLine, 0), instr(impl.CoLess, 0)}},
		{"NF == NR", nil, []impl.Instr{instr(impl.CoFields, 0), instr(impl.CoLine, 0), instr(impl.CoSame, 0)}},
		{"NF ~ /^a$/", []string{"^a$"}, []impl.Instr{instr(impl.CoFields, 0), instr(impl.CoHas, 0)}},
		{"x ~ /y/", []string{"x", "y"}, []impl.Instr{instr(impl.CoName, 0), instr(impl.CoHas, 1)}},
		{"NR - (NF - NR)", nil, []impl.Instr{instr(impl.CoLine, 0), instr(impl.CoFields, 0), instr(impl.CoLine, 0), instr(impl.CoSub, 0), instr(impl.CoSub, 0)}},
		{"NR - NF - NR", nil, []impl.Instr{instr(impl.CoLine, 0), instr(impl.CoFields, 0), instr(impl.CoSub, 0), instr(impl.CoLine, 0), instr(impl.CoSub, 0)}},
	} {
		size := len(c.list)
		checkWritten(t, "{ print "+c.s+" }", c.texts, 0, size+1, append(slices.Clone(c.list), instr(impl.CoPrint, 1))...)
		checkWritten(t, c.s+" { next }", c.texts, 0, size+2, append(slices.Clone(c.list), instr(impl.CoZero, size+2), instr(impl.CoNext, 0))...)
	}
}

func TestCodeOfEachStatement(t *testing.T) {
	nf, nr := instr(impl.CoFields, 0), instr(impl.CoLine, 0)
	for _, c := range []struct {
		s     string
		texts []string
		list  []impl.Instr
	}{
		{"print NF", nil, []impl.Instr{nf, instr(impl.CoPrint, 1)}},
		{"print NF, NR", nil, []impl.Instr{nf, nr, instr(impl.CoPrint, 2)}},
		{"print NR, NF, NR", nil, []impl.Instr{nr, nf, nr, instr(impl.CoPrint, 3)}},
		{"print NR, NR, NR, NF", nil, []impl.Instr{nr, nr, nr, nf, instr(impl.CoPrint, 4)}},
		{"x = NF", []string{"x"}, []impl.Instr{nf, instr(impl.CoSet, 0)}},
		{"x = x", []string{"x"}, []impl.Instr{instr(impl.CoName, 0), instr(impl.CoSet, 0)}},
		{"x = y", []string{"y", "x"}, []impl.Instr{instr(impl.CoName, 0), instr(impl.CoSet, 1)}},
		{"x += y", []string{"y", "x"}, []impl.Instr{instr(impl.CoName, 0), instr(impl.CoAddTo, 1)}},
		{"x[NF] = NR", []string{"x"}, []impl.Instr{nf, nr, instr(impl.CoSetCell, 0)}},
		{"x[NF] += NR", []string{"x"}, []impl.Instr{nf, nr, instr(impl.CoAddCell, 0)}},
		{"x[y] = z", []string{"y", "z", "x"}, []impl.Instr{instr(impl.CoName, 0), instr(impl.CoName, 1), instr(impl.CoSetCell, 2)}},
		{"next", nil, []impl.Instr{instr(impl.CoNext, 0)}},
		{"dump x", []string{"x"}, []impl.Instr{instr(impl.CoDump, 0)}},
		{"{ }", nil, nil},
		{"{ { }; { } }", nil, nil},
		{"{ next; { dump x }; { } }", []string{"x"}, []impl.Instr{instr(impl.CoNext, 0), instr(impl.CoDump, 0)}},
	} {
		size := len(c.list)
		checkWritten(t, "{ "+c.s+" }", c.texts, 0, size, c.list...)
		checkWritten(t, "BEGIN { "+c.s+" }", c.texts, size, size, c.list...)
		checkWritten(t, "END { "+c.s+" }", c.texts, 0, 0, c.list...)
		checkWritten(t, "{ "+c.s+"; "+c.s+" }", c.texts, 0, 2*size, slices.Repeat(c.list, 2)...)
		checkWritten(t, "BEGIN { "+c.s+" } { { "+c.s+" }; { } } END { { }; { { "+c.s+" } } }", c.texts, size, 2*size, slices.Repeat(c.list, 3)...)
	}
}

func TestCodeOfChoices(t *testing.T) {
	test, next := instr(impl.CoFields, 0), instr(impl.CoNext, 0)
	to := func(place int) impl.Instr { return instr(impl.CoZero, place) }
	jump := func(place int) impl.Instr { return instr(impl.CoJump, place) }
	for s, list := range map[string][]impl.Instr{
		"if (NF) next":                                         {test, to(3), next},
		"if (NF) next; next":                                   {test, to(3), next, next},
		"next; if (NF) next":                                   {next, test, to(4), next},
		"if (NF) { }":                                          {test, to(2)},
		"if (NF) { }; next":                                    {test, to(2), next},
		"if (NF) { next; next }":                               {test, to(4), next, next},
		"if (NF) next else next":                               {test, to(4), next, jump(5), next},
		"if (NF) next else next; next":                         {test, to(4), next, jump(5), next, next},
		"if (NF) { } else { }":                                 {test, to(3), jump(3)},
		"if (NF) { } else { }; next":                           {test, to(3), jump(3), next},
		"if (NF) { } else next":                                {test, to(3), jump(4), next},
		"if (NF) next else { }":                                {test, to(4), next, jump(4)},
		"if (NF) { next; next } else { next; next; next }":     {test, to(5), next, next, jump(8), next, next, next},
		"if (NF) { if (NF) next }":                             {test, to(5), test, to(5), next},
		"if (NF) { if (NF) next else next } else next":         {test, to(8), test, to(6), next, jump(7), next, jump(9), next},
		"if (NF) next else { if (NF) next else next }":         {test, to(4), next, jump(9), test, to(8), next, jump(9), next},
		"if (NF) { if (NF) { } } else { if (NF) { } else { }}": {test, to(5), test, to(4), jump(8), test, to(8), jump(8)},
		"{ if (NF) { { next } } }":                             {test, to(3), next},
	} {
		checkWritten(t, "{ "+s+" }", nil, 0, len(list), list...)
		checkWritten(t, "END { "+s+" }", nil, 0, 0, list...)
		// Places are told from the beginning of the list on, not of the part.
		moved := []impl.Instr{instr(impl.CoDump, 0), instr(impl.CoDump, 1), instr(impl.CoDump, 0)}
		for _, in := range list {
			if in.Op == impl.CoZero || in.Op == impl.CoJump {
				in.Arg += 3
			}
			moved = append(moved, in)
		}
		checkWritten(t, "BEGIN { dump a; dump b } { dump a; "+s+" } END { }", []string{"a", "b"}, 2, len(moved), moved...)
		checkWritten(t, "END { "+s+" } { dump a } BEGIN { dump a; dump b }", []string{"a", "b"}, 2, 3, moved...)
	}
	checkWritten(t, "{ if (x < 1) x = 2 else y = 1 }", []string{"x", "1", "2", "y"}, 0, 9,
		instr(impl.CoName, 0), instr(impl.CoText, 1), instr(impl.CoLess, 0), to(7), instr(impl.CoText, 2), instr(impl.CoSet, 0), jump(9),
		instr(impl.CoText, 1), instr(impl.CoSet, 3))
}

func TestNodesThatAreNamedOftenAreCompiledOften(t *testing.T) {
	p := impl.Program{Nodes: []impl.Node{
		node(impl.ExName, "x"), node(impl.ExAdd, "", 0, 0), node(impl.StPrint, "", 1, 0), node(impl.StBlock, "", 2, 2),
		node(impl.StIf, "", 0, 3, 3), node(impl.StBlock, "", 4), node(impl.StBlock, ""),
	}, Rules: []impl.Rule{rule(impl.WhenLine, 1, 3), rule(impl.WhenBegin, -1, 3), rule(impl.WhenLine, 1, 6), rule(impl.WhenEnd, -1, 5)}}
	x, add := instr(impl.CoName, 0), instr(impl.CoAdd, 0)
	printed := []impl.Instr{x, x, add, x, instr(impl.CoPrint, 2)}
	block := slices.Concat(printed, printed)
	want := impl.Code{Texts: []string{"x"}, Line: 10, End: 28, List: slices.Concat(block,
		[]impl.Instr{x, x, add, instr(impl.CoZero, 24)}, block, []impl.Instr{x, x, add, instr(impl.CoZero, 28)},
		[]impl.Instr{x, instr(impl.CoZero, 41)}, block, []impl.Instr{instr(impl.CoJump, 51)}, block)}
	if c, ok := impl.Compile(p); !ok || toldCode(c) != toldCode(want) {
		t.Errorf("Compile = %s, %v; want %s", toldCode(c), ok, toldCode(want))
	}
	checkCompile(t, p)
}

func TestTextsAreTakenOnce(t *testing.T) {
	for s, want := range map[string][]string{
		"{ print 1, \"1\", 1; x = \"x\"; y[x] = \"y\" }":     {"1", "x", "y"},
		"{ x = $0 ~ /x/; print \"x\" }":                      {"0", "x"},
		"{ print 1 ~ /1/, 01, \"1\" }":                       {"1", "01"},
		"{ print a[b[c]] }":                                  {"c", "b", "a"},
		"{ print \"\", \"\"; x = \"\" }":                     {"", "x"},
		"{ print NF, NR; next }":                             nil,
		"{ dump z; z = y; y += x; x[w] = v; u[t] += s }":     {"z", "y", "x", "w", "v", "t", "s", "u"},
		"{ if (a) dump b else dump c; dump a }":              {"a", "b", "c"},
		"END { dump a; dump b } { dump b } BEGIN { dump c }": {"c", "b", "a"},
		"{ print a + b, b + a, (c . b) % a }":                {"a", "b", "c"},
		"{ print X, x, \"X\", \"x \" }":                      {"X", "x", "x "},
		"b ~ /a/ { dump a } a ~ /b/ { dump b }":              {"b", "a"},
	} {
		if c := mustCompile(t, s); !slices.Equal(c.Texts, want) {
			t.Errorf("the Texts of %q are %q; want %q", s, c.Texts, want)
		}
	}
}

func TestProgramsThatAreNotRightHaveNoCode(t *testing.T) {
	for _, s := range programTexts() {
		p := mustReadProgram(t, s)
		for _, other := range othersOf(p) {
			checkCompile(t, other)
		}
	}
	for _, p := range []impl.Program{
		{Rules: []impl.Rule{rule(impl.WhenLine, -1, 0)}},
		{Nodes: []impl.Node{node(impl.StBlock, "")}, Rules: []impl.Rule{rule(0, -1, 0)}},
		{Nodes: []impl.Node{node(impl.StBlock, "")}, Rules: []impl.Rule{rule(4, -1, 0)}},
		{Nodes: []impl.Node{node(impl.StBlock, "")}, Rules: []impl.Rule{rule(impl.WhenLine, 0, 0)}},
		{Nodes: []impl.Node{node(impl.StBlock, "", 0)}, Rules: []impl.Rule{rule(impl.WhenLine, -1, 0)}},
		{Nodes: []impl.Node{node(impl.StNext, ""), node(impl.StBlock, "")}, Rules: []impl.Rule{rule(impl.WhenLine, -1, 0)}},
		{Nodes: []impl.Node{node(impl.StBlock, ""), node(impl.ExField, "", math.MaxInt)}},
		{Nodes: []impl.Node{node(26, "")}},
		{Nodes: slices.Repeat([]impl.Node{node(impl.StBlock, "")}, maxNodes+1)},
	} {
		checkNoCode(t, p)
	}
}

// stacked puts statements into blocks, 20 in each, and those into blocks again, till there is one.
func stacked(nodes []impl.Node, statements []int) ([]impl.Node, int) {
	for {
		blocks := []int{}
		for some := range slices.Chunk(statements, 20) {
			blocks = append(blocks, len(nodes))
			nodes = append(nodes, node(impl.StBlock, "", some...))
		}
		if len(blocks) == 1 {
			return nodes, blocks[0]
		}
		statements = blocks
	}
}

// nexts has a rule of this many StNext, behind an If when there is one.
func nexts(count int, when int, tested bool) impl.Program {
	nodes := []impl.Node{node(impl.StNext, ""), node(impl.ExFields, "")}
	p := impl.Program{}
	nodes, do := stacked(nodes, slices.Repeat([]int{0}, count))
	p.Nodes, p.Rules = nodes, []impl.Rule{rule(when, -1, do)}
	if tested {
		p.Rules[0].If = 1
	}
	return p
}

func checkHasCode(t *testing.T, p impl.Program, want bool) {
	t.Helper()
	if got := checkCompile(t, p); got != want {
		t.Fatalf("code: %v; want %v, of\n%s", got, want, toldProgram(p))
	}
}

func TestNumberOfInstructions(t *testing.T) {
	for count := 240; count < 262; count++ {
		for when := impl.WhenBegin; when <= impl.WhenEnd; when++ {
			checkHasCode(t, nexts(count, when, false), count <= 250)
		}
		// The If and its CoZero are two more. What is left leads to 250, 251 .. , also to 255 and 256, where it is too long already.
		checkHasCode(t, nexts(count-2, impl.WhenLine, true), count <= 250)
		// Several rules add up, within their parts and over them.
		p := nexts(50, impl.WhenLine, false)
		p.Nodes = append(p.Nodes, node(impl.StBlock, "", slices.Repeat([]int{0}, 20)...))
		p.Nodes, p.Rules = append(p.Nodes, node(impl.StBlock, "", slices.Repeat([]int{0}, (count-210)/3)...)), slices.Repeat(p.Rules, 3)
		for when := impl.WhenBegin; when <= impl.WhenEnd; when++ {
			p.Rules = append(p.Rules, rule(when, -1, len(p.Nodes)-2), rule(when, -1, len(p.Nodes)-1))
		}
		checkHasCode(t, p, 210+(count-210)/3*3 <= 250)
	}
	c, _ := impl.Compile(nexts(248, impl.WhenLine, true))
	if len(c.List) != 250 || c.List[1] != instr(impl.CoZero, 250) || c.End != 250 {
		t.Errorf("the greatest code is %s", toldCode(c))
	}
	for _, count := range []int{252, 253, 254, 255, 256, 300, 1000, 4000} {
		checkNoCode(t, nexts(count, impl.WhenLine, true))
	}
}

func TestJumpsAreOfTheLastPlace(t *testing.T) {
	for count := 244; count < 256; count++ {
		p := nexts(count-4, impl.WhenLine, false)
		last := len(p.Nodes)
		p.Nodes = append(p.Nodes, node(impl.StIf, "", 1, p.Rules[0].Do, 0), node(impl.StBlock, "", last))
		p.Rules[0].Do = last + 1
		checkHasCode(t, p, count <= 250)
		if c, ok := impl.Compile(p); ok && (c.List[1] != instr(impl.CoZero, count-1) || c.List[count-2] != instr(impl.CoJump, count)) {
			t.Errorf("the code is %s", toldCode(c))
		}
	}
}

// lettered is a name of two letters for each number below 676.
func lettered(n int) string {
	return string([]byte{byte('a' + n/26), byte('A' + n%26)})
}

func TestNumberOfTexts(t *testing.T) {
	for count := 55; count < 70; count++ {
		nodes, statements := []impl.Node{}, []int{}
		for i := range count {
			statements = append(statements, len(nodes))
			nodes = append(nodes, node(impl.StDump, lettered(i)))
		}
		nodes, do := stacked(nodes, statements)
		for when := impl.WhenBegin; when <= impl.WhenEnd; when++ {
			checkHasCode(t, impl.Program{Nodes: nodes, Rules: []impl.Rule{rule(when, -1, do)}}, count <= 60)
		}
		// What is named again is no further one.
		checkHasCode(t, impl.Program{Nodes: nodes, Rules: []impl.Rule{rule(3, -1, do), rule(1, -1, do), rule(2, -1, do)}}, count <= 60)
	}
	for count := 55; count < 70; count++ {
		nodes, statements := []impl.Node{}, []int{}
		for i := range count {
			text := node(impl.ExNum, fmt.Sprint(i))
			if i%2 == 0 {
				text = node(impl.ExText, fmt.Sprint(i))
			}
			statements = append(statements, len(nodes)+1)
			nodes = append(nodes, text, node(impl.StPrint, "", len(nodes)))
		}
		nodes, do := stacked(nodes, statements)
		checkHasCode(t, impl.Program{Nodes: nodes, Rules: []impl.Rule{rule(impl.WhenLine, -1, do)}}, count <= 60)
	}
}

// rightward has expressions of two whose second one goes on: it puts this many on the stack.
func rightward(op int, height int) []impl.Node {
	nodes := []impl.Node{node(impl.ExFields, "")}
	for len(nodes) < height {
		nodes = append(nodes, node(op, "", 0, len(nodes)-1))
	}
	return nodes
}

func TestHeightsOfPrograms(t *testing.T) {
	for op := impl.ExAdd; op <= impl.ExSame; op++ {
		for height := 1; height < 40; height++ {
			nodes := rightward(op, height)
			printed := append(nodes, node(impl.StPrint, "", height-1), node(impl.StBlock, "", height))
			for when := impl.WhenBegin; when <= impl.WhenEnd; when++ {
				checkHasCode(t, impl.Program{Nodes: printed, Rules: []impl.Rule{rule(when, -1, height+1)}}, height <= 20)
			}
			tested := append(nodes, node(impl.StBlock, ""))
			checkHasCode(t, impl.Program{Nodes: tested, Rules: []impl.Rule{rule(impl.WhenLine, height-1, height)}}, height <= 20)
			chosen := append(nodes, node(impl.StNext, ""), node(impl.StIf, "", height-1, height), node(impl.StBlock, "", height+1))
			checkHasCode(t, impl.Program{Nodes: chosen, Rules: []impl.Rule{rule(impl.WhenLine, -1, height+2)}}, height <= 20)
			// Those that wait for the others stand on the stack, too.
			for printed := 1; printed <= 4; printed++ {
				kids := append(slices.Repeat([]int{0}, printed-1), height-1)
				several := append(nodes, node(impl.StPrint, "", kids...), node(impl.StBlock, "", height))
				checkHasCode(t, impl.Program{Nodes: several, Rules: []impl.Rule{rule(impl.WhenLine, -1, height+1)}}, height+printed-1 <= 20)
			}
			celled := append(nodes, node(impl.StSetCell, "x", 0, height-1), node(impl.StBlock, "", height))
			checkHasCode(t, impl.Program{Nodes: celled, Rules: []impl.Rule{rule(impl.WhenLine, -1, height+1)}}, height+1 <= 20)
			keyed := append(nodes, node(impl.StAddCell, "x", height-1, 0), node(impl.StBlock, "", height))
			checkHasCode(t, impl.Program{Nodes: keyed, Rules: []impl.Rule{rule(impl.WhenLine, -1, height+1)}}, height <= 20)
		}
	}
	leftward := []impl.Node{node(impl.ExFields, "")}
	for len(leftward) < 100 {
		leftward = append(leftward, node(impl.ExAdd, "", len(leftward)-1, 0))
	}
	leftward = append(leftward, node(impl.StBlock, ""))
	checkHasCode(t, impl.Program{Nodes: leftward, Rules: []impl.Rule{rule(impl.WhenLine, 99, 100)}}, true)
}

// Behind a `next` nothing is come to, so that no stack grows there.
func TestHeightsBehindNext(t *testing.T) {
	for _, height := range []int{20, 21, 30} {
		nodes := append(rightward(impl.ExAdd, height), node(impl.StPrint, "", height-1), node(impl.StNext, ""))
		rules := []impl.Rule{rule(impl.WhenLine, -1, height+2)}
		checkHasCode(t, impl.Program{Nodes: append(nodes, node(impl.StBlock, "", height+1, height)), Rules: rules}, true)
		checkHasCode(t, impl.Program{Nodes: append(nodes, node(impl.StBlock, "", height, height+1)), Rules: rules}, height <= 20)
	}
}

func TestCodeOfNodesThatDouble(t *testing.T) {
	inGoodTime(t, func() {
		for nodes := 2; nodes <= maxNodes; nodes++ {
			p := doubling(impl.StBlock, nodes)
			p.Rules = []impl.Rule{rule(impl.WhenLine, -1, nodes-1)}
			if ok := checkCompile(t, p); ok != (nodes <= 8) {
				t.Errorf("%d nodes that double: %v", nodes, ok)
			}
			p.Rules = slices.Repeat(p.Rules, 12)
			if ok := checkCompile(t, p); ok != (nodes <= 5) {
				t.Errorf("%d nodes that double, twelve times: %v", nodes, ok)
			}
		}
		for op := impl.ExAdd; op <= impl.ExSame; op++ {
			p := doubling(op, maxNodes-1)
			p.Nodes = append(p.Nodes, node(impl.StBlock, ""))
			for test := range maxNodes - 1 {
				p.Rules = []impl.Rule{rule(impl.WhenLine, test, maxNodes-1)}
				if ok := checkCompile(t, p); ok != (test <= 6) {
					t.Errorf("an If at %d: %v", test, ok)
				}
			}
		}
	})
}

func TestCodeOfChoicesThatDouble(t *testing.T) {
	inGoodTime(t, func() {
		p := impl.Program{Nodes: []impl.Node{node(impl.ExFields, ""), node(impl.StBlock, "")}}
		for len(p.Nodes) < maxNodes {
			last := len(p.Nodes)
			p.Nodes = append(p.Nodes, node(impl.StIf, "", 0, last-1, last-1), node(impl.StBlock, "", last))
		}
		for do := 1; do < maxNodes; do += 2 {
			p.Rules = []impl.Rule{rule(impl.WhenEnd, -1, do)}
			// Three for each choice: 3, 9, 21, 45, 93, 189, 381.
			if ok := checkCompile(t, p); ok != (do <= 13) {
				t.Errorf("choices that double up to %d: %v", do, ok)
			}
		}
	})
}

// Blocks without anything in them have no code, however often they are come to.
func TestEmptyBlocksThatDouble(t *testing.T) {
	inGoodTime(t, func() {
		p := impl.Program{Nodes: []impl.Node{node(impl.StBlock, ""), node(impl.StNext, ""), node(impl.ExLine, "")}}
		for len(p.Nodes) < maxNodes-3 {
			last := len(p.Nodes) - 1
			if last < 3 {
				last = 0
			}
			p.Nodes = append(p.Nodes, node(impl.StBlock, "", slices.Repeat([]int{last}, 20)...))
		}
		last := len(p.Nodes) - 1
		p.Nodes = append(p.Nodes, node(impl.StBlock, "", last, 1, last, last, 1), node(impl.StIf, "", 2, last, last), node(impl.StBlock, "", last+1, last+2, last+1))
		next := instr(impl.CoNext, 0)
		for _, c := range []struct {
			rules []impl.Rule
			list  []impl.Instr
		}{
			{slices.Repeat([]impl.Rule{rule(impl.WhenEnd, -1, last)}, 12), nil},
			{[]impl.Rule{rule(impl.WhenEnd, -1, last+1), rule(impl.WhenEnd, -1, last)}, []impl.Instr{next, next}},
			{[]impl.Rule{rule(impl.WhenEnd, -1, last+3)}, []impl.Instr{next, next, instr(impl.CoLine, 0), instr(impl.CoZero, 5), instr(impl.CoJump, 5), next, next}},
		} {
			p.Rules = c.rules
			want := impl.Code{List: c.list}
			if got, ok := impl.Compile(p); !ok || toldCode(got) != toldCode(want) {
				t.Errorf("Compile = %s, %v; want %s", toldCode(got), ok, toldCode(want))
			}
			checkCompile(t, p)
		}
	})
}

// Rows of nodes that are as wide and as deep as they may be, with code in the last kid alone, or in the first one alone.
func TestWideNodesOfLittleCode(t *testing.T) {
	inGoodTime(t, func() {
		for _, place := range []int{0, 10, 19} {
			p := impl.Program{Nodes: []impl.Node{node(impl.StBlock, ""), node(impl.StNext, "")}}
			for len(p.Nodes) < maxNodes {
				kids := slices.Repeat([]int{0}, 20)
				kids[place] = len(p.Nodes) - 1
				p.Nodes = append(p.Nodes, node(impl.StBlock, "", kids...))
			}
			p.Rules = slices.Repeat([]impl.Rule{rule(impl.WhenLine, -1, maxNodes-1)}, 12)
			if c, ok := impl.Compile(p); !ok || len(c.List) != 12 {
				t.Errorf("Compile = %s, %v", toldCode(c), ok)
			}
			checkCompile(t, p)
		}
	})
}

// ground has texts of every kind that an instruction may name: any text, a name, a pattern that is no name, and none of these.
func ground() []string {
	return []string{"x", "a|b", "", "(", "abcdefgh", "abcdefghi", "a1", strings.Repeat("~", 30), strings.Repeat("x", 24), strings.Repeat("x", 25), "NF", "/\n", " a", "é"}
}

// around puts an instruction behind as many texts as it takes, and takes away what it leaves.
func around(in impl.Instr) []impl.Instr {
	takes := opForms[in.Op].takes
	if in.Op == impl.CoPrint {
		takes = max(0, min(in.Arg, 6))
	}
	list := append(slices.Repeat([]impl.Instr{instr(impl.CoLine, 0)}, takes), in)
	return append(list, slices.Repeat([]impl.Instr{instr(impl.CoPrint, 1)}, opForms[in.Op].puts)...)
}

func TestOpsOfCode(t *testing.T) {
	for _, op := range []int{math.MinInt, -257, -2, -1, 0, 1, 2, 23, 24, 25, 26, 255, 256, 257, 256 + impl.CoNext, math.MaxInt} {
		isOne := op >= 1 && op <= 24
		checkCode(t, impl.Code{Texts: []string{"x"}, List: around(instr(op, 0))}, isOne)
		// An Op that is none is none also where nothing comes to.
		list := []impl.Instr{instr(impl.CoNext, 0), instr(op, 0), instr(impl.CoNext, 0)}
		checkCode(t, impl.Code{Texts: []string{"x"}, List: list}, isOne)
	}
	checkCode(t, impl.Code{List: []impl.Instr{{}}}, false)
	for op := impl.CoText; op <= impl.CoDump; op++ {
		right := 0
		for arg := -2; arg < 300; arg++ {
			c := impl.Code{Texts: ground(), List: around(instr(op, arg))}
			ok := plainCodeOk(c)
			checkCode(t, c, ok)
			if ok {
				right++
			}
			c.Texts = nil
			checkCode(t, c, ok && !slices.Contains([]int{argText, argName, argPattern}, opForms[op].arg))
		}
		want := map[int]int{argNone: 1, argText: 14, argName: 3, argPattern: 10, argCount: 4, argPlace: 1}[opForms[op].arg]
		if right != want {
			t.Errorf("Op %d is right with %d Args; want %d", op, right, want)
		}
	}
}

func TestArgsByHand(t *testing.T) {
	for _, c := range []struct {
		in   impl.Instr
		want bool
	}{
		{instr(impl.CoText, -1), false}, {instr(impl.CoText, 0), true}, {instr(impl.CoText, 13), true}, {instr(impl.CoText, 14), false},
		{instr(impl.CoText, 255), false}, {instr(impl.CoText, 256), false}, {instr(impl.CoName, 0), true}, {instr(impl.CoName, 1), false},
		{instr(impl.CoName, 2), false}, {instr(impl.CoName, 4), true}, {instr(impl.CoName, 5), false}, {instr(impl.CoName, 6), false},
		{instr(impl.CoName, 10), true}, {instr(impl.CoDump, 10), true}, {instr(impl.CoDump, 12), false}, {instr(impl.CoDump, 13), false},
		{instr(impl.CoHas, 0), true}, {instr(impl.CoHas, 1), true}, {instr(impl.CoHas, 2), false}, {instr(impl.CoHas, 3), false},
		{instr(impl.CoHas, 7), false}, {instr(impl.CoHas, 8), true}, {instr(impl.CoHas, 9), false}, {instr(impl.CoHas, 11), true},
		{instr(impl.CoHas, 14), false}, {instr(impl.CoPrint, 0), false}, {instr(impl.CoPrint, 1), true}, {instr(impl.CoPrint, 4), true},
		{instr(impl.CoPrint, 5), false}, {instr(impl.CoPrint, -1), false}, {instr(impl.CoPrint, 257), false}, {instr(impl.CoNext, 1), false},
		{instr(impl.CoNext, -1), false}, {instr(impl.CoNext, 255), false}, {instr(impl.CoNext, 256), false}, {instr(impl.CoField, 1), false},
		{instr(impl.CoFields, 1), false}, {instr(impl.CoLine, 1), false}, {instr(impl.CoLong, 1), false}, {instr(impl.CoAdd, 1), false},
		{instr(impl.CoSub, 1), false}, {instr(impl.CoMul, 1), false}, {instr(impl.CoMod, 1), false}, {instr(impl.CoJoin, 1), false},
		{instr(impl.CoLess, 1), false}, {instr(impl.CoSame, 1), false}, {instr(impl.CoSame, 0), true}, {instr(impl.CoAddCell, 0), true},
		{instr(impl.CoSet, 2), false}, {instr(impl.CoAddTo, 6), false}, {instr(impl.CoSetCell, 5), false}, {instr(impl.CoAddCell, 3), false},
		{instr(impl.CoCell, 2), false}, {instr(impl.CoCell, 4), true}, {instr(impl.CoText, math.MaxInt), false}, {instr(impl.CoText, math.MinInt), false},
	} {
		checkCode(t, impl.Code{Texts: ground(), List: around(c.in)}, c.want)
	}
}

func TestTextsOfCode(t *testing.T) {
	for _, count := range []int{0, 1, 59, 60, 61, 62, 255, 256, 1000} {
		checkCode(t, impl.Code{Texts: slices.Repeat([]string{"x"}, count)}, count <= 60)
		list := []impl.Instr{instr(impl.CoDump, max(0, count-1))}
		checkCode(t, impl.Code{Texts: slices.Repeat([]string{"x"}, count), List: list, Line: 1, End: 1}, count >= 1 && count <= 60)
	}
	for _, size := range []int{0, 1, 29, 30, 31, 127, 128, impl.MaxText, impl.MaxText + 1} {
		long := strings.Repeat("\xff", size)
		checkCode(t, impl.Code{Texts: []string{long}}, size <= 30)
		// Also of a text that nothing names, wherever it stands.
		checkCode(t, impl.Code{Texts: []string{"x", long, "x"}, List: []impl.Instr{instr(impl.CoDump, 2)}}, size <= 30)
		checkCode(t, impl.Code{Texts: append(slices.Repeat([]string{""}, 59), long)}, size <= 30)
	}
	// Texts may be alike, may be needed by nothing, and may have every byte.
	checkCode(t, impl.Code{Texts: []string{"", "", "\n\"/", "\x00"}}, true)
}

func TestNamesOfCode(t *testing.T) {
	names := map[string]bool{
		"": false, "a": true, "Z": true, "abcdefgh": true, "ABCDEFGH": true, "abcdefghi": false, "a1": false, "1": false, "1a": false, "a b": false,
		"a_": false, "ä": false, "\xff": false, "a\n": false, "\n": false, "[": false, "`": false, "{": false, "@": false,
	}
	for _, word := range wordsNoNames {
		// Words are no names of a program, but they are letters.
		names[word] = true
	}
	for op := impl.CoText; op <= impl.CoDump; op++ {
		if opForms[op].arg == argName {
			for name, want := range names {
				checkCode(t, impl.Code{Texts: []string{name}, List: around(instr(op, 0))}, want)
				checkCode(t, impl.Code{Texts: []string{"x", name}, List: around(instr(op, 1))}, want)
				checkCode(t, impl.Code{Texts: []string{"x", name}, List: around(instr(op, 0))}, true)
			}
		}
	}
}

func TestPatternsOfCode(t *testing.T) {
	for pattern, want := range map[string]bool{
		"": false, "a": true, "a/b": true, "\n": true, "*": false, "a*": true, "(a": false, "[]": false, "a|": true, strings.Repeat("a", 24): true, strings.Repeat("a", 25): false,
	} {
		checkCode(t, impl.Code{Texts: []string{pattern}, List: around(instr(impl.CoHas, 0))}, want)
		checkCode(t, impl.Code{Texts: []string{pattern}, List: around(instr(impl.CoText, 0))}, true)
	}
}

func TestNumberOfInstructionsOfCode(t *testing.T) {
	for _, count := range []int{0, 1, 249, 250, 251, 252, 255, 256, 257, 1000} {
		list := slices.Repeat([]impl.Instr{instr(impl.CoNext, 0)}, count)
		for _, ends := range [][2]int{{0, 0}, {0, count}, {count, count}, {count / 2, count}, {count / 3, count / 2}} {
			checkCode(t, impl.Code{List: list, Line: ends[0], End: ends[1]}, count <= 250)
		}
	}
}

func TestBeginLineAndEnd(t *testing.T) {
	for size := range 4 {
		list := slices.Repeat([]impl.Instr{instr(impl.CoNext, 0)}, size)
		for begin := -2; begin <= size+2; begin++ {
			for line := -2; line <= size+2; line++ {
				for end := -2; end <= size+2; end++ {
					checkCode(t, impl.Code{List: list, Begin: begin, Line: line, End: end}, begin == 0 && line >= 0 && line <= end && end <= size)
				}
			}
		}
	}
	far := []int{math.MinInt, -256, -1, 0, 1, 2, 256, impl.MaxNumber + 1, math.MaxInt}
	for _, begin := range far {
		for _, line := range far {
			for _, end := range far {
				c := impl.Code{List: []impl.Instr{instr(impl.CoNext, 0)}, Begin: begin, Line: line, End: end}
				checkCode(t, c, begin == 0 && (line == 0 || line == 1) && (end == 1 || end == line))
			}
		}
	}
	checkCode(t, impl.Code{Line: 1}, false)
	checkCode(t, impl.Code{End: 1}, false)
	checkCode(t, impl.Code{Begin: 1}, false)
	checkCode(t, impl.Code{Line: -1}, false)
}

func TestWhereJumpsLeadTo(t *testing.T) {
	const size = 6
	for line := 0; line <= size; line++ {
		for end := line; end <= size; end++ {
			for place := range size {
				for target := -1; target <= size+2; target++ {
					partEnd := size
					if place < line {
						partEnd = line
					} else if place < end {
						partEnd = end
					}
					list := slices.Repeat([]impl.Instr{instr(impl.CoNext, 0)}, size)
					list[place] = instr(impl.CoJump, target)
					c := impl.Code{List: list, Line: line, End: end}
					checkCode(t, c, target > place && target <= partEnd)
					if place != line && place != end && place > 0 {
						list[place-1] = instr(impl.CoFields, 0)
						list[place] = instr(impl.CoZero, target)
						checkCode(t, c, target > place && target <= partEnd)
					}
				}
			}
		}
	}
	// Of a list as long as it may be.
	list := slices.Repeat([]impl.Instr{instr(impl.CoNext, 0)}, 250)
	for _, target := range []int{0, 1, 249, 250, 251, 255, 256, 257} {
		list[0] = instr(impl.CoJump, target)
		checkCode(t, impl.Code{List: list, End: 250}, target >= 1 && target <= 250)
		checkCode(t, impl.Code{List: list}, target >= 1 && target <= 250)
		checkCode(t, impl.Code{List: list, End: 249}, target >= 1 && target <= 249)
	}
}

func TestStacksThatAreTooLow(t *testing.T) {
	for op := impl.CoText; op <= impl.CoDump; op++ {
		for arg := 1; arg <= 4; arg++ {
			in := instr(op, 0)
			if op == impl.CoPrint {
				in.Arg = arg
			}
			list := around(in)
			takes := slices.Index(list, in)
			if op == impl.CoLine {
				takes = 0
			}
			if op == impl.CoZero || op == impl.CoJump {
				list[takes].Arg = takes + 1
			}
			checkCode(t, impl.Code{Texts: []string{"x"}, List: list}, true)
			for less := 1; less <= takes; less++ {
				short := slices.Clone(list[less:])
				if op == impl.CoZero {
					short[takes-less].Arg = takes - less + 1
				}
				checkCode(t, impl.Code{Texts: []string{"x"}, List: short}, false)
			}
		}
	}
}

func TestHeightsOfCode(t *testing.T) {
	text, add, printed := instr(impl.CoFields, 0), instr(impl.CoAdd, 0), instr(impl.CoPrint, 1)
	for height := 1; height < 40; height++ {
		list := slices.Concat(slices.Repeat([]impl.Instr{text}, height), slices.Repeat([]impl.Instr{add}, height-1), []impl.Instr{printed})
		for _, ends := range [][2]int{{0, 0}, {0, len(list)}, {len(list), len(list)}} {
			checkCode(t, impl.Code{List: list, Line: ends[0], End: ends[1]}, height <= 20)
			checkCode(t, impl.Code{List: list[:len(list)-1], Line: min(ends[0], len(list)-1), End: min(ends[1], len(list)-1)}, false)
		}
		// Each part has a stack of its own.
		for cut := 1; cut < len(list); cut++ {
			checkCode(t, impl.Code{List: list, Line: cut, End: len(list)}, false)
			checkCode(t, impl.Code{List: list, Line: cut, End: cut}, false)
			checkCode(t, impl.Code{List: list, End: cut}, false)
		}
		three := slices.Concat(list, list, list)
		checkCode(t, impl.Code{List: three, Line: len(list), End: 2 * len(list)}, height <= 20)
	}
}

func TestStacksThatAreNotEmptyAtTheEnd(t *testing.T) {
	text, printed, next := instr(impl.CoLine, 0), instr(impl.CoPrint, 1), instr(impl.CoNext, 0)
	zero, jump := func(to int) impl.Instr { return instr(impl.CoZero, to) }, func(to int) impl.Instr { return instr(impl.CoJump, to) }
	for _, c := range []struct {
		list []impl.Instr
		want bool
	}{
		{[]impl.Instr{text}, false}, {[]impl.Instr{text, text, printed}, false}, {[]impl.Instr{text, printed}, true},
		{[]impl.Instr{text, jump(2)}, false}, {[]impl.Instr{text, text, zero(3)}, false}, {[]impl.Instr{text, zero(2)}, true},
		{[]impl.Instr{text, text, zero(4), printed}, false}, {[]impl.Instr{text, jump(3), printed}, false}, {[]impl.Instr{text, jump(2), printed}, true},
		// CoNext ends it, so that its stack never comes to the end of the part.
		{[]impl.Instr{text, next}, true}, {[]impl.Instr{text, text, text, next}, true}, {[]impl.Instr{text, text, zero(4), next, next}, true},
		{[]impl.Instr{text, text, zero(4), next}, false}, {[]impl.Instr{text, text, zero(4), next, printed}, true},
	} {
		size := len(c.list)
		for _, ends := range [][2]int{{0, 0}, {0, size}, {size, size}} {
			checkCode(t, impl.Code{List: c.list, Line: ends[0], End: ends[1]}, c.want)
		}
	}
	full := slices.Repeat([]impl.Instr{text}, 20)
	checkCode(t, impl.Code{List: append(slices.Clone(full), next)}, true)
	checkCode(t, impl.Code{List: append(slices.Clone(full), text, next)}, false)
}

func TestStacksOfTwoHeights(t *testing.T) {
	text, printed, next := instr(impl.CoLine, 0), instr(impl.CoPrint, 1), instr(impl.CoNext, 0)
	zero, jump := func(to int) impl.Instr { return instr(impl.CoZero, to) }, func(to int) impl.Instr { return instr(impl.CoJump, to) }
	for _, c := range []struct {
		list []impl.Instr
		want bool
	}{
		{[]impl.Instr{text, zero(3), text, next}, false},
		{[]impl.Instr{text, zero(3), text, printed}, false},
		{[]impl.Instr{text, zero(4), text, printed, next}, true},
		{[]impl.Instr{text, zero(4), text, jump(5), text, printed}, true},
		{[]impl.Instr{text, zero(4), text, jump(6), text, printed}, false},
		{[]impl.Instr{text, zero(5), text, text, jump(6), text, printed}, false},
		{[]impl.Instr{text, text, zero(5), text, jump(6), text, instr(impl.CoPrint, 2)}, true},
		{[]impl.Instr{text, text, zero(5), printed, jump(6), text, printed}, false},
		{[]impl.Instr{text, text, zero(4), printed, next}, false},
		// Several come to one place from three sides.
		{[]impl.Instr{text, zero(6), text, zero(6), text, zero(6), next}, true},
		{[]impl.Instr{text, text, zero(5), text, zero(6), text, printed}, false},
	} {
		size := len(c.list)
		for _, ends := range [][2]int{{0, 0}, {0, size}, {size, size}} {
			checkCode(t, impl.Code{List: c.list, Line: ends[0], End: ends[1]}, c.want)
		}
	}
}

// What nothing comes to may do with the stack what it likes; all else is asked of it, too.
func TestInstructionsThatNothingComesTo(t *testing.T) {
	text, printed, next, add := instr(impl.CoLine, 0), instr(impl.CoPrint, 1), instr(impl.CoNext, 0), instr(impl.CoAdd, 0)
	jump := func(to int) impl.Instr { return instr(impl.CoJump, to) }
	for _, c := range []struct {
		list []impl.Instr
		want bool
	}{
		{[]impl.Instr{next, add}, true}, {[]impl.Instr{next, text}, true}, {[]impl.Instr{next, printed, printed}, true},
		{[]impl.Instr{next, instr(impl.CoZero, 3), jump(3)}, true}, {[]impl.Instr{jump(2), add}, true}, {[]impl.Instr{jump(2), add, text}, false},
		{[]impl.Instr{jump(2), add, text, printed}, true}, {[]impl.Instr{next, jump(3), text, add}, true},
		{append([]impl.Instr{next}, slices.Repeat([]impl.Instr{text}, 21)...), true}, {append([]impl.Instr{jump(22)}, slices.Repeat([]impl.Instr{text}, 21)...), true},
		// Heights of what nothing comes to are not held against others.
		{[]impl.Instr{text, instr(impl.CoZero, 5), next, text, text, next}, true}, {[]impl.Instr{jump(3), text, text, next}, true},
		{[]impl.Instr{next, instr(0, 0)}, false}, {[]impl.Instr{next, instr(impl.CoNext, 1)}, false}, {[]impl.Instr{next, instr(impl.CoText, 0)}, false},
		{[]impl.Instr{next, instr(impl.CoPrint, 5)}, false}, {[]impl.Instr{next, jump(1)}, false}, {[]impl.Instr{next, jump(3)}, false}, {[]impl.Instr{next, instr(impl.CoZero, 0)}, false},
	} {
		size := len(c.list)
		for _, ends := range [][2]int{{0, 0}, {0, size}, {size, size}} {
			checkCode(t, impl.Code{List: c.list, Line: ends[0], End: ends[1]}, c.want)
		}
	}
}

// Parts may be empty: Line and End at 0, at the end of the list, and at one another.
func TestCodeWhosePartsAreEmpty(t *testing.T) {
	for _, s := range []string{"{ next }", "BEGIN { dump x } END { next }", "x { print 1 } END { print 2 }", "{ if (x) next else dump x }"} {
		c := mustCompile(t, s)
		for line := -1; line <= len(c.List)+1; line++ {
			for end := -1; end <= len(c.List)+1; end++ {
				c.Line, c.End = line, end
				checkCode(t, c, plainCodeOk(c))
			}
		}
		c.Line, c.End = 0, 0
		checkCode(t, c, true)
		c.Line, c.End = 0, len(c.List)
		checkCode(t, c, true)
		c.Line, c.End = len(c.List), len(c.List)
		checkCode(t, c, true)
	}
}

// allLists calls with every list of up to so many of these instructions.
func allLists(most int, of []impl.Instr, call func(list []impl.Instr)) {
	list := make([]impl.Instr, 0, most)
	var grow func()
	grow = func() {
		call(list)
		if len(list) < most {
			for _, in := range of {
				list = append(list, in)
				grow()
				list = list[:len(list)-1]
			}
		}
	}
	grow()
}

func TestAllShortCodes(t *testing.T) {
	all := []impl.Instr{}
	for op := 0; op <= impl.CoDump+1; op++ {
		for arg := range 4 {
			all = append(all, instr(op, arg))
		}
	}
	some := []impl.Instr{
		instr(impl.CoText, 0), instr(impl.CoLong, 0), instr(impl.CoAdd, 0), instr(impl.CoPrint, 1), instr(impl.CoPrint, 2), instr(impl.CoNext, 0),
		instr(impl.CoZero, 2), instr(impl.CoZero, 3), instr(impl.CoZero, 4), instr(impl.CoJump, 2), instr(impl.CoJump, 3), instr(impl.CoJump, 4),
	}
	right, wrong := 0, 0
	try := func(list []impl.Instr) {
		for line := 0; line <= len(list); line++ {
			for end := line; end <= len(list); end++ {
				c := impl.Code{Texts: []string{"x", "1", "|"}, List: list, Line: line, End: end}
				want := plainCodeOk(c)
				if impl.CodeOk(c) != want {
					t.Fatalf("CodeOk is %v of %s", !want, toldCode(c))
				}
				if want {
					right++
				} else {
					wrong++
				}
			}
		}
	}
	allLists(2, all, try)
	allLists(4, some, try)
	if right < 3000 || wrong < 3000 {
		t.Errorf("%d are right, %d are not", right, wrong)
	}
}

// turnedCode is a code in which one thing is another one.
func turnedCode(r *rand.Rand, c impl.Code) impl.Code {
	c = copyOfCode(c)
	place := 0
	if len(c.List) > 0 {
		place = r.IntN(len(c.List))
	}
	switch kind := r.IntN(8); {
	case kind == 0:
		c.Line += oneOf(r, -1, 1)
	case kind == 1:
		c.End += oneOf(r, -1, 1)
	case kind == 2:
		c.Texts = append(c.Texts, oneOf(r, "", "x", "a1", strings.Repeat("x", 31)))
	case kind == 3 && len(c.Texts) > 0:
		c.Texts[r.IntN(len(c.Texts))] = oneOf(r, "", "x", "yy", "1", "a|b", "(", "abcdefghi", strings.Repeat("x", 30), strings.Repeat("x", 31))
	case kind == 4:
		c.List = slices.Insert(c.List, place, instr(1+r.IntN(24), oneOf(r, 0, 0, 1, place, place+1, place+2, len(c.List))))
	case len(c.List) == 0:
		c.Begin = oneOf(r, -1, 1)
	case kind == 5:
		c.List = slices.Delete(c.List, place, place+1)
	case kind == 6:
		c.List[place].Op = r.IntN(26)
	default:
		c.List[place].Arg += oneOf(r, -1, 1, 2, -c.List[place].Arg)
	}
	return c
}

func TestTurnedCodes(t *testing.T) {
	right, wrong := 0, 0
	for k := range uint64(30000) {
		r := rand.New(rand.NewPCG(72, k))
		d := &drafter{r, 5 + int(k%25)}
		p, _ := impl.ReadProgram(d.program())
		c, _ := impl.Compile(p)
		for range 1 + r.IntN(3) {
			c = turnedCode(r, c)
		}
		want := plainCodeOk(c)
		checkCode(t, c, want)
		if want {
			right++
		} else {
			wrong++
			// The form of a code that is not right is no text of one.
			if c.Begin == 0 && c.Line >= 0 && c.End >= 0 && checkText(t, plainCodeText(c)) && !slices.ContainsFunc(c.List, func(in impl.Instr) bool { return in.Arg < 0 || in.Arg > 255 }) {
				t.Fatalf("%s comes back", toldCode(c))
			}
		}
	}
	if right < 2000 || wrong < 3000 {
		t.Errorf("%d are right, %d are not", right, wrong)
	}
}

func TestCodeTextByHand(t *testing.T) {
	for _, c := range []struct {
		s    string
		want string
	}{
		{"", "\x00\x00\x00\x00"},
		{"BEGIN { next }", "\x00\x01\x17\x00\x01\x01"},
		{"{ next }", "\x00\x01\x17\x00\x00\x01"},
		{"END { next }", "\x00\x01\x17\x00\x00\x00"},
		{"{ if (NF) print 1 else next }", "\x01\x011\x06\x05\x00\x15\x05\x01\x00\x10\x01\x16\x06\x17\x00\x00\x06"},
		{"BEGIN { ab = \"\" } END { dump ab }", "\x02\x00\x02ab\x03\x01\x00\x11\x01\x18\x01\x02\x02"},
	} {
		if s, ok := impl.CodeText(mustCompile(t, c.s)); !ok || s != c.want {
			t.Errorf("CodeText of %q = %q, %v; want %q", c.s, s, ok, c.want)
		}
		if back, ok := impl.ReadCode(c.want); !ok || toldCode(back) != toldCode(mustCompile(t, c.s)) {
			t.Errorf("ReadCode(%q) = %s, %v", c.want, toldCode(back), ok)
		}
	}
	// Numbers of two bytes.
	c, _ := impl.Compile(nexts(250, impl.WhenBegin, false))
	if s, ok := impl.CodeText(c); !ok || s != "\x00\xfa\x01"+strings.Repeat("\x17\x00", 250)+"\xfa\x01\xfa\x01" {
		t.Errorf("CodeText of the longest = %q, %v", s, ok)
	}
}

func checkNoText(t *testing.T, s string) {
	t.Helper()
	if c, ok := impl.ReadCode(s); ok || toldCode(c) != toldCode(impl.Code{}) {
		t.Fatalf("ReadCode(%q) = %s, %v; want none", s, toldCode(c), ok)
	}
}

// someCodeTexts are the forms of the codes of ordinary programs, and of the longest ones.
func someCodeTexts(t *testing.T) []string {
	t.Helper()
	texts := []string{}
	for _, s := range programTexts() {
		s, _ := impl.CodeText(mustCompile(t, s))
		texts = append(texts, s)
	}
	for _, count := range []int{127, 128, 250} {
		c, _ := impl.Compile(nexts(count, impl.WhenBegin, false))
		s, _ := impl.CodeText(c)
		texts = append(texts, s)
	}
	return texts
}

func TestTextsThatAreCutShortOrTooLong(t *testing.T) {
	checkNoText(t, "")
	for _, s := range someCodeTexts(t) {
		if !checkText(t, s) {
			t.Fatalf("%q does not come back", s)
		}
		for size := range len(s) {
			checkNoText(t, s[:size])
		}
		for b := range 256 {
			checkNoText(t, s+string([]byte{byte(b)}))
			checkText(t, string([]byte{byte(b)})+s)
		}
		checkNoText(t, s+s)
		for place := range len(s) {
			checkText(t, s[:place]+s[place+1:])
			checkText(t, s[:place]+s[place:place+1]+s[place:])
		}
	}
}

func TestTextsWithOneByteTurned(t *testing.T) {
	right, wrong := 0, 0
	for _, s := range someCodeTexts(t) {
		for place := range len(s) {
			for b := range 256 {
				if checkText(t, s[:place]+string([]byte{byte(b)})+s[place+1:]) {
					right++
				} else {
					wrong++
				}
			}
		}
	}
	if right < 3000 || wrong < 3000 {
		t.Errorf("%d are codes, %d are none", right, wrong)
	}
}

// longer writes a number with more bytes than it needs.
func longer(n int, more int) string {
	out := binary.AppendUvarint(nil, uint64(n))
	for range more {
		out[len(out)-1] |= 128
		out = append(out, 0)
	}
	return string(out)
}

func TestNumbersThatAreWrittenLonger(t *testing.T) {
	whole := func(texts, text, instrs, line, end int) string {
		return longer(1, texts) + longer(1, text) + "x" + longer(2, instrs) + "\x18\x00\x17\x00" + longer(1, line) + longer(2, end)
	}
	if !checkText(t, whole(0, 0, 0, 0, 0)) {
		t.Fatal("it does not come back")
	}
	for more := 1; more <= 9; more++ {
		checkNoText(t, whole(more, 0, 0, 0, 0))
		checkNoText(t, whole(0, more, 0, 0, 0))
		checkNoText(t, whole(0, 0, more, 0, 0))
		checkNoText(t, whole(0, 0, 0, more, 0))
		checkNoText(t, whole(0, 0, 0, 0, more))
		checkNoText(t, whole(more, more, more, more, more))
	}
	// Counts that are far above what there is.
	for _, count := range []int{60, 61, 250, 251, 20000, impl.MaxNumber, impl.MaxNumber + 1, 1 << 40} {
		checkNoText(t, longer(count, 0))
		checkNoText(t, longer(count, 0)+"\x00\x00\x00")
		checkNoText(t, "\x00"+longer(count, 0)+"\x00\x00")
		checkNoText(t, "\x00\x00"+longer(count, 0)+"\x00")
		checkNoText(t, "\x00\x00\x00"+longer(count, 0))
		checkNoText(t, "\x01"+longer(count, 0)+"x\x00\x00\x00")
	}
	inGoodTime(t, func() {
		checkNoText(t, longer(impl.MaxNumber, 0)+strings.Repeat("\x00", 1<<20))
		checkNoText(t, "\x00"+longer(impl.MaxNumber, 0)+strings.Repeat("\x17\x00", 1<<20))
	})
}

func TestTextsOfCodesThatAreNotRight(t *testing.T) {
	next := instr(impl.CoNext, 0)
	for _, c := range []impl.Code{
		{Texts: slices.Repeat([]string{""}, 61)},
		{Texts: []string{strings.Repeat("x", 31)}},
		{List: slices.Repeat([]impl.Instr{next}, 251)},
		{List: []impl.Instr{next}, Line: 1},
		{List: []impl.Instr{next}, End: 2},
		{List: []impl.Instr{next}, Line: 2, End: 2},
		{List: []impl.Instr{instr(0, 0)}},
		{List: []impl.Instr{instr(25, 0)}},
		{List: []impl.Instr{instr(impl.CoNext, 1)}},
		{List: []impl.Instr{instr(impl.CoLine, 0)}},
		{List: []impl.Instr{instr(impl.CoText, 0), instr(impl.CoPrint, 1)}},
		{List: []impl.Instr{instr(impl.CoJump, 0)}},
		{List: []impl.Instr{instr(impl.CoJump, 2)}},
		{Texts: []string{"a1"}, List: []impl.Instr{instr(impl.CoDump, 0)}},
		{Texts: []string{"("}, List: []impl.Instr{instr(impl.CoLine, 0), instr(impl.CoHas, 0), instr(impl.CoPrint, 1)}},
	} {
		checkCode(t, c, false)
		checkNoText(t, plainCodeText(c))
	}
	// At the limits it does come back.
	for _, c := range []impl.Code{
		{Texts: slices.Repeat([]string{strings.Repeat("x", 30)}, 60), List: slices.Repeat([]impl.Instr{next}, 250), Line: 249, End: 250},
		{List: slices.Repeat([]impl.Instr{next}, 250), Line: 127, End: 128},
	} {
		checkCode(t, c, true)
	}
}

func TestAllShortCodeTexts(t *testing.T) {
	codes := 0
	texts := []string{""}
	for from, most := 0, 7; from < len(texts); from++ {
		if checkText(t, texts[from]) {
			codes++
		}
		if len(texts[from]) < most {
			for _, b := range []string{"\x00", "\x01", "\x02", "\x16", "\x17", "\x80", "a"} {
				texts = append(texts, texts[from]+b)
			}
		}
	}
	if codes < 10 {
		t.Errorf("only %d are codes", codes)
	}
	for first := range 256 {
		for second := range 256 {
			checkText(t, string([]byte{byte(first), byte(second)}))
			checkText(t, string([]byte{0, 1, byte(first), byte(second), 0, 1}))
			checkText(t, string([]byte{0, 1, impl.CoNext, 0, byte(first), byte(second)}))
			checkText(t, string([]byte{1, 1, 'x', 2, impl.CoName, 0, byte(first), byte(second), 0, 0}))
		}
	}
}

func TestDrawnCodeTexts(t *testing.T) {
	forms := someCodeTexts(t)
	for k := range uint64(20000) {
		r := rand.New(rand.NewPCG(73, k))
		s := []byte(oneOf(r, forms...))
		for range 1 + r.IntN(3) {
			place := r.IntN(len(s))
			switch r.IntN(4) {
			case 0:
				s[place] ^= 1 << r.IntN(8)
			case 1:
				s = slices.Insert(s, place, byte(r.IntN(26)))
			case 2:
				s = append(slices.Delete(s, place, place+1), byte(r.IntN(26)))
			default:
				s[place] = byte(oneOf(r, 0, 1, 2, 127, 128, 255))
			}
		}
		checkText(t, string(s))
	}
}

func TestCodesOfNilAndEmptyLists(t *testing.T) {
	for _, c := range []impl.Code{
		{}, {Texts: []string{}}, {List: []impl.Instr{}}, {Texts: make([]string, 0, 5), List: make([]impl.Instr, 0, 5)},
	} {
		checkCode(t, c, true)
		if s, ok := impl.CodeText(c); !ok || s != "\x00\x00\x00\x00" {
			t.Errorf("CodeText(%#v) = %q, %v", c, s, ok)
		}
	}
	for _, p := range []impl.Program{
		{}, {Nodes: []impl.Node{}}, {Rules: []impl.Rule{}},
		{Nodes: []impl.Node{{Op: impl.StBlock, Kids: []int{}}}, Rules: []impl.Rule{rule(impl.WhenLine, -1, 0)}},
		{Nodes: []impl.Node{{Op: impl.StBlock}}, Rules: []impl.Rule{rule(impl.WhenLine, -1, 0)}},
	} {
		if c, ok := impl.Compile(p); !ok || toldCode(c) != toldCode(impl.Code{}) {
			t.Errorf("Compile(%#v) = %s, %v", p, toldCode(c), ok)
		}
	}
}

func TestWhatIsCompiledStaysAsItIs(t *testing.T) {
	for _, s := range programTexts() {
		p := roomy(mustReadProgram(t, s))
		was := toldProgram(p)
		c, _ := impl.Compile(p)
		told := toldCode(c)
		wrong := roomy(p)
		wrong.Rules = wrong.Rules[:len(p.Rules)+1]
		checkNoCode(t, wrong)
		if toldProgram(p) != was {
			t.Fatalf("%q is not as it was", s)
		}
		checkRoom(t, p)
		for _, text := range c.Texts {
			for _, node := range p.Nodes {
				if sharesMemory(node.Text, text) {
					t.Fatalf("the code of %q shares memory with its program: %q", s, text)
				}
			}
		}
		// What is written into one answer, or into its spare room, is not seen in another one.
		other, _ := impl.Compile(p)
		for i := range other.List[:cap(other.List)] {
			other.List[:cap(other.List)][i] = instr(-7, -7)
		}
		for i := range other.Texts[:cap(other.Texts)] {
			other.Texts[:cap(other.Texts)][i] = "other"
		}
		again, _ := impl.Compile(p)
		if toldCode(c) != told || toldCode(again) != told {
			t.Fatalf("an answer of %q hangs on one that was written into", s)
		}
	}
}

func TestCodesStayAsTheyAre(t *testing.T) {
	for _, s := range programTexts() {
		c := mustCompile(t, s)
		c.Texts = append(c.Texts, "spare")[:len(c.Texts)]
		c.List = append(c.List, instr(-5, -5))[:len(c.List)]
		told := toldCode(c)
		first, _ := impl.CodeText(c)
		impl.CodeOk(c)
		wrong := c
		wrong.List = c.List[:len(c.List)+1]
		checkCode(t, wrong, false)
		second, _ := impl.CodeText(c)
		if toldCode(c) != told || first != second {
			t.Fatalf("%s is not as it was", told)
		}
		if c.Texts[:len(c.Texts)+1][len(c.Texts)] != "spare" || c.List[:len(c.List)+1][len(c.List)] != instr(-5, -5) {
			t.Fatal("something was written into the spare room behind a list")
		}
		for _, text := range c.Texts {
			if sharesMemory(first, text) {
				t.Fatal("the text of a code shares memory with it")
			}
		}
	}
}

func TestCodesThatAreReadAreNew(t *testing.T) {
	for _, s := range someCodeTexts(t) {
		s = strings.Clone(s)
		c, _ := impl.ReadCode(s)
		told := toldCode(c)
		for _, text := range c.Texts {
			if sharesMemory(s, text) {
				t.Fatalf("ReadCode(%q) hands out its argument's memory: %q", s, text)
			}
		}
		for i := range c.List[:cap(c.List)] {
			c.List[:cap(c.List)][i] = instr(-7, -7)
		}
		for i := range c.Texts[:cap(c.Texts)] {
			c.Texts[:cap(c.Texts)][i] = "other"
		}
		if again, ok := impl.ReadCode(s); !ok || toldCode(again) != told {
			t.Fatalf("an answer of %q hangs on one that was written into", s)
		}
	}
}

func TestCodesDoNotHangOnEarlierOnes(t *testing.T) {
	p := mustReadProgram(t, "x { print 1 }")
	first := fmt.Sprint(impl.Compile(p))
	form, _ := impl.CodeText(mustCompile(t, "x { print 1 }"))
	read := fmt.Sprint(impl.ReadCode(form))
	for _, s := range someCodeTexts(t) {
		impl.ReadCode(s)
		impl.ReadCode(s + "x")
		impl.Compile(nexts(251, impl.WhenLine, true))
		if fmt.Sprint(impl.Compile(p)) != first || fmt.Sprint(impl.ReadCode(form)) != read {
			t.Fatalf("behind %q it is another one", s)
		}
	}
}
