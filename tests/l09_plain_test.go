package tests

import (
	"math"
	"math/rand/v2"
	"regexp"
	"slices"
	"strconv"
	"strings"

	"loop.example/g00237/impl"
)

// What chapter 9 answers, told in another way than the program goes: each sentence makes its answer of what the parts answer, and whoever asks says who answers for the parts: the program, or these sentences once more.

// answers tells what an expression tells, and what a statement makes of a store.
type answers interface {
	tell(place int, s impl.Store) string
	do(place int, s impl.Store) (impl.Store, bool)
}

// byProgram lets the program answer.
type byProgram struct {
	p  impl.Program
	in impl.Input
}

func (b byProgram) tell(place int, s impl.Store) string {
	return impl.Eval(b.p, place, s, b.in)
}

func (b byProgram) do(place int, s impl.Store) (impl.Store, bool) {
	return impl.Exec(b.p, place, s, b.in)
}

// bySentences lets the sentences answer, down to the last part.
type bySentences struct {
	p  impl.Program
	in impl.Input
}

func (b bySentences) tell(place int, s impl.Store) string {
	return plainTell(b.p.Nodes[place], s, b.in, b)
}

func (b bySentences) do(place int, s impl.Store) (impl.Store, bool) {
	return plainDo(b.p.Nodes[place], s, b.in, b)
}

// plainNum takes the last six of the figures, as the others go round.
func plainNum(s string) int {
	found := figures.FindStringSubmatch(s)
	if found == nil {
		return 0
	}
	row := found[1]
	n, _ := strconv.Atoi(row[max(0, len(row)-6):])
	return n
}

func plainNumText(n int) string {
	n %= 1000000
	if n < 0 {
		n += 1000000
	}
	return strconv.Itoa(n)
}

func plainTruth(truth bool) string {
	return map[bool]string{true: "1", false: "0"}[truth]
}

// plainPair is what two texts are held against each other by.
func plainPair(a string, b string) (string, string) {
	if aNumber.MatchString(a) && aNumber.MatchString(b) {
		return strings.Repeat("0", 6-len(a)) + a, strings.Repeat("0", 6-len(b)) + b
	}
	return a, b
}

var patternsOfLibrary = map[string]*regexp.Regexp{}

// plainHas asks the library, for which each byte is made a rune.
func plainHas(pattern string, s string) bool {
	library, ok := patternsOfLibrary[pattern]
	if !ok {
		p, _ := impl.ReadPattern(pattern)
		library = regexp.MustCompile(libraryText(p, len(p.Pieces)-1))
		patternsOfLibrary[pattern] = library
	}
	runes := []rune{}
	for _, b := range []byte(s) {
		runes = append(runes, rune(b))
	}
	return library.MatchString(string(runes))
}

func plainField(n int, line string) string {
	all := append([]string{plainCut(line, 40)}, plainFields(line)...)
	if n >= len(all) {
		return ""
	}
	return all[n]
}

// plainTell is the sentence of an expression.
func plainTell(node impl.Node, s impl.Store, in impl.Input, by answers) string {
	kids := []string{"", ""}
	for i, kid := range node.Kids {
		kids[i] = by.tell(kid, s)
	}
	a, b := plainNum(kids[0]), plainNum(kids[1])
	switch node.Op {
	case impl.ExName:
		return plainValue(asCells(s.Vars), node.Text, "")
	case impl.ExCell:
		return plainValue(s.Cells, node.Text, plainCut(kids[0], 40))
	case impl.ExField:
		return plainField(a, in.Line)
	case impl.ExFields:
		return strconv.Itoa(len(plainFields(in.Line)))
	case impl.ExLine:
		return plainNumText(in.Num)
	case impl.ExLong:
		return plainNumText(len(kids[0]))
	case impl.ExHas:
		return plainTruth(plainHas(node.Text, kids[0]))
	case impl.ExJoin:
		return plainCut(kids[0]+kids[1], 40)
	case impl.ExLess:
		first, second := plainPair(kids[0], kids[1])
		return plainTruth(first < second)
	case impl.ExSame:
		first, second := plainPair(kids[0], kids[1])
		return plainTruth(first == second)
	case impl.ExMod:
		if b == 0 {
			return "0"
		}
		return plainNumText(a - a/b*b)
	case impl.ExAdd, impl.ExSub, impl.ExMul:
		return plainNumText(map[int]int{impl.ExAdd: a + b, impl.ExSub: a - b, impl.ExMul: a * b}[node.Op])
	}
	return node.Text
}

func plainTrue(s string) bool {
	return !slices.Contains([]string{"", "0"}, s)
}

// plainDo is the sentence of a statement.
func plainDo(node impl.Node, s impl.Store, in impl.Input, by answers) (impl.Store, bool) {
	told := func(kid int) string { return by.tell(node.Kids[kid], s) }
	sum := func(there string, text string) string { return plainNumText(plainNum(there) + plainNum(text)) }
	switch node.Op {
	case impl.StPrint:
		line := told(0)
		for kid := 1; kid < len(node.Kids); kid++ {
			line += " " + told(kid)
		}
		return plainSay(s, line), true
	case impl.StSet:
		return plainSetVar(s, node.Text, told(0)), true
	case impl.StAdd:
		return plainSetVar(s, node.Text, sum(plainValue(asCells(s.Vars), node.Text, ""), told(0))), true
	case impl.StSetCell:
		return plainSetCell(s, node.Text, told(0), told(1)), true
	case impl.StAddCell:
		return plainSetCell(s, node.Text, told(0), sum(plainValue(s.Cells, node.Text, plainCut(told(0), 40)), told(1))), true
	case impl.StIf:
		if plainTrue(told(0)) {
			return by.do(node.Kids[1], s)
		}
		if len(node.Kids) == 3 {
			return by.do(node.Kids[2], s)
		}
	case impl.StNext:
		return s, false
	case impl.StBlock:
		on := true
		for kid := 0; kid < len(node.Kids) && on; kid++ {
			s, on = by.do(node.Kids[kid], s)
		}
		return s, on
	case impl.StDump:
		return plainDump(s, node.Text), true
	}
	return s, true
}

// plainRules is the sentence of RunRules.
func plainRules(p impl.Program, when int, s impl.Store, by answers) impl.Store {
	on := true
	for _, rule := range p.Rules {
		if on && rule.When == when && (rule.If == -1 || plainTrue(by.tell(rule.If, s))) {
			s, on = by.do(rule.Do, s)
		}
	}
	return s
}

// plainLinesOf cuts behind each byte 10.
func plainLinesOf(text string) []string {
	lines := []string{}
	for _, line := range strings.SplitAfter(text, "\n") {
		if line != "" && len(lines) < 20 {
			lines = append(lines, strings.TrimSuffix(line, "\n"))
		}
	}
	return lines
}

// plainTree is the sentence of RunTree, by the sentences of all that is below.
func plainTree(p impl.Program, text string) impl.Store {
	in, s := impl.Input{}, impl.Store{}
	s = plainRules(p, impl.WhenBegin, s, bySentences{p, in})
	for _, line := range plainLinesOf(text) {
		in = impl.Input{Line: line, Num: in.Num + 1}
		s = plainRules(p, impl.WhenLine, s, bySentences{p, in})
	}
	return plainRules(p, impl.WhenEnd, s, bySentences{p, in})
}

// plainBelow counts, in floats, what is below each node, each as often as it is come to.
func plainBelow(nodes []impl.Node) []float64 {
	below := make([]float64, len(nodes))
	for place, node := range nodes {
		for _, kid := range node.Kids {
			below[place] += 1 + below[kid]
		}
	}
	return below
}

func drawnMeantText(r *rand.Rand, op int) string {
	for {
		text := oneOf(r, "", "0", "00", " 0", "1", "2", "3", "19", "20", "21", "007", "999999", "500000", " 7", "12ab", "a", "b", "ab", "a b", "-1", "1000001", "c d e",
			"abcdefgh", "z", "ZZ", "^a", "b$", "x*", "[0-9]", "^$", "a|b", ".", "k+", "[^a]", strings.Repeat("k", 30), strings.Repeat("v", 20), "\xff")
		if isPlainText(op, text) {
			return text
		}
	}
}

// meantProgram is a right one, whose names and texts are such as drawn stores and drawn inputs have, too.
func meantProgram(r *rand.Rand, nodes int, rules int) impl.Program {
	p := drawnProgram(r, nodes, rules)
	for i, node := range p.Nodes {
		p.Nodes[i].Text = drawnMeantText(r, node.Op)
	}
	return p
}

// runProgram has rules whose blocks are of many statements.
func runProgram(r *rand.Rand) impl.Program {
	p := meantProgram(r, 10+r.IntN(50), 0)
	tests, statements := []int{-1}, []int{}
	for place, node := range p.Nodes {
		if node.Op <= impl.ExHas {
			tests = append(tests, place)
		} else if node.Op != impl.StNext || r.IntN(4) == 0 {
			statements = append(statements, place)
		}
	}
	for range 1 + r.IntN(maxRules) {
		some := []int{}
		for range min(r.IntN(8), len(statements)) {
			some = append(some, oneOf(r, statements...))
		}
		when, test := 1+r.IntN(3), -1
		if when == impl.WhenLine {
			test = oneOf(r, tests...)
		}
		p.Rules = append(p.Rules, rule(when, test, len(p.Nodes)))
		p.Nodes = append(p.Nodes, node(impl.StBlock, "", some...))
	}
	return p
}

func drawnLine(r *rand.Rand) string {
	long := strings.Repeat("abcdefghij", 5)
	return oneOf(r, "", " ", "\t", " \t  \t", "a", "0", "b a", " a  b\tc ", "1 2 3", "7", "a b", "x 12 999999 0 00 5", long, "a "+long, long[:40], long[:41], "\xff\x00 \r", "ab\n cd",
		strings.TrimSpace(strings.Repeat("f ", 19)), strings.Repeat("g\t", 20), strings.Repeat(" h1", 21), strings.Repeat(long+" ", 30), strings.Repeat(" ", 45)+"z")
}

func drawnInput(r *rand.Rand) impl.Input {
	return impl.Input{Line: drawnLine(r), Num: oneOf(r, 0, 1, 2, 20, 21, 999999, 1000000, 1000001, -1, -1000000, math.MinInt, math.MaxInt)}
}

// drawnMeantStore is a right one, most times; some are full.
func drawnMeantStore(r *rand.Rand) impl.Store {
	s := drawnRightStore(r)
	switch r.IntN(8) {
	case 0:
		s.Vars = manyVars(oneOf(r, 59, 60))
	case 1:
		s.Vars = impl.SetVar(impl.Store{Vars: manyVars(59)}, oneOf(r, "a", "z"), "12").Vars
	case 2:
		return drawnWrongStore(r)
	case 3:
		return impl.Store{}
	}
	return s
}
