package tests

import (
	"fmt"
	"regexp"
	"slices"
	"strings"

	"loop.example/g00237/impl"
)

// What chapter 6 answers, told in another way than the program goes: tokens are cut where they are put together last, from the outside in.

const (
	maxNodes  = 200
	maxRules  = 12
	maxDeep   = 30
	maxComeTo = 2000
)

var wordsNoNames = []string{"BEGIN", "END", "print", "next", "dump", "if", "else", "length", "NF", "NR"}

func node(op int, text string, kids ...int) impl.Node {
	return impl.Node{Op: op, Text: text, Kids: kids}
}

func rule(when int, test int, do int) impl.Rule {
	return impl.Rule{When: when, If: test, Do: do}
}

// toldProgram tells all of a program, and takes an empty list and none for the same.
func toldProgram(p impl.Program) string {
	told := ""
	for _, node := range p.Nodes {
		told += fmt.Sprintf("%d %q %d\n", node.Op, node.Text, node.Kids)
	}
	return told + fmt.Sprintf("%d", p.Rules)
}

func copyOfProgram(p impl.Program) impl.Program {
	q := impl.Program{Nodes: slices.Clone(p.Nodes), Rules: slices.Clone(p.Rules)}
	for i := range q.Nodes {
		q.Nodes[i].Kids = slices.Clone(q.Nodes[i].Kids)
	}
	return q
}

// kidForms has for each Op which kids it may have, a letter each: e an expression, i a StIf, s another statement.
var kidForms = map[int]*regexp.Regexp{}

func init() {
	forms := map[string][]int{
		``:  {impl.ExNum, impl.ExText, impl.ExName, impl.ExFields, impl.ExLine, impl.StNext, impl.StDump},
		`e`: {impl.ExCell, impl.ExField, impl.ExLong, impl.ExHas, impl.StSet, impl.StAdd},
		`ee`: {
			impl.ExAdd, impl.ExSub, impl.ExMul, impl.ExMod, impl.ExJoin, impl.ExLess, impl.ExSame, impl.StSetCell, impl.StAddCell,
		},
		`e{1,4}`:     {impl.StPrint},
		`es{1,2}`:    {impl.StIf},
		`[si]{0,20}`: {impl.StBlock},
	}
	for form, ops := range forms {
		for _, op := range ops {
			kidForms[op] = regexp.MustCompile(`\A` + form + `\z`)
		}
	}
}

func kidLetter(op int) string {
	switch {
	case op <= impl.ExHas:
		return "e"
	case op == impl.StIf:
		return "i"
	}
	return "s"
}

var (
	nameForm   = regexp.MustCompile(`\A[a-zA-Z]{1,8}\z`)
	numberForm = regexp.MustCompile(`\A[0-9]{1,6}\z`)
)

func isPlainName(s string) bool {
	return nameForm.MatchString(s) && !slices.Contains(wordsNoNames, s)
}

func isPlainText(op int, s string) bool {
	switch op {
	case impl.ExNum:
		return numberForm.MatchString(s)
	case impl.ExText:
		return len(s) <= 30 && strings.Count(s, "\n")+strings.Count(s, `"`) == 0
	case impl.ExHas:
		_, ok := impl.ReadPattern(s)
		return ok && strings.Count(s, "\n")+strings.Count(s, "/") == 0
	case impl.ExName, impl.ExCell, impl.StSet, impl.StAdd, impl.StSetCell, impl.StAddCell, impl.StDump:
		return isPlainName(s)
	}
	return s == ""
}

// plainOk is what ProgramOk answers.
func plainOk(p impl.Program) bool {
	if len(p.Nodes) > maxNodes || len(p.Rules) > maxRules {
		return false
	}
	for place, node := range p.Nodes {
		kids := ""
		for _, kid := range node.Kids {
			if kid < 0 || kid >= place {
				return false
			}
			kids += kidLetter(p.Nodes[kid].Op)
		}
		form, ok := kidForms[node.Op]
		if !ok || !form.MatchString(kids) || !isPlainText(node.Op, node.Text) {
			return false
		}
	}
	for _, rule := range p.Rules {
		tested := rule.If >= 0 && rule.If < len(p.Nodes) && p.Nodes[rule.If].Op <= impl.ExHas && rule.When == impl.WhenLine
		blocked := rule.Do >= 0 && rule.Do < len(p.Nodes) && p.Nodes[rule.Do].Op == impl.StBlock
		if !slices.Contains([]int{1, 2, 3}, rule.When) || !tested && rule.If != -1 || !blocked {
			return false
		}
	}
	return true
}

// plainReader has the nodes of what is read, the greatest depth it came to, and whether something was no program.
type plainReader struct {
	nodes   []impl.Node
	deepest int
	wrong   bool
}

func (p *plainReader) put(op int, text string, kids ...int) int {
	p.nodes = append(p.nodes, node(op, text, kids...))
	return len(p.nodes) - 1
}

func (p *plainReader) fail() int {
	p.wrong = true
	return 0
}

func (p *plainReader) reach(deep int) {
	p.deepest = max(p.deepest, deep)
}

func isSign(tokens []impl.Token, at int, sign string) bool {
	return at < len(tokens) && tokens[at] == token(impl.ToSign, sign)
}

// outsidePlaces are the places of these tokens that stand in no brackets.
func outsidePlaces(tokens []impl.Token, these ...impl.Token) []int {
	places, within := []int{}, 0
	for place, token := range tokens {
		if within == 0 && slices.Contains(these, token) {
			places = append(places, place)
		}
		if token.Kind == impl.ToSign && strings.Contains("([{", token.Text) {
			within++
		}
		if token.Kind == impl.ToSign && strings.Contains(")]}", token.Text) {
			within--
		}
	}
	return places
}

func signTokens(signs ...string) []impl.Token {
	tokens := []impl.Token{}
	for _, sign := range signs {
		tokens = append(tokens, token(impl.ToSign, sign))
	}
	return tokens
}

// closing is the place where the brackets end that begin at a place, or the end of all.
func closing(tokens []impl.Token, from int) int {
	within := 0
	for place := from; place < len(tokens); place++ {
		if tokens[place].Kind != impl.ToSign {
			continue
		}
		if strings.Contains("([{", tokens[place].Text) {
			within++
		}
		if strings.Contains(")]}", tokens[place].Text) {
			within--
		}
		if within == 0 {
			return place
		}
	}
	return len(tokens)
}

// isClosed is true of brackets that begin at a place and end, with that sign, at the end of all.
func isClosed(tokens []impl.Token, from int, open string, shut string) bool {
	end := closing(tokens, from)
	return isSign(tokens, from, open) && end == len(tokens)-1 && isSign(tokens, end, shut)
}

// split cuts tokens at these places, which belong to no part.
func split(tokens []impl.Token, places []int) [][]impl.Token {
	parts, from := [][]impl.Token{}, 0
	for _, place := range places {
		parts = append(parts, tokens[from:place])
		from = place + 1
	}
	return append(parts, tokens[from:])
}

var plainSigns = map[string]int{
	"+": impl.ExAdd, "-": impl.ExSub, "*": impl.ExMul, "%": impl.ExMod, ".": impl.ExJoin, "<": impl.ExLess, "==": impl.ExSame,
}

func (p *plainReader) expression(tokens []impl.Token, deep int) int {
	p.reach(deep)
	places := outsidePlaces(tokens, signTokens("<", "==", "~")...)
	if len(places) == 0 {
		return p.row(tokens, deep)
	}
	at := places[0]
	if len(places) > 1 {
		return p.fail()
	}
	first := p.row(tokens[:at], deep)
	if tokens[at].Text != "~" {
		return p.put(plainSigns[tokens[at].Text], "", first, p.row(tokens[at+1:], deep))
	}
	if len(tokens) != at+2 || tokens[at+1].Kind != impl.ToPattern {
		return p.fail()
	}
	return p.put(impl.ExHas, tokens[at+1].Text, first)
}

func (p *plainReader) row(tokens []impl.Token, deep int) int {
	for _, signs := range [][]string{{"."}, {"+", "-"}, {"*", "%"}} {
		if places := outsidePlaces(tokens, signTokens(signs...)...); len(places) > 0 {
			at := places[len(places)-1]
			first := p.row(tokens[:at], deep)
			second := p.row(tokens[at+1:], deep)
			return p.put(plainSigns[tokens[at].Text], "", first, second)
		}
	}
	return p.simple(tokens, deep+1)
}

func (p *plainReader) simple(tokens []impl.Token, deep int) int {
	p.reach(deep)
	if len(tokens) == 0 {
		return p.fail()
	}
	first, last := tokens[0], len(tokens)-1
	switch {
	case isSign(tokens, 0, "$"):
		return p.put(impl.ExField, "", p.simple(tokens[1:], deep+1))
	case isClosed(tokens, 0, "(", ")"):
		return p.expression(tokens[1:last], deep+1)
	case first == token(impl.ToName, "length") && isClosed(tokens, 1, "(", ")"):
		return p.put(impl.ExLong, "", p.expression(tokens[2:last], deep+1))
	case first.Kind == impl.ToName && isPlainName(first.Text) && isClosed(tokens, 1, "[", "]"):
		return p.put(impl.ExCell, first.Text, p.expression(tokens[2:last], deep+1))
	case last > 0:
		return p.fail()
	case first == token(impl.ToName, "NF"):
		return p.put(impl.ExFields, "")
	case first == token(impl.ToName, "NR"):
		return p.put(impl.ExLine, "")
	case first.Kind == impl.ToNum:
		return p.put(impl.ExNum, first.Text)
	case first.Kind == impl.ToText:
		return p.put(impl.ExText, first.Text)
	case first.Kind == impl.ToName && isPlainName(first.Text):
		return p.put(impl.ExName, first.Text)
	}
	return p.fail()
}

func (p *plainReader) statement(tokens []impl.Token, deep int) int {
	p.reach(deep)
	if len(tokens) == 0 {
		return p.fail()
	}
	first, rest := tokens[0], tokens[1:]
	switch {
	case isClosed(tokens, 0, "{", "}"):
		return p.block(tokens[1:len(tokens)-1], deep)
	case first == token(impl.ToName, "next") && len(rest) == 0:
		return p.put(impl.StNext, "")
	case first == token(impl.ToName, "dump") && len(rest) == 1 && rest[0].Kind == impl.ToName && isPlainName(rest[0].Text):
		return p.put(impl.StDump, rest[0].Text)
	case first == token(impl.ToName, "print"):
		kids := []int{}
		for _, part := range split(rest, outsidePlaces(rest, signTokens(",")...)) {
			kids = append(kids, p.expression(part, deep+1))
		}
		return p.put(impl.StPrint, "", kids...)
	case first == token(impl.ToName, "if"):
		return p.choice(rest, deep)
	case first.Kind == impl.ToName && isPlainName(first.Text):
		return p.setting(tokens, deep)
	}
	return p.fail()
}

func (p *plainReader) choice(tokens []impl.Token, deep int) int {
	end := closing(tokens, 0)
	if !isSign(tokens, 0, "(") || !isSign(tokens, end, ")") {
		return p.fail()
	}
	kids := []int{p.expression(tokens[1:end], deep+1)}
	rest := tokens[end+1:]
	for _, part := range split(rest, outsidePlaces(rest, token(impl.ToName, "else"))) {
		if len(part) > 0 && part[0] == token(impl.ToName, "if") {
			return p.fail()
		}
		kids = append(kids, p.statement(part, deep+1))
	}
	return p.put(impl.StIf, "", kids...)
}

func (p *plainReader) setting(tokens []impl.Token, deep int) int {
	places := outsidePlaces(tokens, signTokens("=", "+=")...)
	if len(places) != 1 {
		return p.fail()
	}
	at := places[0]
	op := impl.StSet
	if tokens[at].Text == "+=" {
		op = impl.StAdd
	}
	kids := []int{}
	if at > 1 {
		op += impl.StSetCell - impl.StSet
		if !isClosed(tokens[:at], 1, "[", "]") {
			return p.fail()
		}
		kids = append(kids, p.expression(tokens[2:at-1], deep+1))
	}
	kids = append(kids, p.expression(tokens[at+1:], deep+1))
	return p.put(op, tokens[0].Text, kids...)
}

func (p *plainReader) block(tokens []impl.Token, deep int) int {
	kids := []int{}
	for _, part := range split(tokens, outsidePlaces(tokens, lineEnd())) {
		if len(part) > 0 {
			kids = append(kids, p.statement(part, deep+1))
		}
	}
	return p.put(impl.StBlock, "", kids...)
}

// rules reads rules one after the other: what is ahead of the next block that is in no brackets, and this block.
func (p *plainReader) rules(tokens []impl.Token) []impl.Rule {
	rules := []impl.Rule{}
	for {
		for len(tokens) > 0 && tokens[0] == lineEnd() {
			tokens = tokens[1:]
		}
		places := outsidePlaces(tokens, signTokens("{")...)
		if len(places) == 0 {
			p.wrong = p.wrong || len(tokens) > 0
			return rules
		}
		head, when, test := tokens[:places[0]], impl.WhenLine, -1
		switch {
		case len(head) == 1 && head[0] == token(impl.ToName, "BEGIN"):
			when = impl.WhenBegin
		case len(head) == 1 && head[0] == token(impl.ToName, "END"):
			when = impl.WhenEnd
		case len(head) > 0:
			test = p.expression(head, 1)
		}
		end := closing(tokens, places[0])
		if !isSign(tokens, end, "}") {
			p.wrong = true
			return rules
		}
		rules = append(rules, rule(when, test, p.block(tokens[places[0]+1:end], 0)))
		tokens = tokens[end+1:]
	}
}

// plainProgram is what ReadProgram answers, and how deep it goes.
func plainProgram(s string) (impl.Program, int, bool) {
	tokens, fault := impl.Tokens(s)
	p := &plainReader{wrong: fault != 0}
	rules := p.rules(tokens)
	program := impl.Program{Nodes: p.nodes, Rules: rules}
	if p.wrong || p.deepest > maxDeep || !plainOk(program) {
		return impl.Program{}, p.deepest, false
	}
	return program, p.deepest, true
}

// showForms has how each Op is shown: @T is its Text, @0 to @2 are its kids, @, and @; all of them with this and a blank between.
var showForms = map[int]string{
	impl.ExNum: `@T`, impl.ExText: `"@T"`, impl.ExName: `@T`, impl.ExCell: `@T[@0]`, impl.ExField: `$(@0)`, impl.ExFields: `NF`,
	impl.ExLine: `NR`, impl.ExLong: `length(@0)`, impl.ExAdd: `(@0 + @1)`, impl.ExSub: `(@0 - @1)`, impl.ExMul: `(@0 * @1)`,
	impl.ExMod: `(@0 % @1)`, impl.ExJoin: `(@0 . @1)`, impl.ExLess: `(@0 < @1)`, impl.ExSame: `(@0 == @1)`, impl.ExHas: `(@0 ~ /@T/)`,
	impl.StPrint: `print @,`, impl.StSet: `@T = @0`, impl.StAdd: `@T += @0`, impl.StSetCell: `@T[@0] = @1`, impl.StAddCell: `@T[@0] += @1`,
	impl.StIf: `if (@0) @1`, impl.StNext: `next`, impl.StBlock: `{ @; }`, impl.StDump: `dump @T`,
}

func plainShown(nodes []impl.Node, place int) string {
	node := nodes[place]
	form := showForms[node.Op]
	if len(node.Kids) == 3 && node.Op == impl.StIf {
		form += ` else @2`
	}
	if len(node.Kids) == 0 && node.Op == impl.StBlock {
		form = `{ }`
	}
	kids := []string{}
	for _, kid := range node.Kids {
		kids = append(kids, plainShown(nodes, kid))
	}
	marks := []string{"@T", node.Text, "@,", strings.Join(kids, ", "), "@;", strings.Join(kids, "; ")}
	for i, kid := range kids {
		marks = append(marks, fmt.Sprintf("@%d", i), kid)
	}
	return strings.NewReplacer(marks...).Replace(form)
}

// plainComesTo counts in floats, as there may be more than an int holds.
func plainComesTo(p impl.Program) float64 {
	counts, total := make([]float64, len(p.Nodes)), 0.0
	for place, node := range p.Nodes {
		counts[place] = 1
		for _, kid := range node.Kids {
			counts[place] += counts[kid]
		}
	}
	for _, rule := range p.Rules {
		total += counts[rule.Do]
		if rule.If != -1 {
			total += counts[rule.If]
		}
	}
	return total
}

// plainShow is what ShowProgram answers of a right program.
func plainShow(p impl.Program) (string, bool) {
	if plainComesTo(p) > maxComeTo {
		return "", false
	}
	shown := ""
	for _, rule := range p.Rules {
		head := map[int]string{impl.WhenBegin: "BEGIN ", impl.WhenEnd: "END "}[rule.When]
		if rule.If != -1 {
			head = plainShown(p.Nodes, rule.If) + " "
		}
		shown += head + plainShown(p.Nodes, rule.Do) + "\n"
	}
	return shown, true
}

// expanded has each node as often as it is come to, in the order in which they end, and no others.
func expanded(p impl.Program) impl.Program {
	q := impl.Program{}
	var put func(place int) int
	put = func(place int) int {
		kids := []int{}
		for _, kid := range p.Nodes[place].Kids {
			kids = append(kids, put(kid))
		}
		q.Nodes = append(q.Nodes, node(p.Nodes[place].Op, p.Nodes[place].Text, kids...))
		return len(q.Nodes) - 1
	}
	for _, rule := range p.Rules {
		if rule.If != -1 {
			rule.If = put(rule.If)
		}
		rule.Do = put(rule.Do)
		q.Rules = append(q.Rules, rule)
	}
	return q
}
