package tests

import (
	"fmt"
	"math"
	"math/rand/v2"
	"slices"
	"strings"

	"loop.example/g00237/impl"
)

// What chapter 11 answers, told in another way than the program goes: what is reached is walked from the rules down, and each sentence is made of those of the chapters before.

// plainReached has the places that the rules of WhenLine reach.
func plainReached(p impl.Program) map[int]bool {
	reached := map[int]bool{}
	var walk func(place int)
	walk = func(place int) {
		if place < 0 || reached[place] {
			return
		}
		reached[place] = true
		for _, kid := range p.Nodes[place].Kids {
			walk(kid)
		}
	}
	for _, rule := range p.Rules {
		if rule.When == impl.WhenLine {
			walk(rule.If)
			walk(rule.Do)
		}
	}
	return reached
}

func plainNames(p impl.Program) []string {
	names := []string{}
	if !plainOk(p) {
		return names
	}
	for place := range plainReached(p) {
		node := p.Nodes[place]
		if slices.Contains([]int{impl.StAdd, impl.StAddCell}, node.Op) && !slices.Contains(names, node.Text) {
			names = append(names, node.Text)
		}
	}
	slices.Sort(names)
	return names
}

func plainMergeable(p impl.Program) bool {
	if !plainOk(p) {
		return false
	}
	for place := range plainReached(p) {
		node := p.Nodes[place]
		isNamed := slices.Contains([]int{impl.ExName, impl.ExCell}, node.Op) && slices.Contains(plainNames(p), node.Text)
		if isNamed || slices.Contains([]int{impl.StSet, impl.StSetCell, impl.StDump, impl.ExLine}, node.Op) {
			return false
		}
	}
	return true
}

// plainOfNames has of a store what is of these names, or what is not; without its Out.
func plainOfNames(s impl.Store, names []string, areOf bool) impl.Store {
	some := impl.Store{}
	for _, v := range s.Vars {
		if slices.Contains(names, v.Name) == areOf {
			some.Vars = append(some.Vars, v)
		}
	}
	for _, c := range s.Cells {
		if slices.Contains(names, c.Name) == areOf {
			some.Cells = append(some.Cells, c)
		}
	}
	return some
}

func plainDelta(c impl.Code, begin impl.Store, names []string, lines []string) impl.Store {
	if !plainCodeOk(c) || !plainStoreOk(begin) {
		return impl.Store{}
	}
	s := plainOfNames(begin, names, false)
	for i, line := range lines {
		s, _ = plainRun(c, c.Line, c.End, s, impl.Input{Line: line, Num: i + 1})
	}
	delta := plainOfNames(s, names, true)
	delta.Out = s.Out
	return delta
}

func plainMerge(s impl.Store, d impl.Store) impl.Store {
	sum := func(a string, b string) string { return plainNumText(plainNum(a) + plainNum(b)) }
	for _, v := range d.Vars {
		s = plainSetVar(s, v.Name, sum(plainValue(asCells(s.Vars), v.Name, ""), v.Val))
	}
	for _, c := range d.Cells {
		s = plainSetCell(s, c.Name, c.Key, sum(plainValue(s.Cells, c.Name, plainCut(c.Key, 40)), c.Val))
	}
	s.Out = plainCut(s.Out+d.Out, 3000)
	return s
}

// plainCutLines puts each line into the part that it belongs to.
func plainCutLines(lines []string, n int) [][]string {
	parts := [][]string{}
	for i, line := range lines {
		part := 0
		if n >= 1 {
			part = i / n
		}
		if part == len(parts) {
			parts = append(parts, []string{})
		}
		parts[part] = append(parts[part], line)
	}
	return parts
}

// plainRunParts is the sentence of RunParts, of right code.
func plainRunParts(c impl.Code, names []string, text string, n int) impl.Store {
	lines := plainLinesOf(text)
	begin, _ := plainRun(c, 0, c.Line, impl.Store{}, impl.Input{})
	s, in := begin, impl.Input{}
	for _, part := range plainCutLines(lines, n) {
		s = plainMerge(s, plainDelta(c, begin, names, part))
		in = impl.Input{Line: part[len(part)-1], Num: len(lines)}
	}
	s, _ = plainRun(c, c.End, len(c.List), s, in)
	return s
}

// partSizes are the sizes that a text may be cut by.
func partSizes() []int {
	return []int{1, 2, 3, 7, 19, 20, 21, 0, -1, math.MinInt, math.MaxInt}
}

// put puts the nodes of one program behind those of another, and answers its rules as they are then.
func put(p *impl.Program, q impl.Program) []impl.Rule {
	from := len(p.Nodes)
	q = copyOfProgram(q)
	for _, n := range q.Nodes {
		for i := range n.Kids {
			n.Kids[i] += from
		}
	}
	for i := range q.Rules {
		q.Rules[i].Do += from
		if q.Rules[i].If != -1 {
			q.Rules[i].If += from
		}
	}
	p.Nodes = append(p.Nodes, q.Nodes...)
	return q.Rules
}

// countingNode is one in the place of a node that might hinder cutting: lines count under some names, and read others.
func countingNode(r *rand.Rand, n impl.Node) impl.Node {
	switch n.Op {
	case impl.StSet, impl.StAdd:
		return node(impl.StAdd, oneOf(r, "a", "b", "z"), n.Kids...)
	case impl.StSetCell, impl.StAddCell:
		return node(impl.StAddCell, oneOf(r, "a", "b", "z"), n.Kids...)
	case impl.StDump:
		return node(impl.StBlock, "")
	case impl.ExLine:
		return node(impl.ExFields, "")
	case impl.ExName, impl.ExCell:
		return node(n.Op, oneOf(r, "ab", "ZZ", "abcdefgh"), n.Kids...)
	}
	return n
}

// countingProgram is a right one that may be cut; its rules of WhenBegin and WhenEnd may have anything, of the same names.
func countingProgram(r *rand.Rand) impl.Program {
	lines := runProgram(r)
	for i, n := range lines.Nodes {
		lines.Nodes[i] = countingNode(r, n)
	}
	p := impl.Program{}
	for _, rule := range put(&p, lines) {
		rule.When = impl.WhenLine
		p.Rules = append(p.Rules, rule)
	}
	p.Rules = p.Rules[:min(len(p.Rules), 7)]
	for _, rule := range put(&p, runProgram(r)) {
		rule.When, rule.If = oneOf(r, impl.WhenBegin, impl.WhenEnd), -1
		p.Rules = append(p.Rules, rule)
	}
	p.Rules = p.Rules[:min(len(p.Rules), maxRules)]
	return p
}

// numbered is a text of so many lines, each of some fields.
func numbered(count int) string {
	text := ""
	for i := range count {
		text += fmt.Sprintf("%d k%d %d\n", i+1, i%3, 999990+i)
	}
	return text
}

func drawnNames(r *rand.Rand) []string {
	names := []string{}
	for range r.IntN(6) {
		names = append(names, drawnWrongName(r))
	}
	return append(names, oneOf(r, nil, []string{"a", "z"}, []string{"z", "b", "a", "b"}, []string{"x", "y"})...)
}

func drawnLineList(r *rand.Rand) []string {
	lines := []string{}
	for range oneOf(r, 0, 1, 2, 5, 25) {
		lines = append(lines, drawnLine(r))
	}
	return lines
}

func toldParts(parts [][]string) string {
	return fmt.Sprintf("%q", parts)
}

// roomyTexts has memory of its own, and spare room behind it, filled with what must stay.
func roomyTexts(list []string) []string {
	own := make([]string, 0, len(list)+2)
	for _, text := range list {
		own = append(own, strings.Clone(text))
	}
	return append(own, "spare", "room")[:len(list)]
}
