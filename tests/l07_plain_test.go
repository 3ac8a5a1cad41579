package tests

import (
	"encoding/binary"
	"fmt"
	"slices"

	"loop.example/g00237/impl"
)

// What chapter 7 answers, told in another way than the program goes: code is put together from whole rows, whose lengths tell where jumps lead to; heights are found by going every way there is.

const (
	maxCodeTexts = 60
	maxInstrs    = 250
	maxStack     = 20
)

func instr(op int, arg int) impl.Instr {
	return impl.Instr{Op: op, Arg: arg}
}

// toldCode tells all of a code, and takes an empty list and none for the same.
func toldCode(c impl.Code) string {
	return fmt.Sprintf("%q %d, begin %d, line %d, end %d", c.Texts, c.List, c.Begin, c.Line, c.End)
}

func copyOfCode(c impl.Code) impl.Code {
	c.Texts, c.List = slices.Clone(c.Texts), slices.Clone(c.List)
	return c
}

// What the Arg of an instruction is.
const (
	argNone = iota
	argText
	argName
	argPattern
	argCount
	argPlace
)

// opForms has for each Op how many it takes (of CoPrint as many as Arg says) and puts, and what its Arg is.
var opForms = map[int]struct{ takes, puts, arg int }{
	impl.CoText: {0, 1, argText}, impl.CoName: {0, 1, argName}, impl.CoCell: {1, 1, argName}, impl.CoField: {1, 1, argNone},
	impl.CoFields: {0, 1, argNone}, impl.CoLine: {0, 1, argNone}, impl.CoLong: {1, 1, argNone}, impl.CoAdd: {2, 1, argNone},
	impl.CoSub: {2, 1, argNone}, impl.CoMul: {2, 1, argNone}, impl.CoMod: {2, 1, argNone}, impl.CoJoin: {2, 1, argNone},
	impl.CoLess: {2, 1, argNone}, impl.CoSame: {2, 1, argNone}, impl.CoHas: {1, 1, argPattern}, impl.CoPrint: {0, 0, argCount},
	impl.CoSet: {1, 0, argName}, impl.CoAddTo: {1, 0, argName}, impl.CoSetCell: {2, 0, argName}, impl.CoAddCell: {2, 0, argName},
	impl.CoZero: {1, 0, argPlace}, impl.CoJump: {0, 0, argPlace}, impl.CoNext: {0, 0, argNone}, impl.CoDump: {0, 0, argName},
}

// plainOps has the Op of a node's own instruction.
var plainOps = map[int]int{
	impl.ExNum: impl.CoText, impl.ExText: impl.CoText, impl.ExName: impl.CoName, impl.ExCell: impl.CoCell, impl.ExField: impl.CoField,
	impl.ExFields: impl.CoFields, impl.ExLine: impl.CoLine, impl.ExLong: impl.CoLong, impl.ExAdd: impl.CoAdd, impl.ExSub: impl.CoSub,
	impl.ExMul: impl.CoMul, impl.ExMod: impl.CoMod, impl.ExJoin: impl.CoJoin, impl.ExLess: impl.CoLess, impl.ExSame: impl.CoSame,
	impl.ExHas: impl.CoHas, impl.StPrint: impl.CoPrint, impl.StSet: impl.CoSet, impl.StAdd: impl.CoAddTo, impl.StSetCell: impl.CoSetCell,
	impl.StAddCell: impl.CoAddCell, impl.StNext: impl.CoNext, impl.StDump: impl.CoDump,
}

// plainLine is an instruction whose text has no place yet.
type plainLine struct {
	op, arg int
	text    string
}

// plainSizes counts the instructions of each node in floats, as there may be more than an int holds.
func plainSizes(nodes []impl.Node) []float64 {
	sizes := make([]float64, len(nodes))
	for place, node := range nodes {
		switch node.Op {
		case impl.StBlock:
		case impl.StIf:
			sizes[place] = float64(len(node.Kids) - 1)
		default:
			sizes[place] = 1
		}
		for _, kid := range node.Kids {
			sizes[place] += sizes[kid]
		}
	}
	return sizes
}

// plainLines is the code of a node that stands from a place on.
func plainLines(nodes []impl.Node, sizes []float64, at int, from int) []plainLine {
	if sizes[at] == 0 {
		return nil
	}
	node := nodes[at]
	if node.Op == impl.StIf {
		return plainChoice(nodes, sizes, node.Kids, from)
	}
	lines := []plainLine{}
	for _, kid := range node.Kids {
		lines = append(lines, plainLines(nodes, sizes, kid, from+len(lines))...)
	}
	switch node.Op {
	case impl.StBlock:
		return lines
	case impl.StPrint:
		return append(lines, plainLine{op: impl.CoPrint, arg: len(node.Kids)})
	}
	return append(lines, plainLine{op: plainOps[node.Op], text: node.Text})
}

func plainChoice(nodes []impl.Node, sizes []float64, kids []int, from int) []plainLine {
	test := plainLines(nodes, sizes, kids[0], from)
	first := plainLines(nodes, sizes, kids[1], from+len(test)+1)
	behind := from + len(test) + 1 + len(first)
	if len(kids) == 2 {
		return slices.Concat(test, []plainLine{{op: impl.CoZero, arg: behind}}, first)
	}
	second := plainLines(nodes, sizes, kids[2], behind+1)
	zero, jump := plainLine{op: impl.CoZero, arg: behind + 1}, plainLine{op: impl.CoJump, arg: behind + 1 + len(second)}
	return slices.Concat(test, []plainLine{zero}, first, []plainLine{jump}, second)
}

// plainCode is the code of a right program, whatever its limits; false when it is far too long.
func plainCode(p impl.Program) (impl.Code, bool) {
	sizes := plainSizes(p.Nodes)
	lines, begins := []plainLine{}, [4]int{}
	for when := impl.WhenBegin; when <= impl.WhenEnd; when++ {
		begins[when] = len(lines)
		for _, rule := range p.Rules {
			if rule.When != when {
				continue
			}
			if sizes[rule.Do] > 1000 || rule.If != -1 && sizes[rule.If] > 1000 {
				return impl.Code{}, false
			}
			if rule.If == -1 {
				lines = append(lines, plainLines(p.Nodes, sizes, rule.Do, len(lines))...)
			} else {
				lines = append(lines, plainChoice(p.Nodes, sizes, []int{rule.If, rule.Do}, len(lines))...)
			}
		}
	}
	c := impl.Code{Line: begins[impl.WhenLine], End: begins[impl.WhenEnd]}
	for _, line := range lines {
		if kind := opForms[line.op].arg; kind == argText || kind == argName || kind == argPattern {
			if !slices.Contains(c.Texts, line.text) {
				c.Texts = append(c.Texts, line.text)
			}
			line.arg = slices.Index(c.Texts, line.text)
		}
		c.List = append(c.List, instr(line.op, line.arg))
	}
	return c, true
}

// plainCompile is what Compile answers.
func plainCompile(p impl.Program) (impl.Code, bool) {
	if !plainOk(p) {
		return impl.Code{}, false
	}
	c, ok := plainCode(p)
	if !ok || !plainCodeOk(c) {
		return impl.Code{}, false
	}
	return c, true
}

// plainCodeOk is what CodeOk answers.
func plainCodeOk(c impl.Code) bool {
	if len(c.Texts) > maxCodeTexts || len(c.List) > maxInstrs {
		return false
	}
	if c.Begin != 0 || c.Line < 0 || c.End < c.Line || len(c.List) < c.End {
		return false
	}
	for _, text := range c.Texts {
		if len(text) > 30 {
			return false
		}
	}
	return plainPartOk(c, 0, c.Line) && plainPartOk(c, c.Line, c.End) && plainPartOk(c, c.End, len(c.List))
}

func plainPartOk(c impl.Code, from int, to int) bool {
	for place := from; place < to; place++ {
		if !plainInstrOk(c, c.List[place], place, to) {
			return false
		}
	}
	return plainHeightsOk(c.List, from, to)
}

func plainInstrOk(c impl.Code, in impl.Instr, place int, to int) bool {
	form, ok := opForms[in.Op]
	if !ok || in.Arg < 0 || in.Arg > 255 {
		return false
	}
	switch form.arg {
	case argCount:
		return 1 <= in.Arg && in.Arg <= 4
	case argPlace:
		return place < in.Arg && in.Arg <= to
	case argNone:
		return in.Arg == 0
	}
	if in.Arg >= len(c.Texts) {
		return false
	}
	switch text := c.Texts[in.Arg]; form.arg {
	case argName:
		return nameForm.MatchString(text)
	case argPattern:
		_, ok := impl.ReadPattern(text)
		return ok
	}
	return true
}

// plainHeightsOk follows each way, place by place, with the heights that it has there.
func plainHeightsOk(list []impl.Instr, from int, to int) bool {
	type state struct{ place, height int }
	heights := map[int]int{from: 0}
	for open := []state{{from, 0}}; len(open) > 0; {
		now := open[len(open)-1]
		open = open[:len(open)-1]
		if now.place == to {
			if now.height != 0 {
				return false
			}
			continue
		}
		in := list[now.place]
		takes := opForms[in.Op].takes
		if in.Op == impl.CoPrint {
			takes = in.Arg
		}
		after := now.height - takes + opForms[in.Op].puts
		if now.height < takes || now.height > maxStack {
			return false
		}
		nexts := []int{}
		if in.Op == impl.CoZero || in.Op == impl.CoJump {
			nexts = append(nexts, in.Arg)
		}
		if in.Op != impl.CoJump && in.Op != impl.CoNext {
			nexts = append(nexts, now.place+1)
		}
		for _, next := range nexts {
			was, ok := heights[next]
			if ok && was != after {
				return false
			}
			if !ok {
				heights[next] = after
				open = append(open, state{next, after})
			}
		}
	}
	return true
}

func plainVar(out []byte, n int) []byte {
	return binary.AppendUvarint(out, uint64(n))
}

// plainCodeText is the form of any code whose Ops and Args go into a byte, and whose numbers are not below 0.
func plainCodeText(c impl.Code) string {
	out := plainVar(nil, len(c.Texts))
	for _, text := range c.Texts {
		out = append(plainVar(out, len(text)), text...)
	}
	out = plainVar(out, len(c.List))
	for _, in := range c.List {
		out = append(out, byte(in.Op), byte(in.Arg))
	}
	return string(plainVar(plainVar(out, c.Line), c.End))
}

// looseReader takes longer forms of numbers, too.
type looseReader struct {
	left  []byte
	short bool
}

func (l *looseReader) number() int {
	n, size := binary.Uvarint(l.left)
	if size <= 0 || n > 1<<40 {
		l.short = true
		return 0
	}
	l.left = l.left[size:]
	return int(n)
}

func (l *looseReader) bytes(size int) []byte {
	if size > len(l.left) {
		l.short = true
		return make([]byte, 2)
	}
	taken := l.left[:size]
	l.left = l.left[size:]
	return taken
}

// plainReadCode is what ReadCode answers: what can be made of a text at all, if just that text is its form.
func plainReadCode(s string) (impl.Code, bool) {
	l, c := &looseReader{left: []byte(s)}, impl.Code{}
	for count := l.number(); count > 0 && !l.short; count-- {
		c.Texts = append(c.Texts, string(l.bytes(l.number())))
	}
	for count := l.number(); count > 0 && !l.short; count-- {
		two := l.bytes(2)
		c.List = append(c.List, instr(int(two[0]), int(two[1])))
	}
	c.Line = l.number()
	c.End = l.number()
	if l.short || len(l.left) > 0 || !plainCodeOk(c) || plainCodeText(c) != s {
		return impl.Code{}, false
	}
	return c, true
}
