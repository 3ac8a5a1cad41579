package tests

import (
	"math/rand/v2"
	"slices"
	"strconv"
	"strings"
	"testing"

	"loop.example/g00237/impl"
)

// What chapter 10 answers, told in another way than the program goes: an instruction is the sentence of its node in chapter 9, whose kids tell what was taken from the stack.

// opWords has the Ops of code in their order, as they are written here.
const opWords = "none text name cell field fields line long add sub mul mod join less same has print set addto setcell addcell zero jump next dump"

// byTexts answers for kids that are told already.
type byTexts []string

func (b byTexts) tell(place int, s impl.Store) string {
	return b[place]
}

func (b byTexts) do(place int, s impl.Store) (impl.Store, bool) {
	return s, true
}

// plainNode is the node whose own instruction this is.
func plainNode(c impl.Code, in impl.Instr) impl.Node {
	n := impl.Node{Op: impl.ExText}
	for op, own := range plainOps {
		if own == in.Op && in.Op != impl.CoText {
			n.Op = op
		}
	}
	if kind := opForms[in.Op].arg; kind == argText || kind == argName || kind == argPattern {
		n.Text = c.Texts[in.Arg]
	}
	for kid := range plainTakes(in) {
		n.Kids = append(n.Kids, kid)
	}
	return n
}

func plainTakes(in impl.Instr) int {
	if in.Op == impl.CoPrint {
		return in.Arg
	}
	return opForms[in.Op].takes
}

// plainRun is the sentence of RunCode, of a part of right code; and the places that it came to.
func plainRun(c impl.Code, from int, to int, s impl.Store, in impl.Input) (impl.Store, []int) {
	stack, way := []string{}, []int{}
	for place := from; place < to; {
		now := c.List[place]
		way = append(way, place)
		left := len(stack) - plainTakes(now)
		taken := byTexts(slices.Clone(stack[left:]))
		stack = stack[:left]
		place++
		switch {
		case now.Op == impl.CoNext:
			return s, way
		case now.Op == impl.CoJump, now.Op == impl.CoZero && !plainTrue(taken[0]):
			place = now.Arg
		case now.Op == impl.CoZero:
		case opForms[now.Op].puts == 1:
			stack = append(stack, plainTell(plainNode(c, now), s, in, taken))
		default:
			s, _ = plainDo(plainNode(c, now), s, in, taken)
		}
	}
	return s, way
}

// plainAll is the sentence of RunAll, of right code.
func plainAll(c impl.Code, text string) impl.Store {
	in := impl.Input{}
	s, _ := plainRun(c, 0, c.Line, impl.Store{}, in)
	for _, line := range plainLinesOf(text) {
		in = impl.Input{Line: line, Num: in.Num + 1}
		s, _ = plainRun(c, c.Line, c.End, s, in)
	}
	s, _ = plainRun(c, c.End, len(c.List), s, in)
	return s
}

// plainEnds has both ends of each part.
func plainEnds(c impl.Code) [][2]int {
	return [][2]int{{0, c.Line}, {c.Line, c.End}, {c.End, len(c.List)}}
}

// coded reads code that is written as instructions with `;` between, each a word and what it names: `text "0"; zero 3; dump t`.
func coded(t *testing.T, s string) ([]string, []impl.Instr) {
	t.Helper()
	texts, list := []string{}, []impl.Instr{}
	for _, words := range strings.Split(s, ";") {
		word, rest, _ := strings.Cut(strings.TrimSpace(words), " ")
		if word == "" {
			continue
		}
		op := slices.Index(strings.Fields(opWords), word)
		arg := 0
		switch kind := opForms[op].arg; kind {
		case argText, argName, argPattern:
			text := rest
			if plain, err := strconv.Unquote(rest); err == nil {
				text = plain
			}
			if !slices.Contains(texts, text) {
				texts = append(texts, text)
			}
			arg = slices.Index(texts, text)
		case argCount, argPlace:
			arg, _ = strconv.Atoi(rest)
		}
		if op < 1 {
			t.Fatalf("%q is no instruction", words)
		}
		list = append(list, instr(op, arg))
	}
	return texts, list
}

// moved is a part as it is from another place on.
func moved(list []impl.Instr, from int) []impl.Instr {
	list = slices.Clone(list)
	for i, in := range list {
		if opForms[in.Op].arg == argPlace {
			list[i].Arg += from
		}
	}
	return list
}

// placed is a code, one of whose parts is looked at.
type placed struct {
	code     impl.Code
	part     int
	from, to int
}

// placedParts lets a part be each of the three, alone and with others around it that would say something.
func placedParts(texts []string, list []impl.Instr) []placed {
	all := []placed{}
	texts = append(slices.Clone(texts), "other")
	others := [][]impl.Instr{nil, {instr(impl.CoText, len(texts)-1), instr(impl.CoPrint, 1)}}
	for part := range 3 {
		for _, other := range others {
			parts := [][]impl.Instr{other, other, other}
			from := part * len(other)
			parts[part] = moved(list, from)
			c := impl.Code{Texts: texts, List: slices.Concat(parts...), Line: len(parts[0]), End: len(parts[0]) + len(parts[1])}
			all = append(all, placed{c, part, from, from + len(list)})
		}
	}
	return all
}

// drawnArg is an Arg that an instruction may have in a part that ends there.
func drawnArg(r *rand.Rand, texts []string, op int, place int, to int) int {
	switch opForms[op].arg {
	case argCount:
		return 1 + r.IntN(4)
	case argPlace:
		return place + 1 + r.IntN(min(to-place, oneOf(r, 1, 4, 12, 80)))
	case argNone:
		return 0
	}
	for {
		arg := r.IntN(len(texts))
		_, isPattern := impl.ReadPattern(texts[arg])
		kind := opForms[op].arg
		if kind == argText || kind == argName && aStoreName.MatchString(texts[arg]) || kind == argPattern && isPattern {
			return arg
		}
	}
}

// partDrawer draws a right part, place by place; it knows the heights of the places that are come to.
type partDrawer struct {
	r       *rand.Rand
	texts   []string
	to      int
	heights map[int]int
}

// mayStand tells whether an instruction may stand at a place, and notes where it leads to.
func (d *partDrawer) mayStand(in impl.Instr, place int) bool {
	height, isComeTo := d.heights[place]
	if !isComeTo {
		return true
	}
	if in.Op == impl.CoNext {
		return d.r.IntN(12) == 0
	}
	height -= plainTakes(in)
	if height < 0 {
		return false
	}
	height += opForms[in.Op].puts
	next := []int{place + 1, place + 1}
	switch in.Op {
	case impl.CoZero:
		next[1] = in.Arg
	case impl.CoJump:
		next = []int{in.Arg}
	}
	for _, at := range next {
		if known, ok := d.heights[at]; ok && known != height || height > min(maxStack, d.to-at) {
			return false
		}
	}
	for _, at := range next {
		d.heights[at] = height
	}
	return true
}

// drawnPart is a right part of this size, from a place on. Where nothing else fits, CoNext ends it.
func drawnPart(r *rand.Rand, texts []string, from int, size int) []impl.Instr {
	d := &partDrawer{r, texts, from + size, map[int]int{from: 0}}
	list := []impl.Instr{}
	for place := from; place < d.to; place++ {
		in := instr(impl.CoNext, 0)
		for range 60 {
			op := 1 + r.IntN(24)
			if drawn := instr(op, drawnArg(r, texts, op, place, d.to)); d.mayStand(drawn, place) {
				in = drawn
				break
			}
		}
		list = append(list, in)
	}
	return list
}

// drawnCode is right; Compile makes it of no program, most times.
func drawnCode(r *rand.Rand) impl.Code {
	texts := []string{"a", "x*", "z", "t\"\n"}
	for range r.IntN(24) {
		texts = append(texts, drawnMeantText(r, impl.ExText))
	}
	r.Shuffle(len(texts), func(i int, j int) { texts[i], texts[j] = texts[j], texts[i] })
	c := impl.Code{Texts: texts}
	for part := range 3 {
		c.List = append(c.List, drawnPart(r, texts, len(c.List), oneOf(r, 0, 1, 2, r.IntN(12), r.IntN(80)))...)
		switch part {
		case 0:
			c.Line = len(c.List)
		case 1:
			c.End = len(c.List)
		}
	}
	return c
}

// drawnLines has lines, at times more than 20 of them.
func drawnLines(r *rand.Rand) string {
	text := ""
	for range r.IntN(6) {
		text += drawnLine(r) + "\n"
	}
	return text + oneOf(r, "", drawnLine(r), strings.Repeat("a 1\n", r.IntN(25)))
}
