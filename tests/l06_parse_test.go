package tests

import (
	"fmt"
	"math"
	"math/rand/v2"
	"reflect"
	"slices"
	"strings"
	"testing"

	"loop.example/g00237/impl"
)

func mustReadProgram(t *testing.T, s string) impl.Program {
	t.Helper()
	p, ok := impl.ReadProgram(s)
	if !ok || !impl.ProgramOk(p) {
		t.Fatalf("ReadProgram(%q) = %v, %v; ProgramOk %v", s, p, ok, impl.ProgramOk(p))
	}
	return p
}

func checkNoProgram(t *testing.T, s string) {
	t.Helper()
	p, ok := impl.ReadProgram(s)
	if ok || len(p.Nodes) != 0 || len(p.Rules) != 0 {
		t.Fatalf("ReadProgram(%q) = %v, %v; want none", s, p, ok)
	}
}

// checkProgram checks against the plain reader, and answers whether it is a program.
func checkProgram(t *testing.T, s string) bool {
	t.Helper()
	want, _, ok := plainProgram(s)
	if !ok {
		checkNoProgram(t, s)
		return false
	}
	if p := mustReadProgram(t, s); toldProgram(p) != toldProgram(want) {
		t.Fatalf("ReadProgram(%q) =\n%s\nwant\n%s", s, toldProgram(p), toldProgram(want))
	}
	return true
}

// checkNodes checks against nodes and rules that are written out.
func checkNodes(t *testing.T, s string, nodes []impl.Node, rules ...impl.Rule) {
	t.Helper()
	want := impl.Program{Nodes: nodes, Rules: rules}
	if p := mustReadProgram(t, s); toldProgram(p) != toldProgram(want) {
		t.Fatalf("ReadProgram(%q) =\n%s\nwant\n%s", s, toldProgram(p), toldProgram(want))
	}
	checkProgram(t, s)
}

func checkShown(t *testing.T, s string, want string) {
	t.Helper()
	shown, ok := impl.ShowProgram(mustReadProgram(t, s))
	if !ok || shown != want {
		t.Fatalf("%q is shown as %q, %v; want %q", s, shown, ok, want)
	}
}

func checkNotShown(t *testing.T, p impl.Program) {
	t.Helper()
	if shown, ok := impl.ShowProgram(p); ok || shown != "" {
		t.Fatalf("ShowProgram(%v) = %q, %v; want none", p, shown, ok)
	}
}

// checkComesBack checks what is shown of a right program, and what comes back from it, and answers whether something did.
func checkComesBack(t *testing.T, p impl.Program) bool {
	t.Helper()
	want, ok := plainShow(p)
	shown, right := impl.ShowProgram(p)
	if shown != want || right != ok || !impl.ProgramOk(p) {
		t.Fatalf("ShowProgram of\n%s\nis %q, %v; want %q, %v", toldProgram(p), shown, right, want, ok)
	}
	if !ok || !checkProgram(t, shown) {
		return false
	}
	back := mustReadProgram(t, shown)
	if whole := expanded(p); !impl.SameProgram(back, whole) || toldProgram(back) != toldProgram(whole) {
		t.Fatalf("from %q comes back\n%s\nwant\n%s", shown, toldProgram(back), toldProgram(whole))
	}
	if again, fine := impl.ShowProgram(back); !fine || again != shown {
		t.Fatalf("%q comes back as %q, %v", shown, again, fine)
	}
	return true
}

func TestProgramConstants(t *testing.T) {
	ops := []int{
		impl.ExNum, impl.ExText, impl.ExName, impl.ExCell, impl.ExField, impl.ExFields, impl.ExLine, impl.ExLong, impl.ExAdd, impl.ExSub,
		impl.ExMul, impl.ExMod, impl.ExJoin, impl.ExLess, impl.ExSame, impl.ExHas, impl.StPrint, impl.StSet, impl.StAdd, impl.StSetCell,
		impl.StAddCell, impl.StIf, impl.StNext, impl.StBlock, impl.StDump,
	}
	for i, op := range ops {
		if op != i+1 {
			t.Errorf("the Op at %d is %d", i, op)
		}
	}
	if impl.WhenBegin != 1 || impl.WhenLine != 2 || impl.WhenEnd != 3 {
		t.Error("whens")
	}
}

func TestProgramsByHand(t *testing.T) {
	checkNodes(t, "", nil)
	checkNodes(t, " # nothing\n;\n", nil)
	checkNodes(t, "{ }", []impl.Node{node(impl.StBlock, "")}, rule(impl.WhenLine, -1, 0))
	checkNodes(t, "BEGIN{x=007}END{dump x}", []impl.Node{
		node(impl.ExNum, "007"), node(impl.StSet, "x", 0), node(impl.StBlock, "", 1),
		node(impl.StDump, "x"), node(impl.StBlock, "", 3),
	}, rule(impl.WhenBegin, -1, 2), rule(impl.WhenEnd, -1, 4))
	checkNodes(t, "$1 < 3 { n += $2 * 2 }\nEND { print n }", []impl.Node{
		node(impl.ExNum, "1"), node(impl.ExField, "", 0), node(impl.ExNum, "3"), node(impl.ExLess, "", 1, 2),
		node(impl.ExNum, "2"), node(impl.ExField, "", 4), node(impl.ExNum, "2"), node(impl.ExMul, "", 5, 6),
		node(impl.StAdd, "n", 7), node(impl.StBlock, "", 8),
		node(impl.ExName, "n"), node(impl.StPrint, "", 10), node(impl.StBlock, "", 11),
	}, rule(impl.WhenLine, 3, 9), rule(impl.WhenEnd, -1, 12))
	checkNodes(t, "{ if (NF == NR) { a[\"k\"] = b[1]; next } else a[$0] += length(c) . 2 }", []impl.Node{
		node(impl.ExFields, ""), node(impl.ExLine, ""), node(impl.ExSame, "", 0, 1),
		node(impl.ExText, "k"), node(impl.ExNum, "1"), node(impl.ExCell, "b", 4), node(impl.StSetCell, "a", 3, 5),
		node(impl.StNext, ""), node(impl.StBlock, "", 6, 7),
		node(impl.ExNum, "0"), node(impl.ExField, "", 9), node(impl.ExName, "c"), node(impl.ExLong, "", 11),
		node(impl.ExNum, "2"), node(impl.ExJoin, "", 12, 13), node(impl.StAddCell, "a", 10, 14),
		node(impl.StIf, "", 2, 8, 15), node(impl.StBlock, "", 16),
	}, rule(impl.WhenLine, -1, 17))
	checkNodes(t, "(x ~ /a|b/) - 1 { print 1, (2), \"3\"; { } }", []impl.Node{
		node(impl.ExName, "x"), node(impl.ExHas, "a|b", 0), node(impl.ExNum, "1"), node(impl.ExSub, "", 1, 2),
		node(impl.ExNum, "1"), node(impl.ExNum, "2"), node(impl.ExText, "3"), node(impl.StPrint, "", 4, 5, 6),
		node(impl.StBlock, ""), node(impl.StBlock, "", 7, 8),
	}, rule(impl.WhenLine, 3, 9))
}

func TestShownByHand(t *testing.T) {
	checkShown(t, "", "")
	checkShown(t, "#\n;;", "")
	checkShown(t, "{}", "{ }\n")
	checkShown(t, "BEGIN{}{}END{}x{}", "BEGIN { }\n{ }\nEND { }\nx { }\n")
	checkShown(t, "$1<3{n+=$2*2}END{print n}", "($(1) < 3) { n += ($(2) * 2) }\nEND { print n }\n")
	checkShown(t, "{x=1;y[x]=2;x+=3;y[\"\"]+=x;;next;dump y\n}", "{ x = 1; y[x] = 2; x += 3; y[\"\"] += x; next; dump y }\n")
	checkShown(t, "{print 1,x,NF,NR}", "{ print 1, x, NF, NR }\n")
	checkShown(t, "{if(x)next}", "{ if (x) next }\n")
	checkShown(t, "{if(x)next else{}}", "{ if (x) next else { } }\n")
	checkShown(t, "{if(x<y){print 1}else print 2}", "{ if ((x < y)) { print 1 } else print 2 }\n")
	checkShown(t, "{{{next}}}", "{ { { next } } }\n")
	checkShown(t, "length(x)~/a+/{}", "(length(x) ~ /a+/) { }\n")
	checkShown(t, "$$(1){}", "$($(1)) { }\n")
	checkShown(t, "$(1+2){}", "$((1 + 2)) { }\n")
	checkShown(t, "length(1+2){}", "length((1 + 2)) { }\n")
	checkShown(t, "x[1+2]{}", "x[(1 + 2)] { }\n")
	checkShown(t, "1+2-3*4%5 .6{}", "(((1 + 2) - ((3 * 4) % 5)) . 6) { }\n")
	checkShown(t, "007==\"# ; }\"{}", "(007 == \"# ; }\") { }\n")
}

// programTexts has every Op, every When, with and without an If.
func programTexts() []string {
	return append(programs(),
		"{ }",
		"{ { }; { { } } }",
		"BEGIN { a = 1; b += a; c[a] = b; c[b] += a } END { dump c; dump a }",
		"1 { print 1 }",
		"x { next } y[1] { next } $1 { next } NF { next } NR { next } length(1) { next } \"\" { next } (x) { next }",
		"x + 1 { } x - 1 { } x * 1 { } x % 1 { } x . 1 { } x < 1 { } x == 1 { } x ~ /1/ { }",
		"{ if (x) next; if (x) next else next; if (x) { if (y) next else next } else { if (z) next } }",
		"{ print a; print a, b; print a, b, c; print a, b, c, d }",
	)
}

func TestProgramsComeBack(t *testing.T) {
	seen := map[int]bool{}
	for _, s := range programTexts() {
		p := mustReadProgram(t, s)
		for _, node := range p.Nodes {
			seen[node.Op] = true
		}
		if !checkComesBack(t, p) {
			t.Errorf("%q does not come back", s)
		}
		shown, _ := impl.ShowProgram(p)
		if back := mustReadProgram(t, shown); !impl.SameProgram(p, back) {
			t.Errorf("%q comes back as another one", s)
		}
	}
	for op := impl.ExNum; op <= impl.StDump; op++ {
		if !seen[op] {
			t.Errorf("no program has Op %d", op)
		}
	}
}

func oneOf[T any](r *rand.Rand, list ...T) T {
	return list[r.IntN(len(list))]
}

func drawnNodeText(r *rand.Rand, op int) string {
	for {
		text := oneOf(r, "", "0", "007", "999999", "x", "Zz", "lengths", "abcdefgh", "a b", "#;}/", "\xff→", "a|b", "[^\"]", strings.Repeat("~", 24))
		if isPlainText(op, text) {
			return text
		}
	}
}

// drawnKids are places of nodes that are there already, as the Op wants them; without them it answers false.
func drawnKids(r *rand.Rand, nodes []impl.Node, op int) ([]int, bool) {
	for range 60 {
		kids, letters := []int{}, ""
		for range r.IntN(5) {
			if len(nodes) > 0 {
				// Late ones are taken more often, so that it grows deep, too.
				kid := max(r.IntN(len(nodes)), r.IntN(len(nodes)))
				kids = append(kids, kid)
				letters += kidLetter(nodes[kid].Op)
			}
		}
		if kidForms[op].MatchString(letters) {
			return kids, true
		}
	}
	return nil, false
}

// drawnProgram is a right program, whose nodes may be named several times or never.
func drawnProgram(r *rand.Rand, nodes int, rules int) impl.Program {
	p := impl.Program{}
	for len(p.Nodes) < nodes {
		op := 1 + r.IntN(impl.StDump)
		if kids, ok := drawnKids(r, p.Nodes, op); ok {
			p.Nodes = append(p.Nodes, node(op, drawnNodeText(r, op), kids...))
		}
	}
	tests, blocks := []int{}, []int{}
	for place, node := range p.Nodes {
		if node.Op <= impl.ExHas {
			tests = append(tests, place)
		}
		if node.Op == impl.StBlock {
			blocks = append(blocks, place)
		}
	}
	for len(p.Rules) < rules && len(blocks) > 0 {
		when, test := 1+r.IntN(3), -1
		if when == impl.WhenLine && len(tests) > 0 && r.IntN(2) == 0 {
			test = oneOf(r, tests...)
		}
		p.Rules = append(p.Rules, rule(when, test, oneOf(r, blocks...)))
	}
	return p
}

func TestDrawnProgramsComeBack(t *testing.T) {
	back := 0
	for k := range uint64(6000) {
		r := rand.New(rand.NewPCG(6, k))
		nodes := []int{5, 10, 20, 40, maxNodes}[k%5]
		if checkComesBack(t, drawnProgram(r, r.IntN(nodes+1), r.IntN(maxRules+1))) {
			back++
		}
	}
	if back < 2000 {
		t.Errorf("only %d came back", back)
	}
}

func TestNodesThatAreNamedOftenAreShownOften(t *testing.T) {
	p := impl.Program{Nodes: []impl.Node{
		node(impl.ExName, "x"), node(impl.ExAdd, "", 0, 0), node(impl.ExAdd, "", 1, 1),
		node(impl.StPrint, "", 2, 0), node(impl.StBlock, "", 3, 3), node(impl.ExNum, "9"),
	}, Rules: []impl.Rule{rule(impl.WhenLine, 0, 4), rule(impl.WhenLine, 0, 4), rule(impl.WhenEnd, -1, 4)}}
	block := "{ print ((x + x) + (x + x)), x; print ((x + x) + (x + x)), x }\n"
	want := "x " + block + "x " + block + "END " + block
	if shown, ok := impl.ShowProgram(p); !ok || shown != want {
		t.Errorf("ShowProgram = %q, %v; want %q", shown, ok, want)
	}
	if !checkComesBack(t, p) {
		t.Error("it does not come back")
	}
}

func TestProgramsWithoutRules(t *testing.T) {
	for _, p := range []impl.Program{
		{},
		{Nodes: []impl.Node{}, Rules: []impl.Rule{}},
		{Nodes: []impl.Node{node(impl.ExNum, "1"), node(impl.StBlock, "")}},
	} {
		if shown, ok := impl.ShowProgram(p); !ok || shown != "" {
			t.Errorf("ShowProgram(%v) = %q, %v; want nothing, true", p, shown, ok)
		}
		if !checkComesBack(t, p) {
			t.Errorf("%v does not come back", p)
		}
	}
}

// endings has none, one and several ToEnd.
func endings() []string {
	return []string{"", " ", ";", "\n", " ; ", ";;", "\n\n", " # r\n", ";\n;# r\n\t;"}
}

func TestEndsAroundRules(t *testing.T) {
	want := toldProgram(mustReadProgram(t, "BEGIN { } { } x { } END { }"))
	for _, ahead := range endings() {
		for _, between := range endings() {
			for _, behind := range endings() {
				s := ahead + strings.Join([]string{"BEGIN { }", "{ }", "x { }", "END { }"}, between) + behind
				if got := toldProgram(mustReadProgram(t, s)); got != want {
					t.Fatalf("ReadProgram(%q) =\n%s\nwant\n%s", s, got, want)
				}
				checkProgram(t, s)
			}
		}
	}
}

func TestEndsWithinRules(t *testing.T) {
	for _, end := range endings()[2:] {
		for _, s := range []string{"BEGIN ? { }", "END ? { }", "x ? { }", "x ? + 1 { }", "$ ? 1 { }", "x < ? 1 { }", "x ? ~ /a/ { }"} {
			checkNoProgram(t, strings.Replace(s, "?", end, 1))
			checkProgram(t, strings.Replace(s, "?", "", 1))
		}
	}
}

func TestEndsAroundStatements(t *testing.T) {
	statements := []string{"next", "print x", "{ }", "x = 1", "if (x) next", "if (x) { next } else { next }", "dump x", "y[1] += 2"}
	for _, first := range statements {
		for _, second := range statements {
			want := toldProgram(mustReadProgram(t, "{ "+first+"; "+second+" }"))
			for _, ahead := range endings() {
				for _, between := range append([]string{" ", "\t"}, endings()[2:]...) {
					for _, behind := range endings() {
						s := "{" + ahead + first + between + second + behind + "}"
						if between == " " || between == "\t" {
							checkNoProgram(t, s)
							continue
						}
						if got := toldProgram(mustReadProgram(t, s)); got != want {
							t.Fatalf("ReadProgram(%q) =\n%s\nwant\n%s", s, got, want)
						}
					}
				}
			}
		}
	}
}

func TestEndsInEmptyBlocks(t *testing.T) {
	for _, end := range endings() {
		checkNodes(t, "{"+end+"}", []impl.Node{node(impl.StBlock, "")}, rule(impl.WhenLine, -1, 0))
		checkNodes(t, "{ {"+end+"}}", []impl.Node{node(impl.StBlock, ""), node(impl.StBlock, "", 0)}, rule(impl.WhenLine, -1, 1))
	}
}

func TestEndsWithinStatements(t *testing.T) {
	statements := []string{
		"print ? x", "print x ? , y", "print x , ? y", "dump ? x", "x ? = 1", "x = ? 1", "x ? += 1", "x += ? 1", "x ? [ 1 ] = 1", "x [ ? 1 ] = 1",
		"x [ 1 ? ] = 1", "x [ 1 ] ? = 1", "x [ 1 ] += ? 1", "if ? ( x ) next", "if ( ? x ) next", "if ( x ? ) next", "if ( x ) ? next",
		"if ( x ) ? { next }", "if ( x ) next ? else next", "if ( x ) { next } ? else next", "if ( x ) next else ? next", "if ( x ) next else ? { next }",
		"x = 1 ? + 1", "x = 1 + ? 1", "x = ( ? 1 )", "x = ( 1 ? )", "x = $ ? 1", "x = length ? ( 1 )", "x = length ( ? 1 )", "x = y ? [ 1 ]", "x = y [ ? 1 ]",
		"x = y ? < 1", "x = y == ? 1", "x = y ? ~ /a/",
	}
	for _, s := range statements {
		mustReadProgram(t, "{ "+strings.Replace(s, "?", "", 1)+" }")
		for _, end := range endings()[2:] {
			checkNoProgram(t, "{ "+strings.Replace(s, "?", end, 1)+" }")
		}
	}
	// Around the statements of a block within a statement they may stand.
	for _, end := range endings()[2:] {
		mustReadProgram(t, "{ if ( x ) { "+end+" next "+end+" } else { "+end+" next "+end+" } "+end+" }")
	}
}

func TestTwoStatementsWithNoEndBetween(t *testing.T) {
	for _, s := range []string{
		"{ print 1 2 }", "{ next next }", "{ next print 1 }", "{ { } { } }", "{ { } next }", "{ next { } }", "{ if (x) next next }", "{ if (x) { } next }",
		"{ if (x) next else next next }", "{ x = 1 y = 2 }", "{ x = 1 next }", "{ dump x dump y }", "{ dump x y }", "{ print x y }", "{ print x, }", "{ print , x }",
		"{ print x,, y }", "{ next, next }", "{ print \"a\" \"b\" }", "{ x y }", "{ x }", "{ 1 }", "{ $1 }", "{ (x) = 1 }", "{ $1 = 2 }", "{ x[1] }", "{ x == 1 }",
		"{ x[1][2] = 1 }", "{ x = y = 1 }", "{ x + = 1 }", "{ else next }", "{ if x next }", "{ if () next }", "{ if (x) }", "{ if (x) else next }", "{ if (x) next else }",
		"{ if (x) next else next else next }", "{ print }", "{ print; }", "{ dump }", "{ dump 1 }", "{ dump \"x\" }", "{ dump x[1] }", "{ dump (x) }",
	} {
		checkNoProgram(t, s)
		checkProgram(t, s)
	}
}

func TestRulesThatAreNone(t *testing.T) {
	for _, s := range []string{
		"x", "1", "next", "print 1", "x = 1", "BEGIN", "END", "BEGIN END { }", "BEGIN x { }", "BEGIN BEGIN { }", "x y { }", "x, y { }", "{", "}", "{ } }", "{ { }", "{ ( }",
		"( { }", "(x { }", "x) { }", "[x] { }", "x[1 { }", "x] { }", "$ { }", "+ { }", "x + { }", "+ 1 { }", "- 1 { }", "x < { }", "< 1 { }", "x ~ { }", "x ~ y { }", "x ~ \"a\" { }",
		"x ~ 1 { }", "~ /a/ { }", "/a/ { }", "x ~ /a/ /b/ { }", "x ~ /*/ { }", "x ~ // { }", "x ~ (/a/) { }", "x ~ /a/ + 1 { }", "length { }", "length x { }", "length() { }", "length 1 { }",
		"length[1] { }", "length $1 { }", "() { }", "(1)(2) { }", "x[] { }", "x(1) { }", "1[1] { }", "$x[1] y { }", "print { }", "if (x) { }", "else { }", "dump x { }", "next { }",
		"x . { }", ". x { }", "1 . . 2 { }", "x = 1 { }", "x += 1 { }", "{ } x", "{ } 1 { ", "x ; { ", "!", "{ ! }", "{ \"a }", "x == == 1 { }", "x * % 1 { }", "$$ { }", "$() { }",
	} {
		checkNoProgram(t, s)
		checkProgram(t, s)
	}
}

func TestWhatIsReckonedFirst(t *testing.T) {
	for s, want := range map[string]string{
		"a + b + c": "((a + b) + c)", "a - b - c": "((a - b) - c)", "a - b + c": "((a - b) + c)", "a + b - c": "((a + b) - c)",
		"a * b * c": "((a * b) * c)", "a % b % c": "((a % b) % c)", "a % b * c": "((a % b) * c)", "a * b % c": "((a * b) % c)",
		"a . b . c": "((a . b) . c)", "a + b * c": "(a + (b * c))", "a * b + c": "((a * b) + c)", "a - b % c": "(a - (b % c))",
		"a . b + c": "(a . (b + c))", "a + b . c": "((a + b) . c)", "a . b * c": "(a . (b * c))", "a * b . c": "((a * b) . c)",
		"a < b + c": "(a < (b + c))", "a + b < c": "((a + b) < c)", "a < b . c": "(a < (b . c))", "a . b == c": "((a . b) == c)",
		"a . b ~ /c/": "((a . b) ~ /c/)", "a * b ~ /c/": "((a * b) ~ /c/)", "a + b == c - d": "((a + b) == (c - d))",
		"a . b + c * d % e - f . g": "((a . ((b + ((c * d) % e)) - f)) . g)",
		"(a + b) * c":               "((a + b) * c)", "a * (b + c)": "(a * (b + c))", "a - (b - c)": "(a - (b - c))", "a . (b . c)": "(a . (b . c))",
		"(a < b) < c": "((a < b) < c)", "a < (b < c)": "(a < (b < c))", "(a == b) ~ /c/": "((a == b) ~ /c/)", "(a ~ /b/) ~ /c/": "((a ~ /b/) ~ /c/)",
		"$a + b": "($(a) + b)", "$a . b": "($(a) . b)", "$a < b": "($(a) < b)", "$a * $b": "($(a) * $(b))", "$a[b]": "$(a[b])", "$$a": "$($(a))",
		"$(a + b)": "$((a + b))", "$length(a)": "$(length(a))", "$NF": "$(NF)", "$NR": "$(NR)", "$1": "$(1)", "$\"1\"": "$(\"1\")", "$((a))": "$(a)", "$$$a[1]": "$($($(a[1])))",
		"((a))": "a", "(((a + b)))": "(a + b)", "a[b < c]": "a[(b < c)]", "length(a ~ /b/)": "length((a ~ /b/))", "a[b]": "a[b]",
	} {
		checkShown(t, s+" { }", want+" { }\n")
		checkShown(t, "{ x = "+s+" }", "{ x = "+want+" }\n")
		checkShown(t, "{ x["+s+"] += "+s+" }", "{ x["+want+"] += "+want+" }\n")
		checkShown(t, "{ print "+s+", "+s+" }", "{ print "+want+", "+want+" }\n")
		checkShown(t, "{ if ("+s+") next }", "{ if ("+want+") next }\n")
		checkProgram(t, s+" { }")
	}
}

func TestRowsOfAllSigns(t *testing.T) {
	signs := []string{"+", "-", "*", "%", ".", "<", "==", "~"}
	for _, a := range signs {
		for _, b := range signs {
			for _, c := range signs {
				read := checkProgram(t, "a "+a+" b "+b+" c "+c+" d { }")
				if read != (countOf([]string{a, b, c}, "<", "==") <= 1 && countOf([]string{a, b, c}, "~") == 0) {
					t.Fatalf("a %s b %s c %s d: %v", a, b, c, read)
				}
				checkProgram(t, "a "+a+" ( b "+b+" c ) "+c+" d { }")
				checkProgram(t, "a "+a+" $ b "+b+" c [ d "+c+" e ] { }")
				checkProgram(t, "a "+a+" b "+b+" c "+c+" /d/ { }")
				checkProgram(t, "( a "+a+" /b/ ) "+b+" ( c "+c+" /d/ ) { }")
			}
		}
	}
}

func countOf(list []string, these ...string) int {
	count := 0
	for _, text := range list {
		if slices.Contains(these, text) {
			count++
		}
	}
	return count
}

func TestOneComparedAlone(t *testing.T) {
	for _, a := range []string{"< 1", "== 1", "~ /1/"} {
		mustReadProgram(t, "x "+a+" { }")
		for _, b := range []string{"< 1", "== 1", "~ /1/"} {
			checkNoProgram(t, "x "+a+" "+b+" { }")
			checkNoProgram(t, "{ print x "+a+" "+b+" }")
			checkNoProgram(t, "{ if (x "+a+" "+b+") next }")
			mustReadProgram(t, "(x "+a+") "+b+" { }")
			mustReadProgram(t, "{ print x "+a+", x "+b+" }")
			mustReadProgram(t, "{ y[x "+a+"] = x "+b+" }")
		}
	}
}

func TestNames(t *testing.T) {
	uses := []string{"{ dump ? }", "{ ? = 1 }", "{ ? += 1 }", "{ ?[1] = 1 }", "{ ?[1] += 1 }", "{ print ?[1] }", "?[1] { }", "{ x[?[1]] = 1 }"}
	alone := []string{"{ print ? }", "? { }", "{ x = $? }", "{ x[?] = (?) }", "{ if (?) next }", "{ x = length(?) }"}
	for _, name := range []string{"a", "Z", "abcdefgh", "ABCDEFGH", "Begin", "begin", "end", "BEGINS", "prints", "Print", "nex", "nextt", "dumpx", "IF", "iff", "elsee", "Length", "lengths", "nf", "Nr", "NFF", "N"} {
		for _, use := range slices.Concat(uses, alone) {
			s := strings.ReplaceAll(use, "?", name)
			mustReadProgram(t, s)
			checkProgram(t, s)
		}
	}
	for _, name := range append(wordsNoNames, "abcdefghi", "ABCDEFGHI", "1", "12", "\"a\"", "", "$", "a1", "a b", "a_", "(a)", "ä") {
		for _, use := range uses {
			checkNoProgram(t, strings.ReplaceAll(use, "?", name))
		}
	}
	for _, name := range wordsNoNames {
		for _, use := range alone {
			s := strings.ReplaceAll(use, "?", name)
			isRule := use == "? { }" && (name == "BEGIN" || name == "END")
			if read := checkProgram(t, s); read != (isRule || name == "NF" || name == "NR") {
				t.Errorf("ReadProgram(%q) is %v", s, read)
			}
		}
	}
}

func TestNumbersAndTextsInPrograms(t *testing.T) {
	for _, number := range []string{"0", "7", "007", "000000", "123456", "999999"} {
		checkNodes(t, number+" { }", []impl.Node{node(impl.ExNum, number), node(impl.StBlock, "")}, rule(impl.WhenLine, 0, 1))
		checkShown(t, number+"{}", number+" { }\n")
	}
	for _, number := range []string{"0000000", "1234567", "-1", "1.", ".1", "1 2", "+1", "0x1"} {
		checkNoProgram(t, number+" { }")
	}
	for _, text := range []string{"", " ", "a", "#", ";", "}", "/", "\\", "\t\x00\xff", "→ä", strings.Repeat("x", 30), strings.Repeat("\xff", 30)} {
		checkNodes(t, `"`+text+`" { }`, []impl.Node{node(impl.ExText, text), node(impl.StBlock, "")}, rule(impl.WhenLine, 0, 1))
		checkShown(t, `"`+text+`"{}`, `"`+text+`" { }`+"\n")
	}
	for _, text := range []string{`"`, "\n", "a\n", strings.Repeat("x", 31), strings.Repeat("→", 10) + "x"} {
		checkNoProgram(t, `"`+text+`" { }`)
	}
	// A text that looks like a sign or a word is none.
	for _, text := range []string{"(", "{", "}", ";", "next", "NF", "BEGIN", "~", "x"} {
		checkNoProgram(t, `"`+text+`"`)
		checkNoProgram(t, `{ "`+text+`" }`)
		checkNoProgram(t, `{ "`+text+`" = 1 }`)
		checkNoProgram(t, `{ print 1 "`+text+`" print 2 }`)
		checkNoProgram(t, `{ print "`+text+`"[1] }`)
	}
}

func TestPatternsInPrograms(t *testing.T) {
	for _, text := range []string{"a", "^a(b|c)*$", "[^\"#;]", " ", "\\*", "|", strings.Repeat("x", 24), "\xff\x00"} {
		checkNodes(t, "x~/"+text+"/{ }", []impl.Node{node(impl.ExName, "x"), node(impl.ExHas, text, 0), node(impl.StBlock, "")}, rule(impl.WhenLine, 1, 2))
		checkShown(t, "x~/"+text+"/{}", "(x ~ /"+text+"/) { }\n")
	}
	for _, text := range []string{"", "*", "(", "a)", "[]", "\\a", "\n", "a\nb", strings.Repeat("x", 25)} {
		checkNoProgram(t, "x ~ /"+text+"/ { }")
	}
}

func TestLimitsOfProgramsThatAreRead(t *testing.T) {
	for count := range 8 {
		s := "{ print " + strings.Join(slices.Repeat([]string{"x"}, count), ", ") + " }"
		if read := checkProgram(t, s); read != (count >= 1 && count <= 4) {
			t.Errorf("print of %d is read: %v", count, read)
		}
	}
	for count := range 24 {
		for _, end := range []string{"", ";"} {
			s := "{ " + strings.Join(slices.Repeat([]string{"next"}, count), ";") + end + " }"
			if read := checkProgram(t, s); read != (count <= 20) {
				t.Errorf("a block of %d is read: %v", count, read)
			}
			if read := checkProgram(t, "{ "+s+"; next }"); read != (count <= 20) {
				t.Errorf("a block of %d within another is read: %v", count, read)
			}
		}
	}
	for count := range 16 {
		for _, s := range []string{"{}", "x{}", "BEGIN{}\n", "END{};"} {
			if read := checkProgram(t, strings.Repeat(s, count)); read != (count <= 12) {
				t.Errorf("%d times %q is read: %v", count, s, read)
			}
		}
	}
	for _, s := range []string{
		"{ if (x) if (y) next }", "{ if (x) if (y) next else next }", "{ if (x) next else if (y) next }", "{ if (x) if (y) next else next else next }",
		"{ if (x) { } else if (y) { } }",
	} {
		checkNoProgram(t, s)
	}
	mustReadProgram(t, "{ if (x) { if (y) next } else { if (y) next } }")
}

func TestLengthsOfProgramsThatAreRead(t *testing.T) {
	s := "{ x = 1 }"
	mustReadProgram(t, s+strings.Repeat(" ", maxProgram-len(s)))
	checkNoProgram(t, s+strings.Repeat(" ", maxProgram+1-len(s)))
	mustReadProgram(t, s+strings.Repeat(";", maxTokens-5))
	checkNoProgram(t, s+strings.Repeat(";", maxTokens-4))
	for _, huge := range []string{strings.Repeat("(", 100000), strings.Repeat("{", 599), strings.Repeat("$", 200), strings.Repeat("{", 200), strings.Repeat("((", 100), strings.Repeat("x[", 100)} {
		checkNoProgram(t, huge)
	}
	// As many nodes as tokens give: a sum of a hundred.
	sum := "{ x = 1" + strings.Repeat("+1", 97) + "}"
	checkNodesCount(t, sum, 1+2*97+2)
}

func checkNodesCount(t *testing.T, s string, want int) {
	t.Helper()
	if p := mustReadProgram(t, s); len(p.Nodes) != want {
		t.Errorf("ReadProgram(%q) has %d nodes; want %d", s, len(p.Nodes), want)
	}
	checkProgram(t, s)
}

// checkDeep checks what is said to be so deep: it is read up to the limit, and not beyond.
func checkDeep(t *testing.T, s string, deep int) {
	t.Helper()
	if _, plain, _ := plainProgram(s); plain != deep {
		t.Fatalf("%q is %d deep; said to be %d", s, plain, deep)
	}
	if deep > maxDeep {
		checkNoProgram(t, s)
	} else if !checkProgram(t, s) {
		t.Fatalf("%q is not read, though it is %d deep", s, deep)
	}
}

func TestDepthByHand(t *testing.T) {
	in := func(open string, inner string, shut string, times int) string {
		return strings.Repeat(open, times) + inner + strings.Repeat(shut, times)
	}
	for times := range 32 {
		checkDeep(t, in("$", "1", "", times)+"{}", 2+times)
		checkDeep(t, in("(", "1", ")", times)+"{}", 2+2*times)
		checkDeep(t, in("length(", "NF", ")", times)+"{}", 2+2*times)
		checkDeep(t, in("x[", "\"\"", "]", times)+"{}", 2+2*times)
		checkDeep(t, in("$(", "1", ")", times)+"{}", 2+3*times)
		checkDeep(t, in("(1<", "1", ")", times)+"{}", 2+2*times)
		checkDeep(t, in("(1 .", "1", ")", times)+"{}", 2+2*times)
		checkDeep(t, "{ x = "+in("$", "1", "", times)+"}", 3+times)
		checkDeep(t, "{ x["+in("$", "1", "", times)+"] += 1 }", 3+times)
		checkDeep(t, "{ print 1, "+in("$", "1", "", times)+"}", 3+times)
		checkDeep(t, "{ if ("+in("$", "1", "", times)+") next }", 3+times)
		checkDeep(t, in("{", "", "}", times+1), times)
		checkDeep(t, in("{", "next", "}", times+1), times+1)
		checkDeep(t, in("{", "dump x", "}", times+1), times+1)
		checkDeep(t, in("{", "print x", "}", times+1), times+3)
		checkDeep(t, "BEGIN"+in("{", "x=$1", "}", times+1), times+4)
		checkDeep(t, "{"+in("if(1){", "", "}", times+1)+"}", 2*(times+1)+1)
	}
	// Side by side is no deeper.
	checkDeep(t, "x"+strings.Repeat("+x", 90)+"{}", 2)
	checkDeep(t, "x"+strings.Repeat(".x*x", 45)+"==x{}", 2)
	checkDeep(t, strings.Repeat("{};", 12), 0)
	checkDeep(t, "{"+strings.Repeat("{};", 20)+"}", 1)
	checkDeep(t, strings.Repeat(strings.Repeat("$", 28)+"1{}", 5), 30)
	checkDeep(t, strings.Repeat("$", 28)+"1"+strings.Repeat("+"+strings.Repeat("$", 28)+"1", 4)+"{}", 30)
	checkDeep(t, strings.Repeat("$", 28)+"1<"+strings.Repeat("$", 29)+"1{}", 31)
}

// drawnDeep grows from the inside out, with how deep it is then, till it is as deep as it is to be.
func drawnDeep(r *rand.Rand, deep int) string {
	wrap := func(s string, form string) string { return strings.Replace(form, "?", s, 1) }
	s, height := "1", 1
	expressions := r.IntN(deep - 3)
	for height < expressions {
		if r.IntN(3) == 0 {
			s, height = "$ "+s, height+1
			continue
		}
		s = wrap(s, oneOf(r, "( ? )", "length( ? )", "x[ ? ]", "( ? + 1 )", "( 1 * ? )", "( ? < 1 )", "( x == ? )", "( ? ~ /a/ )"))
		height += 2
	}
	if r.IntN(4) == 0 {
		return strings.Repeat("$ ", deep-height-1) + s + " { }"
	}
	s = wrap(s, oneOf(r, "print ?", "print 1, ?", "x = ?", "x += ?", "x[ ? ] = 1", "x[ 1 ] += ?", "if ( ? ) { }", "if ( ? ) { } else { }"))
	height += 2
	for height < deep {
		if !strings.HasPrefix(s, "if") && r.IntN(2) == 0 {
			s = wrap(s, oneOf(r, "if (1) ?", "if (1) next else ?"))
		} else {
			s = wrap(s, oneOf(r, "{ ? }", "{ next; ? }", "{ ? ; next }", "{ ; ? ; }"))
		}
		height++
	}
	return oneOf(r, "", "BEGIN", "END", "x") + " { " + s + " }"
}

func TestDrawnDepths(t *testing.T) {
	read := 0
	for k := range uint64(4000) {
		r := rand.New(rand.NewPCG(61, k))
		deep := 26 + r.IntN(8)
		s := drawnDeep(r, deep)
		if len(s) > maxProgram {
			continue
		}
		checkDeep(t, s, deep)
		if deep == maxDeep {
			read++
		}
	}
	if read < 200 {
		t.Errorf("only %d are as deep as may be", read)
	}
}

// drafter draws texts that are programs as a rule; left is how many more parts it draws.
type drafter struct {
	r    *rand.Rand
	left int
}

func (d *drafter) goesOn() bool {
	d.left--
	return d.left > 0
}

func (d *drafter) simple() string {
	if d.goesOn() {
		switch d.r.IntN(8) {
		case 0:
			return "$ " + d.simple()
		case 1:
			return "( " + d.expression() + " )"
		case 2:
			return "length ( " + d.expression() + " )"
		case 3:
			return "y [ " + d.expression() + " ]"
		}
	}
	return oneOf(d.r, "x", "1", "NF", "NR", `"t"`)
}

func (d *drafter) row() string {
	s := d.simple()
	for d.r.IntN(3) == 0 && d.goesOn() {
		s += oneOf(d.r, " + ", " - ", " * ", " % ", " . ") + d.simple()
	}
	return s
}

func (d *drafter) expression() string {
	s := d.row()
	switch d.r.IntN(6) {
	case 0:
		return s + oneOf(d.r, " < ", " == ") + d.row()
	case 1:
		return s + " ~ /p/"
	}
	return s
}

func (d *drafter) statement() string {
	if d.goesOn() {
		switch d.r.IntN(6) {
		case 0:
			return d.block()
		case 1:
			s := "print " + d.expression()
			for d.r.IntN(3) == 0 {
				s += " , " + d.expression()
			}
			return s
		case 2:
			return oneOf(d.r, "x", "y [ "+d.expression()+" ]") + oneOf(d.r, " = ", " += ") + d.expression()
		case 3:
			return "if ( " + d.expression() + " ) " + d.statement()
		case 4:
			return "if ( " + d.expression() + " ) " + d.statement() + " else " + d.statement()
		}
	}
	return oneOf(d.r, "next", "dump x", "x = 1")
}

func (d *drafter) block() string {
	parts := []string{}
	for d.r.IntN(3) > 0 && d.goesOn() {
		parts = append(parts, d.statement())
	}
	ends := endings()
	return "{" + oneOf(d.r, ends...) + strings.Join(parts, oneOf(d.r, ends[2:]...)) + oneOf(d.r, ends...) + "}"
}

func (d *drafter) program() string {
	s := oneOf(d.r, endings()...)
	for d.r.IntN(4) > 0 && d.goesOn() {
		head := oneOf(d.r, "BEGIN", "END", "")
		if head == "" && d.r.IntN(2) == 0 {
			head = d.expression()
		}
		s += head + " " + d.block() + oneOf(d.r, endings()...)
	}
	return s
}

func TestDraftedPrograms(t *testing.T) {
	read := 0
	for k := range uint64(8000) {
		d := &drafter{rand.New(rand.NewPCG(62, k)), 5 + int(k%40)}
		s := d.program()
		if checkProgram(t, s) {
			read++
			checkComesBack(t, mustReadProgram(t, s))
		}
	}
	if read < 5000 {
		t.Errorf("only %d are programs", read)
	}
}

// turned is a row of tokens in which one is taken away, put in, put in the place of another, or moved.
func turned(r *rand.Rand, tokens []impl.Token) []impl.Token {
	all := append(someTokens(), token(impl.ToPattern, "p"))
	for _, word := range wordsNoNames {
		all = append(all, token(impl.ToName, word))
	}
	tokens = slices.Clone(tokens)
	if len(tokens) == 0 {
		return []impl.Token{oneOf(r, all...)}
	}
	at := r.IntN(len(tokens))
	switch r.IntN(4) {
	case 0:
		return slices.Delete(tokens, at, at+1)
	case 1:
		return slices.Insert(tokens, at, oneOf(r, all...))
	case 2:
		tokens[at] = oneOf(r, all...)
	case 3:
		other := r.IntN(len(tokens))
		tokens[at], tokens[other] = tokens[other], tokens[at]
	}
	return tokens
}

func TestTurnedPrograms(t *testing.T) {
	read, unread := 0, 0
	for k := range uint64(40000) {
		r := rand.New(rand.NewPCG(63, k))
		d := &drafter{r, 3 + int(k%25)}
		tokens, _ := impl.Tokens(d.program())
		for range 1 + r.IntN(2) {
			tokens = turned(r, tokens)
		}
		words := []string{}
		for _, token := range tokens {
			words = append(words, written(token))
		}
		if checkProgram(t, strings.Join(words, " ")) {
			read++
		} else {
			unread++
		}
	}
	if read < 4000 || unread < 4000 {
		t.Errorf("%d are programs, and %d are none", read, unread)
	}
}

func TestAllShortPrograms(t *testing.T) {
	forms := map[string][]string{
		"?":               {"{", "}", ";", "x", "BEGIN", "END", "1", "next"},
		"{ ? }":           {"{", "}", ";", "x", "=", "next", "print", ",", "1", "dump"},
		"{ if ( x ) ? }":  {"next", "else", ";", "{", "}", "x", "= 1", "if ( y )"},
		"{ if ? next }":   {"(", ")", "x", ";", "1", "["},
		"{ x ? }":         {"[", "]", "=", "+=", "1", ";", "y"},
		"? { }":           {"x", "(", ")", "$", "+", "<", "~", "/p/", "length"},
		"{ print ? }":     {"x", "[", "]", ".", "*", "==", ",", "NF", "1"},
		"{ x = 1 ? } { }": {";", "}", "{", "+", "2", "next", "y = 3"},
	}
	for form, words := range forms {
		rows := []string{""}
		for range 5 {
			longer := []string{}
			for _, row := range rows {
				for _, word := range words {
					longer = append(longer, row+" "+word)
				}
			}
			for _, row := range longer {
				checkProgram(t, strings.Replace(form, "?", row, 1))
			}
			rows = longer
		}
	}
}

// checkOkProgram checks ProgramOk, and that nothing is shown of what is not right.
func checkOkProgram(t *testing.T, p impl.Program, want bool) {
	t.Helper()
	if plain := plainOk(p); plain != want {
		t.Fatalf("said to be %v, but %v:\n%s", want, plain, toldProgram(p))
	}
	if got := impl.ProgramOk(p); got != want {
		t.Fatalf("ProgramOk is %v; want %v, of\n%s", got, want, toldProgram(p))
	}
	if !want {
		checkNotShown(t, p)
	} else if _, ok := impl.ShowProgram(p); !ok && plainComesTo(p) <= maxComeTo {
		t.Fatalf("not shown:\n%s", toldProgram(p))
	}
}

// groundNodes has an expression, a StIf, a StBlock, another statement and another expression, for others to name.
func groundNodes() []impl.Node {
	return []impl.Node{
		node(impl.ExNum, "1"), node(impl.StNext, ""), node(impl.StIf, "", 0, 1), node(impl.StBlock, ""), node(impl.ExName, "x"),
	}
}

// rightText is a Text that this Op may have.
func rightText(op int) string {
	for _, text := range []string{"", "1", "x", "p"} {
		if isPlainText(op, text) {
			return text
		}
	}
	return ""
}

func TestKidsOfEveryOp(t *testing.T) {
	rows := [][]int{{}}
	for from := 0; from < len(rows); from++ {
		if len(rows[from]) < 5 {
			for kid := range len(groundNodes()) {
				rows = append(rows, append(slices.Clone(rows[from]), kid))
			}
		}
	}
	for op := -1; op <= impl.StDump+2; op++ {
		right := 0
		for _, kids := range rows {
			p := impl.Program{Nodes: append(groundNodes(), node(op, rightText(op), kids...))}
			ok := plainOk(p)
			checkOkProgram(t, p, ok)
			if ok {
				right++
			}
		}
		if (right > 0) != (op >= impl.ExNum && op <= impl.StDump) {
			t.Errorf("of Op %d %d are right", op, right)
		}
	}
}

func TestKidsOfEveryOpByHand(t *testing.T) {
	e, s, i := 0, 1, 2
	for _, c := range []struct {
		op   int
		kids []int
		want bool
	}{
		{impl.ExNum, nil, true}, {impl.ExNum, []int{e}, false}, {impl.ExText, []int{e}, false}, {impl.ExName, []int{e}, false},
		{impl.ExCell, nil, false}, {impl.ExCell, []int{e}, true}, {impl.ExCell, []int{e, e}, false}, {impl.ExCell, []int{s}, false},
		{impl.ExField, nil, false}, {impl.ExField, []int{e}, true}, {impl.ExField, []int{s}, false}, {impl.ExFields, []int{e}, false},
		{impl.ExLine, []int{e}, false}, {impl.ExLong, []int{e}, true}, {impl.ExLong, []int{e, e}, false}, {impl.ExHas, []int{e}, true},
		{impl.ExHas, []int{e, e}, false}, {impl.ExHas, nil, false}, {impl.ExAdd, []int{e, e}, true}, {impl.ExAdd, []int{e}, false},
		{impl.ExAdd, []int{e, e, e}, false}, {impl.ExAdd, []int{e, s}, false}, {impl.ExSame, []int{s, e}, false}, {impl.ExLess, []int{e, e}, true},
		{impl.StPrint, nil, false}, {impl.StPrint, []int{e}, true}, {impl.StPrint, []int{e, e, e, e}, true}, {impl.StPrint, []int{e, e, e, e, e}, false},
		{impl.StPrint, []int{e, s}, false}, {impl.StSet, []int{e}, true}, {impl.StSet, nil, false}, {impl.StSet, []int{e, e}, false}, {impl.StAdd, []int{s}, false},
		{impl.StSetCell, []int{e, e}, true}, {impl.StSetCell, []int{e}, false}, {impl.StAddCell, []int{e, e, e}, false}, {impl.StAddCell, []int{e, s}, false},
		{impl.StIf, nil, false}, {impl.StIf, []int{e}, false}, {impl.StIf, []int{e, s}, true}, {impl.StIf, []int{e, s, s}, true}, {impl.StIf, []int{e, s, s, s}, false},
		{impl.StIf, []int{s, s}, false}, {impl.StIf, []int{e, e}, false}, {impl.StIf, []int{e, s, e}, false}, {impl.StIf, []int{e, e, s}, false},
		{impl.StIf, []int{e, i}, false}, {impl.StIf, []int{e, s, i}, false}, {impl.StIf, []int{e, i, s}, false}, {impl.StIf, []int{s, e}, false},
		{impl.StNext, nil, true}, {impl.StNext, []int{s}, false}, {impl.StBlock, nil, true}, {impl.StBlock, []int{s, i, s}, true}, {impl.StBlock, []int{e}, false},
		{impl.StBlock, []int{s, e}, false}, {impl.StDump, nil, true}, {impl.StDump, []int{e}, false},
	} {
		checkOkProgram(t, impl.Program{Nodes: append(groundNodes(), node(c.op, rightText(c.op), c.kids...))}, c.want)
	}
}

func TestTextsOfEveryOp(t *testing.T) {
	kidsOf := map[string][]int{"": {}, "e": {0}, "ee": {0, 4}, "es": {0, 1}}
	all := []string{
		"", "1", "000", "123456", "1234567", "-1", "1 ", "12a", "x", "Z", "abcdefgh", "abcdefghi", "a1", "a b", "ä", "a_", " x", "a\n", "\"", "a\"b", "\n", "a\nb", "/", "a/b", "*", "a*", "(a", "[^\"]", "[/]",
		strings.Repeat("1", 30), strings.Repeat("1", 31), strings.Repeat("~", 30), strings.Repeat("~", 31), strings.Repeat("~", 24), strings.Repeat("~", 25), "\x00\xff", "\xff", "\\/", "Begin", "nF", "nexts", "en",
	}
	all = append(all, wordsNoNames...)
	for b := range 256 {
		all = append(all, string([]byte{byte(b)}), "a"+string([]byte{byte(b)}))
	}
	for op := impl.ExNum; op <= impl.StDump; op++ {
		for _, form := range []string{"", "e", "ee", "es"} {
			if kidForms[op].MatchString(form) {
				for _, text := range all {
					checkOkProgram(t, impl.Program{Nodes: append(groundNodes(), node(op, text, kidsOf[form]...))}, isPlainText(op, text))
				}
			}
		}
	}
}

func TestTextsByHand(t *testing.T) {
	for op, texts := range map[int]map[string]bool{
		impl.ExNum:    {"": false, "1": true, "007": true, "123456": true, "1234567": false, "x": false},
		impl.ExText:   {"": true, "a b": true, strings.Repeat("x", 30): true, strings.Repeat("x", 31): false, `"`: false, "\n": false, "/": true},
		impl.ExName:   {"": false, "a": true, "abcdefgh": true, "abcdefghi": false, "NF": false, "if": false, "If": true, "a1": false},
		impl.StDump:   {"": false, "a": true, "abcdefgh": true, "abcdefghi": false, "dump": false, "else": false},
		impl.ExFields: {"": true, "NF": false}, impl.ExLine: {"": true, "NR": false}, impl.StNext: {"": true, "next": false}, impl.StBlock: {"": true, "x": false},
	} {
		for text, want := range texts {
			checkOkProgram(t, impl.Program{Nodes: []impl.Node{node(op, text)}}, want)
		}
	}
	for text, want := range map[string]bool{"": false, "a": true, "/": false, "a\n": false, "*": false, strings.Repeat("x", 24): true, strings.Repeat("x", 25): false, `"`: true, "NF": true} {
		checkOkProgram(t, impl.Program{Nodes: []impl.Node{node(impl.ExNum, "1"), node(impl.ExHas, text, 0)}}, want)
	}
}

func TestKidsAreAheadOfTheirNode(t *testing.T) {
	for _, op := range []int{impl.ExField, impl.ExLong, impl.ExCell, impl.ExHas, impl.StSet, impl.StPrint} {
		for kid := -3; kid < 6; kid++ {
			p := impl.Program{Nodes: []impl.Node{
				node(impl.ExNum, "1"), node(impl.ExNum, "2"), node(op, rightText(op), kid), node(impl.ExNum, "3"), node(impl.ExNum, "4"),
			}}
			checkOkProgram(t, p, kid >= 0 && kid < 2)
		}
	}
	for _, kid := range []int{math.MinInt, math.MaxInt, -1, 0, 1, 2, 200} {
		checkOkProgram(t, impl.Program{Nodes: []impl.Node{node(impl.ExField, "", kid)}}, false)
		checkOkProgram(t, impl.Program{Nodes: []impl.Node{node(impl.StBlock, "", kid), node(impl.StNext, "")}}, false)
		checkOkProgram(t, impl.Program{Nodes: []impl.Node{node(impl.ExNum, "1"), node(impl.ExAdd, "", 0, kid)}}, kid == 0)
		checkOkProgram(t, impl.Program{Nodes: []impl.Node{node(impl.ExNum, "1"), node(impl.ExAdd, "", kid, 0)}}, kid == 0)
	}
}

func TestOpsThatAreNoneOfAProgram(t *testing.T) {
	for _, op := range []int{math.MinInt, -1, 0, 26, 27, 255, math.MaxInt} {
		checkOkProgram(t, impl.Program{Nodes: []impl.Node{node(op, "")}}, false)
		checkOkProgram(t, impl.Program{Nodes: []impl.Node{node(impl.StBlock, ""), node(op, "")}, Rules: []impl.Rule{rule(2, -1, 0)}}, false)
	}
}

func TestRulesThatAreRight(t *testing.T) {
	nodes := groundNodes()
	for when := -1; when < 6; when++ {
		for test := -3; test < 8; test++ {
			for do := -3; do < 8; do++ {
				isTest := test == -1 || when == impl.WhenLine && (test == 0 || test == 4)
				want := when >= 1 && when <= 3 && isTest && do == 3
				checkOkProgram(t, impl.Program{Nodes: nodes, Rules: []impl.Rule{rule(when, test, do)}}, want)
				checkOkProgram(t, impl.Program{Nodes: nodes, Rules: []impl.Rule{rule(2, 0, 3), rule(when, test, do), rule(1, -1, 3)}}, want)
			}
		}
	}
	for _, far := range []int{math.MinInt, math.MaxInt} {
		checkOkProgram(t, impl.Program{Nodes: nodes, Rules: []impl.Rule{rule(far, -1, 3)}}, false)
		checkOkProgram(t, impl.Program{Nodes: nodes, Rules: []impl.Rule{rule(2, far, 3)}}, false)
		checkOkProgram(t, impl.Program{Nodes: nodes, Rules: []impl.Rule{rule(2, -1, far)}}, false)
	}
	checkOkProgram(t, impl.Program{Rules: []impl.Rule{rule(2, -1, 0)}}, false)
	// An If may stand behind its Do.
	checkOkProgram(t, impl.Program{Nodes: nodes, Rules: []impl.Rule{rule(2, 4, 3)}}, true)
}

func TestLimitsOfPrograms(t *testing.T) {
	for _, count := range []int{0, 1, 199, 200, 201, 202, 1000} {
		checkOkProgram(t, impl.Program{Nodes: slices.Repeat([]impl.Node{node(impl.ExNum, "1")}, count)}, count <= 200)
		checkOkProgram(t, impl.Program{Nodes: slices.Repeat([]impl.Node{node(impl.StBlock, "")}, count)}, count <= 200)
	}
	for _, count := range []int{0, 1, 11, 12, 13, 14, 1000} {
		checkOkProgram(t, impl.Program{Nodes: groundNodes(), Rules: slices.Repeat([]impl.Rule{rule(2, 0, 3)}, count)}, count <= 12)
	}
	for _, count := range []int{0, 1, 4, 5, 6, 19, 20, 21, 22, 1000} {
		checkOkProgram(t, impl.Program{Nodes: append(groundNodes(), node(impl.StPrint, "", slices.Repeat([]int{0}, count)...))}, count >= 1 && count <= 4)
		checkOkProgram(t, impl.Program{Nodes: append(groundNodes(), node(impl.StBlock, "", slices.Repeat([]int{1}, count)...))}, count <= 20)
		checkOkProgram(t, impl.Program{Nodes: append(groundNodes(), node(impl.StBlock, "", slices.Repeat([]int{2}, count)...))}, count <= 20)
	}
}

func TestOneWrongNodeAnywhere(t *testing.T) {
	p := mustReadProgram(t, programTexts()[1])
	for place := range p.Nodes {
		q := copyOfProgram(p)
		q.Nodes[place].Text += "\n"
		checkOkProgram(t, q, false)
		q = copyOfProgram(p)
		q.Nodes[place].Kids = append(q.Nodes[place].Kids, place)
		checkOkProgram(t, q, false)
		q = copyOfProgram(p)
		q.Nodes[place].Op += 25
		checkOkProgram(t, q, false)
	}
}

// heap has rules that come to so many nodes, 1980 at least: four blocks of 421, one of 295, and blocks of what is left.
func heap(count int) impl.Program {
	p := impl.Program{Nodes: []impl.Node{
		node(impl.StNext, ""), node(impl.StBlock, "", slices.Repeat([]int{0}, 20)...),
		node(impl.StBlock, "", slices.Repeat([]int{1}, 20)...), node(impl.StBlock, "", slices.Repeat([]int{1}, 14)...),
	}}
	p.Rules = append(slices.Repeat([]impl.Rule{rule(impl.WhenLine, -1, 2)}, 4), rule(impl.WhenEnd, -1, 3))
	for left := count - 4*421 - 295; left > 0; {
		many := min(left-1, 20)
		p.Rules = append(p.Rules, rule(impl.WhenBegin, -1, len(p.Nodes)))
		p.Nodes = append(p.Nodes, node(impl.StBlock, "", slices.Repeat([]int{0}, many)...))
		left -= many + 1
	}
	return p
}

func TestNodesThatRulesComeTo(t *testing.T) {
	for count := 1980; count < 2020; count++ {
		p := heap(count)
		if _, ok := impl.ShowProgram(p); ok != (count <= 2000) || !impl.ProgramOk(p) || int(plainComesTo(p)) != count {
			t.Errorf("of %d nodes shown: %v", count, ok)
		}
		checkComesBack(t, p)
	}
}

func TestNodesThatAnIfComesTo(t *testing.T) {
	p := heap(1996)
	single, sum := len(p.Nodes), len(p.Nodes)+1
	p.Nodes = append(p.Nodes, node(impl.ExNum, "1"), node(impl.ExAdd, "", single, single))
	for _, c := range []struct{ first, second, more int }{{-1, -1, 0}, {single, -1, 1}, {sum, -1, 3}, {sum, single, 4}, {sum, sum, 6}} {
		p.Rules[0].If, p.Rules[1].If = c.first, c.second
		if _, ok := impl.ShowProgram(p); ok != (1996+c.more <= 2000) || int(plainComesTo(p)) != 1996+c.more {
			t.Errorf("with the Ifs %d and %d shown: %v", c.first, c.second, ok)
		}
		checkComesBack(t, p)
	}
}

// doubling has a row of nodes that each name the one ahead twice.
func doubling(op int, nodes int) impl.Program {
	p := impl.Program{Nodes: []impl.Node{node(impl.ExNum, "1")}}
	if op == impl.StBlock {
		p.Nodes[0] = node(impl.StNext, "")
	}
	for len(p.Nodes) < nodes {
		p.Nodes = append(p.Nodes, node(op, "", len(p.Nodes)-1, len(p.Nodes)-1))
	}
	return p
}

func TestNodesThatDouble(t *testing.T) {
	for nodes := 2; nodes <= maxNodes; nodes++ {
		p := doubling(impl.StBlock, nodes)
		p.Rules = []impl.Rule{rule(impl.WhenLine, -1, nodes-1)}
		if _, ok := impl.ShowProgram(p); ok != (nodes <= 10) || !impl.ProgramOk(p) {
			t.Fatalf("%d nodes that double: shown %v", nodes, ok)
		}
		// In several rules they may add up to what an int does not tell from few.
		p.Rules = slices.Repeat(p.Rules, 4)
		if _, ok := impl.ShowProgram(p); ok != (nodes <= 8) {
			t.Fatalf("%d nodes that double, four times: shown %v", nodes, ok)
		}
	}
	for _, op := range []int{impl.ExAdd, impl.ExJoin, impl.ExSame} {
		p := doubling(op, maxNodes-1)
		p.Nodes = append(p.Nodes, node(impl.StBlock, ""))
		// What no rule comes to does not count.
		p.Rules = []impl.Rule{rule(impl.WhenLine, 1, maxNodes-1)}
		if shown, ok := impl.ShowProgram(p); !ok || plainComesTo(p) != 4 {
			t.Errorf("ShowProgram = %q, %v", shown, ok)
		}
		p.Rules = []impl.Rule{rule(impl.WhenLine, maxNodes-2, maxNodes-1)}
		checkNotShown(t, p)
	}
}

func TestWideNodesThatDouble(t *testing.T) {
	p := impl.Program{Nodes: []impl.Node{node(impl.StBlock, "")}}
	for len(p.Nodes) < maxNodes {
		p.Nodes = append(p.Nodes, node(impl.StBlock, "", slices.Repeat([]int{len(p.Nodes) - 1}, 20)...))
	}
	for do := range p.Nodes {
		p.Rules = slices.Repeat([]impl.Rule{rule(impl.WhenEnd, -1, do)}, 12)
		if _, ok := impl.ShowProgram(p); ok != (do <= 1) {
			t.Fatalf("shown from node %d on: %v", do, ok)
		}
	}
}

func TestSameProgram(t *testing.T) {
	for _, s := range programTexts() {
		p := mustReadProgram(t, s)
		q := copyOfProgram(p)
		if !impl.SameProgram(p, q) || !impl.SameProgram(q, p) || !impl.SameProgram(p, p) {
			t.Fatalf("%q is not the same as itself", s)
		}
		for _, other := range othersOf(p) {
			if impl.SameProgram(p, other) || impl.SameProgram(other, p) {
				t.Fatalf("the same:\n%s\nand\n%s", toldProgram(p), toldProgram(other))
			}
		}
	}
}

// othersOf differ from a program in one cell each.
func othersOf(p impl.Program) []impl.Program {
	others := []impl.Program{}
	with := func(change func(q *impl.Program)) {
		q := copyOfProgram(p)
		change(&q)
		others = append(others, q)
	}
	for i := range p.Nodes {
		with(func(q *impl.Program) { q.Nodes[i].Op++ })
		with(func(q *impl.Program) { q.Nodes[i].Op = -1 })
		with(func(q *impl.Program) { q.Nodes[i].Text += "x" })
		with(func(q *impl.Program) { q.Nodes[i].Text = "\x00" + q.Nodes[i].Text })
		with(func(q *impl.Program) { q.Nodes[i].Kids = append(q.Nodes[i].Kids, 0) })
		with(func(q *impl.Program) { q.Nodes = slices.Delete(q.Nodes, i, i+1) })
		for k := range p.Nodes[i].Kids {
			with(func(q *impl.Program) { q.Nodes[i].Kids[k]-- })
			with(func(q *impl.Program) { q.Nodes[i].Kids[k] = math.MaxInt })
			with(func(q *impl.Program) { q.Nodes[i].Kids = slices.Delete(q.Nodes[i].Kids, k, k+1) })
		}
	}
	for i := range p.Rules {
		with(func(q *impl.Program) { q.Rules[i].When++ })
		with(func(q *impl.Program) { q.Rules[i].If-- })
		with(func(q *impl.Program) { q.Rules[i].Do++ })
		with(func(q *impl.Program) { q.Rules = slices.Delete(q.Rules, i, i+1) })
	}
	with(func(q *impl.Program) { q.Nodes = append(q.Nodes, impl.Node{}) })
	with(func(q *impl.Program) { q.Rules = append(q.Rules, impl.Rule{}) })
	return others
}

func TestSameProgramOfNilAndEmpty(t *testing.T) {
	same := []impl.Program{{}, {Nodes: []impl.Node{}}, {Rules: []impl.Rule{}}, {Nodes: make([]impl.Node, 0, 5), Rules: make([]impl.Rule, 0, 5)}}
	kids := []impl.Program{
		{Nodes: []impl.Node{{Op: 1}}}, {Nodes: []impl.Node{{Op: 1, Kids: []int{}}}}, {Nodes: []impl.Node{{Op: 1, Kids: make([]int, 0, 4)}}, Rules: []impl.Rule{}},
	}
	for _, a := range same {
		for _, b := range same {
			if !impl.SameProgram(a, b) {
				t.Errorf("not the same: %#v and %#v", a, b)
			}
		}
		for _, b := range kids {
			if impl.SameProgram(a, b) || impl.SameProgram(b, a) {
				t.Errorf("the same: %#v and %#v", a, b)
			}
		}
	}
	for _, a := range kids {
		for _, b := range kids {
			if !impl.SameProgram(a, b) {
				t.Errorf("not the same: %#v and %#v", a, b)
			}
		}
	}
	// Programs that are not right are held against each other just so.
	wrong := impl.Program{Nodes: []impl.Node{node(-7, "?", 9, -9)}, Rules: []impl.Rule{rule(8, 8, 8)}}
	if !impl.SameProgram(wrong, copyOfProgram(wrong)) || impl.SameProgram(wrong, impl.Program{}) {
		t.Error("programs that are not right")
	}
}

// roomy has spare room behind each of its lists, filled with what must stay.
func roomy(p impl.Program) impl.Program {
	q := impl.Program{Nodes: append(slices.Clone(p.Nodes), node(-5, "spare", 5))[:len(p.Nodes)], Rules: append(slices.Clone(p.Rules), rule(-5, -5, -5))[:len(p.Rules)]}
	for i := range q.Nodes {
		q.Nodes[i].Kids = append(slices.Clone(p.Nodes[i].Kids), -5)[:len(p.Nodes[i].Kids)]
	}
	return q
}

func checkRoom(t *testing.T, p impl.Program) {
	t.Helper()
	spare := p.Nodes[:len(p.Nodes)+1][len(p.Nodes)]
	if !reflect.DeepEqual(spare, node(-5, "spare", 5)) || p.Rules[:len(p.Rules)+1][len(p.Rules)] != rule(-5, -5, -5) {
		t.Fatal("something was written into the spare room behind a list")
	}
	for _, node := range p.Nodes {
		if node.Kids[:len(node.Kids)+1][len(node.Kids)] != -5 {
			t.Fatal("something was written into the spare room behind Kids")
		}
	}
}

func TestProgramsStayAsTheyAre(t *testing.T) {
	for _, s := range programTexts() {
		p := roomy(mustReadProgram(t, s))
		was := toldProgram(p)
		wrong := roomy(p)
		wrong.Rules = wrong.Rules[:len(p.Rules)+1]
		first, _ := impl.ShowProgram(p)
		impl.ProgramOk(p)
		impl.SameProgram(p, wrong)
		impl.SameProgram(wrong, p)
		checkNotShown(t, wrong)
		second, _ := impl.ShowProgram(p)
		if toldProgram(p) != was || first != second {
			t.Fatalf("%q is not as it was", s)
		}
		checkRoom(t, p)
		for _, node := range p.Nodes {
			if sharesMemory(first, node.Text) {
				t.Fatal("what is shown shares memory with the program")
			}
		}
	}
}

func TestProgramsThatAreReadAreNew(t *testing.T) {
	for _, s := range programTexts() {
		s = strings.Clone(s)
		p := mustReadProgram(t, s)
		was := toldProgram(p)
		for _, node := range p.Nodes {
			if sharesMemory(s, node.Text) {
				t.Fatalf("ReadProgram(%q) hands out its argument's memory: %q", s, node.Text)
			}
		}
		for i := range p.Nodes {
			q := mustReadProgram(t, s)
			want := copyOfProgram(q)
			kids := q.Nodes[i].Kids
			for k := range kids[:cap(kids)] {
				kids[:cap(kids)][k] = -7
			}
			want.Nodes[i].Kids = kids
			if toldProgram(q) != toldProgram(want) {
				t.Fatalf("node %d of %q shares its kids with another one", i, s)
			}
		}
		if toldProgram(mustReadProgram(t, s)) != was || toldProgram(p) != was {
			t.Fatalf("an answer of %q hangs on one that was written into", s)
		}
	}
}

func TestAnswersDoNotHangOnEarlierOnes(t *testing.T) {
	first := fmt.Sprint(impl.ReadProgram("{ print 1 }"))
	for _, s := range append(programTexts(), "{ print 1 2 }", strings.Repeat("$", 99), "{ if (", strings.Repeat("{", 99)) {
		impl.ReadProgram(s)
		if again := fmt.Sprint(impl.ReadProgram("{ print 1 }")); again != first {
			t.Fatalf("behind %q it is %s; it was %s", s, again, first)
		}
	}
}
