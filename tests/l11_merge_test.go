package tests

import (
	"fmt"
	"maps"
	"math"
	"math/rand/v2"
	"slices"
	"strconv"
	"strings"
	"testing"

	"loop.example/g00237/impl"
)

// checkCuts checks a program, right or not: whether it may be cut, and what its lines count under.
func checkCuts(t *testing.T, p impl.Program) {
	t.Helper()
	if got, want := impl.Mergeable(p), plainMergeable(p); got != want {
		t.Fatalf("Mergeable = %v of\n%s", got, toldProgram(p))
	}
	if got, want := impl.Names(p), plainNames(p); !slices.Equal(got, want) {
		t.Fatalf("Names = %q; want %q of\n%s", got, want, toldProgram(p))
	}
}

// checkMergeable checks a program that is written, and that code of it tells the same in parts of every size where it may be cut.
func checkMergeable(t *testing.T, program string, want bool, names ...string) {
	t.Helper()
	p := mustReadProgram(t, program)
	if got := impl.Mergeable(p); got != want {
		t.Errorf("Mergeable = %v of %s", got, program)
	}
	if got := impl.Names(p); !slices.Equal(got, names) {
		t.Errorf("Names = %q; want %q of %s", got, names, program)
	}
	checkCuts(t, p)
	if want {
		for _, count := range []int{0, 1, 20, 21} {
			checkCutAnywhere(t, p, numbered(count))
		}
	}
}

// checkCutAnywhere checks that code of a program that may be cut tells of a text in parts what it tells of it as a whole, and answers whether there is code.
func checkCutAnywhere(t *testing.T, p impl.Program, text string) bool {
	t.Helper()
	c, ok := impl.Compile(p)
	if !ok {
		return false
	}
	if !impl.Mergeable(p) {
		t.Fatalf("it may not be cut: %s", toldProgram(p))
	}
	want, _ := impl.RunAll(c, text)
	for _, n := range partSizes() {
		got, ok := impl.RunParts(c, impl.Names(p), text, n)
		if !ok {
			t.Fatalf("RunParts is false of parts of %d of\n%s", n, toldProgram(p))
		}
		checkSame(t, fmt.Sprintf("RunParts of %.200q in parts of %d by\n%s", text, n, toldProgram(p)), got, want)
	}
	return true
}

// checkCutRun checks what a program that may be cut tells, by hand, as a whole and in parts.
func checkCutRun(t *testing.T, program string, text string, want impl.Store) {
	t.Helper()
	checkRunCoded(t, program, text, want)
	if !checkCutAnywhere(t, mustReadProgram(t, program), text) {
		t.Fatalf("%s has no code", program)
	}
}

// checkPartsOfCode checks any right code with any names, in parts of any size.
func checkPartsOfCode(t *testing.T, c impl.Code, names []string, text string, n int) {
	t.Helper()
	got, ok := impl.RunParts(c, names, text, n)
	if !ok {
		t.Fatalf("RunParts is false of %s", toldCode(c))
	}
	checkSame(t, fmt.Sprintf("RunParts of %.200q in parts of %d under %q by\n%s", text, n, names, toldCode(c)), got, plainRunParts(c, names, text, n))
	checkStoreOk(t, got, true)
}

func checkDelta(t *testing.T, c impl.Code, begin impl.Store, names []string, lines []string) {
	t.Helper()
	got := impl.DeltaOf(c, begin, names, lines)
	checkSame(t, fmt.Sprintf("DeltaOf %.200q under %q from %s by\n%s", lines, names, toldStore(begin), toldCode(c)), got, plainDelta(c, begin, names, lines))
	checkStoreOk(t, got, true)
}

// checkDeltaOf checks what is told by hand of the lines of a written program.
func checkDeltaOf(t *testing.T, program string, begin impl.Store, names []string, lines []string, want impl.Store) {
	t.Helper()
	c := mustCompile(t, program)
	checkSame(t, fmt.Sprintf("DeltaOf %.200q under %q by %s", lines, names, program), impl.DeltaOf(c, begin, names, lines), want)
	checkDelta(t, c, begin, names, lines)
}

func checkMerge(t *testing.T, s impl.Store, d impl.Store) impl.Store {
	t.Helper()
	got := impl.MergeDelta(s, d)
	checkSame(t, fmt.Sprintf("MergeDelta of %.300s and %.300s", toldStore(s), toldStore(d)), got, plainMerge(s, d))
	return got
}

func checkMerged(t *testing.T, s impl.Store, d impl.Store, want impl.Store) {
	t.Helper()
	checkSame(t, fmt.Sprintf("MergeDelta of %.300s and %.300s", toldStore(s), toldStore(d)), checkMerge(t, s, d), want)
}

func TestPartsMayBeCutAnywhere(t *testing.T) {
	held, counted, ahead := 0, 0, 0
	for k := range uint64(1200) {
		r := rand.New(rand.NewPCG(111, k))
		p := countingProgram(r)
		checkOkProgram(t, p, true)
		checkCuts(t, p)
		text := oneOf(r, "", drawnLine(r), drawnLines(r), drawnLines(r), numbered(20), numbered(21)+drawnLines(r), strings.Repeat(drawnLine(r)+"\n", 21))
		if !checkCutAnywhere(t, p, text) {
			continue
		}
		held++
		c, _ := impl.Compile(p)
		checkPartsOfCode(t, c, impl.Names(p), text, oneOf(r, partSizes()...))
		begin := impl.RunCode(c, c.Begin, c.Line, impl.Store{}, impl.Input{})
		delta := plainDelta(c, begin, impl.Names(p), plainLinesOf(text))
		if len(delta.Vars)+len(delta.Cells) > 0 {
			counted++
		}
		if s := plainOfNames(begin, impl.Names(p), true); len(s.Vars)+len(s.Cells) > 0 {
			ahead++
		}
	}
	if held < 600 || counted < 400 || ahead < 200 {
		t.Errorf("%d have code, of which %d count something, %d have counted ahead", held, counted, ahead)
	}
}

func TestProgramsThatAreReadAreCut(t *testing.T) {
	may := 0
	for k, s := range append(programTexts(), everyOpProgram) {
		p := mustReadProgram(t, s)
		checkCuts(t, p)
		if !impl.Mergeable(p) {
			continue
		}
		may++
		for j := range uint64(20) {
			checkCutAnywhere(t, p, drawnLines(rand.New(rand.NewPCG(uint64(k), j))))
		}
	}
	for k := range uint64(3000) {
		r := rand.New(rand.NewPCG(112, k))
		d := &drafter{r, 5 + int(k%40)}
		p, ok := impl.ReadProgram(d.program())
		if !ok {
			continue
		}
		checkCuts(t, p)
		if impl.Mergeable(p) && checkCutAnywhere(t, p, drawnLines(r)) {
			may++
		}
	}
	if may < 300 {
		t.Errorf("only %d may be cut", may)
	}
}

func TestCutByHand(t *testing.T) {
	checkCutRun(t, `{ n += $1; print $1 } END { print n }`, "1\n2\n3\n", impl.Store{Vars: vars("n", "6"), Out: "1\n2\n3\n6\n"})
	checkCutRun(t, `$1 ~ /a/ { c[$2] += $3; print "a" } { n += 1; if (NF < 2) next; m += 1 } END { dump c; print n, m }`, "a x 1\nb\nba y 2\na x 5\n\nc d",
		impl.Store{Vars: vars("m", "4", "n", "6"), Cells: cells("c", "x", "6", "c", "y", "2"), Out: "a\na\na\nx 6\ny 2\n6 4\n"})
	checkCutRun(t, `BEGIN { f = 3; u["k"] = "v" } $1 < f { n += f; c[f] += 1; print f, u[$2] }`, "1 k\n2 j\n3 k\n", impl.Store{Vars: vars("f", "3", "n", "6"), Cells: cells("c", "3", "2", "u", "k", "v"), Out: "3 v\n3 \n"})
	checkCutRun(t, `END { print NR, $0, NF; n = NR }`, "a\nb c\n", impl.Store{Vars: vars("n", "2"), Out: "2 b c 2\n"})
	checkCutRun(t, `BEGIN { print NR, NF } { n += NF } END { print NR, NF, n }`, "", impl.Store{Out: "0 0\n0 0 \n"})
	checkCutRun(t, ``, "a\nb\n", impl.Store{})
	checkCutRun(t, `{ t[$0] += 1 } END { dump t }`, strings.Repeat("k\n\n", 15), impl.Store{Cells: cells("t", "", "10", "t", "k", "10"), Out: " 10\nk 10\n"})
	checkCutRun(t, `{ n += $0; n += 1; n += "x"; n["k"] += 1 }`, "5", impl.Store{Vars: vars("n", "6"), Cells: cells("n", "k", "1")})
}

// What was counted ahead is there once, not once a part.
func TestWhatWasCountedAhead(t *testing.T) {
	for begin, n := range map[string]int{`n = 5`: 5, `n += 5`: 5, `n = "5x"`: 5, `n = "x5"`: 0, `n = ""`: 0, `n = " 7"`: 7, `n = "123456789012345678901234567890"`: 567890, `n = 999999`: 999999, `n = 5; n += n; n += 1`: 11, `print n`: 0} {
		said := map[bool]string{true: "\n"}[begin == `print n`]
		want := impl.Store{Vars: vars("n", strconv.Itoa((n+6)%1000000)), Out: said + "1\n2\n3\n" + strconv.Itoa((n+6)%1000000) + "\n"}
		checkCutRun(t, "BEGIN { "+begin+" } { n += $1; print $1 } END { print n }", "1\n2\n3\n", want)
	}
	checkCutRun(t, `BEGIN { c["k"] = 5; c["j"] += 7; c["x"] = "x"; n["k"] = 1; print "b" } { c[$1] += 1; n += 1 } END { dump c; dump n; print n }`, "k\nk\nx\n",
		impl.Store{Vars: vars("n", "3"), Cells: cells("c", "j", "7", "c", "k", "7", "c", "x", "1", "n", "k", "1"), Out: "b\nj 7\nk 7\nx 1\nk 1\n3\n"})
	// Under a name that no line came to count under, all stays as it was.
	checkCutRun(t, `BEGIN { n = "as it is"; c["k"] = "007" } 0 { n += 1; c["k"] += 1 } END { print n, c["k"] }`, "k\nk\nx\n",
		impl.Store{Vars: vars("n", "as it is"), Cells: cells("c", "k", "007"), Out: "as it is 007\n"})
	checkCutRun(t, `BEGIN { n = "as it is"; m = "007" } { n += 0; m += "" }`, "k\nk\nx\n", impl.Store{Vars: vars("m", "7", "n", "0")})
	// The same name by a Var and by a Cell.
	checkCutRun(t, `BEGIN { n = 3; n["a"] = 4; m = 8; m["a"] = 9 } { n["a"] += 1; m += 1 }`, "1\n2\n", impl.Store{Vars: vars("m", "10", "n", "3"), Cells: cells("m", "a", "9", "n", "a", "6")})
	// What the end counts is counted once.
	checkCutRun(t, `BEGIN { n = 1 } { n += 10 } END { n += 100; n += n; print n }`, "1\n2\n", impl.Store{Vars: vars("n", "242"), Out: "242\n"})
	checkCutRun(t, `BEGIN { print "said"; s = "said" } { print s, $0 }`, "1\n2\n", impl.Store{Vars: vars("s", "said"), Out: "said\nsaid 1\nsaid 2\n"})
}

func TestCountsThatGoRoundInParts(t *testing.T) {
	text := strings.Repeat("999999 500000\n", 20)
	checkCutRun(t, `{ n += $1; c[$2] += $2; m += 0 - 1; h += $2 }`, text, impl.Store{Vars: vars("h", "0", "m", "999980", "n", "999980"), Cells: cells("c", "500000", "0")})
	checkCutRun(t, `BEGIN { n = 20; c["k"] = 999999 } { n += $1; c["k"] += 50001 }`, text, impl.Store{Vars: vars("n", "0"), Cells: cells("c", "k", "19")})
	checkCutRun(t, `{ n += $1 * $1; m += $1 % 7 }`, text, impl.Store{Vars: vars("m", strconv.Itoa(20*(999999%7)), "n", "20")})
}

func TestMoreIsSaidInPartsThanStays(t *testing.T) {
	forty := strings.Repeat("f", 40)
	line := strings.Join([]string{forty, forty, forty, forty}, " ") + "\n"
	say := "print $0, $0, $0, $0"
	for _, count := range []int{1, 17, 18, 19, 20, 21} {
		said := plainCut(strings.Repeat(line, min(count, 20)), 3000)
		checkCutRun(t, "{ "+say+" }", strings.Repeat(forty+"\n", count), impl.Store{Out: said})
		checkCutRun(t, `BEGIN { print "b" } { `+say+` } END { print "e" }`, strings.Repeat(forty+"\n", count), impl.Store{Out: plainCut(plainCut("b\n"+said, 3000)+"e\n", 3000)})
	}
	// One line says more than may stay; what is counted behind it is counted still.
	checkCutRun(t, `BEGIN { f = "ffffffffffffffffffff"; f = f . f } { `+strings.Repeat("print f,f,f,f;", 19)+`} { n += 1 }`, "x\ny\nz", impl.Store{Vars: vars("f", forty, "n", "3"), Out: plainCut(strings.Repeat(line, 20), 3000)})
	// What was said ahead has filled all, or all but some bytes.
	begin := `BEGIN { f = "ffffffffffffffffffff"; f = f . f } BEGIN { ` + strings.Repeat("print f,f,f,f;", 18) + `print f; print "`
	for _, left := range []int{0, 1, 2, 6} {
		ahead := strings.Repeat(line, 18) + forty + "\n" + strings.Repeat("q", 6-left) + "\n"
		checkCutRun(t, begin+strings.Repeat("q", 6-left)+`" } { print $1; n += 1 } END { print n }`, "xyz\nxyz\nxyz\n", impl.Store{Vars: vars("f", forty, "n", "3"), Out: plainCut(ahead+"xyz\nxyz\n", 3000)})
	}
}

// hinderingStatements may not be reached by rules of WhenLine, where n is counted under.
func hinderingStatements() []string {
	return []string{"x = 1", "x[1] = 1", "dump x", "dump n", "n = 1", "n[1] = 2", "print NR", "print n", "print n[1]", "x += NR", "x += n", "x[NR] += 1", "x[n] += 1", "x[1] += n[2]", "n += n", "n[n] += 1", "n[n[1]] += 1"}
}

func hinderingExpressions() []string {
	return []string{"NR", "n", "n[1]", "n[NR]", "x[NR]", "x[n]", "$NR", "$n", "length(n)", "length(n[1])", "NR + 1", "1 - NR", "n * 1", "1 % n", "n . 1", "1 < n", "n == 1", "n ~ /a/", "NR ~ /1/", "x[y[z[n[1]]]]", "(1 + (2 + (3 + (4 + NR))))", "$(1 + $n)"}
}

// places are where a statement may stand in what a rule of WhenLine does, deep within it, too.
func places(statement string) []string {
	return []string{
		"{ " + statement + " }", "{ print 1; " + statement + "; print 2 }", "{ { { " + statement + " } } }", "{ if (1) " + statement + " }", "{ if (1) print 1 else " + statement + " }", "{ if (1) { if (2) { print 1 } else { if (3) { " + statement + " } } } }",
		"1 { " + statement + " }", "0 { " + statement + " }", "{ next; " + statement + " }", "{ print 1 } 2 { } { " + statement + " }", "{ if (0) { " + statement + " } }",
	}
}

func TestWhatMayNotBeCut(t *testing.T) {
	count := " { n += 1 }"
	for _, statement := range hinderingStatements() {
		names := plainNames(mustReadProgram(t, "{ "+statement+" }"+count))
		for _, program := range places(statement) {
			checkMergeable(t, program+count, false, names...)
			checkMergeable(t, count+program, false, names...)
		}
		checkMergeable(t, "BEGIN { "+statement+" }"+count, true, "n")
		checkMergeable(t, "END { "+statement+" }"+count, true, "n")
		checkMergeable(t, "BEGIN { "+statement+" }"+count+" END { "+statement+" }", true, "n")
	}
	for _, expression := range hinderingExpressions() {
		checkMergeable(t, expression+" { }"+count, false, "n")
		checkMergeable(t, expression+" { print 1 }"+count, false, "n")
		checkMergeable(t, count+" 0 { } "+expression+" { }", false, "n")
		for _, program := range places("print 1, " + expression) {
			checkMergeable(t, program+count, false, "n")
		}
		checkMergeable(t, "{ if ("+expression+") next; n += 1 }", false, "n")
		checkMergeable(t, "{ n += "+expression+" }", false, "n")
		checkMergeable(t, "{ n["+expression+"] += 1 }", false, "n")
		checkMergeable(t, "BEGIN { print "+expression+" } END { if ("+expression+") next }"+count, true, "n")
	}
}

func TestWhatMayBeCut(t *testing.T) {
	for program, names := range map[string][]string{
		"": {}, "{ }": {}, "1 { next }": {}, "BEGIN { x = 1 }": {}, "END { dump x }": {}, "{ print 1 }": {}, "{ print x, x[1], y[x], $x }": {}, "x { n += 1 }": {"n"}, "x[y] { n[x] += y[z] }": {"n"},
		"{ n += m }": {"n"}, "{ n[m] += m[m] }": {"n"}, "{ n += N }": {"n"}, "{ nn += 1; print n }": {"nn"}, "{ n += 1; print nn, nn[1] }": {"n"}, "NF { n += NF + length($0) }": {"n"}, "$1 ~ /a/ { n += $1 % $2 - $3 * $4 . 5 }": {"n"},
		"{ if ($1 == x) n += 1 else { m[$1 < 2] += x } }": {"m", "n"}, "BEGIN { n = NR; dump n; n[1] = n } { n += 1 } END { print NR, n; dump n }": {"n"}, "{ print n; print n[1] }": {}, "n { } n[1] { }": {}, "BEGIN { n += 1 } { print n }": {}, "{ print n } END { n[1] += 1 }": {},
	} {
		checkMergeable(t, program, true, names...)
	}
	// A name that rules of WhenLine count under hinders, wherever that is.
	for _, program := range []string{
		"{ print n } { n += 1 }", "{ n += 1 } { print n }", "n { } { n[1] += 1 }", "{ n[1] += 1; print n }", "{ n += 1; print n[1] }", "{ if (0) { n += 1 } } n[1] { }", "BEGIN { n = 1 } { next; n += 1 } { print n }", "0 { n += 1 } 0 { print n }", "{ m += 1; n += m }", "{ m += n; n += 1 }", "{ m[n] += 1; n[2] += 1 }",
	} {
		checkMergeable(t, program, false, plainNames(mustReadProgram(t, program))...)
	}
	checkMergeable(t, "NR { }", false)
	checkMergeable(t, "{ print NR }", false)
	checkMergeable(t, "{ x = 1 }", false)
	checkMergeable(t, "{ x[1] = 1 }", false)
	checkMergeable(t, "{ dump x }", false)
}

func TestNamesThatLinesCountUnder(t *testing.T) {
	for program, names := range map[string][]string{
		"": {}, "{ }": {}, "{ print n }": {}, "{ n = 1 }": {}, "{ n[1] = 1 }": {}, "{ dump n }": {}, "{ n += 1 }": {"n"}, "{ n[1] += 1 }": {"n"}, "{ n += 1; n[1] += 1 }": {"n"}, "{ n[1] += 1; n[2] += 1; n += 1; n += 1 }": {"n"},
		"{ z += 1; b[1] += 1; a += 1; Z += 1; ab[2] += 1; B += 1; aa += 1 }": {"B", "Z", "a", "aa", "ab", "b", "z"}, "{ c += 1 } { b[1] += 1 } { a += 1 }": {"a", "b", "c"}, "{ b += 1; a += 1; b += 1; a += 1 }": {"a", "b"},
		"{ if (1) x += 1 else { y[1] += 1 } }": {"x", "y"}, "{ if (x) { if (y) { { { deep += 1 } } } } }": {"deep"}, "0 { n += 1 }": {"n"}, "{ next; n += 1 }": {"n"}, "m { n += m }": {"n"}, "{ abcdefgh += 1; abcdefg += 1 }": {"abcdefg", "abcdefgh"},
		"BEGIN { n += 1 }": {}, "END { n[1] += 1 }": {}, "BEGIN { n += 1 } { m += 1 } END { l += 1 }": {"m"}, "BEGIN { n += 1 } { n += 1 } END { n += 1 }": {"n"}, "BEGIN { b += 1 } { }": {}, "BEGIN { a += 1; a[1] += 2 } END { a += 1 } { print a }": {},
		"{ n += 1; n = 2; dump n; print NR }": {"n"}, "{ x = 1; y += x; y = x; z[1] = 2 }": {"y"},
	} {
		if got := impl.Names(mustReadProgram(t, program)); !slices.Equal(got, names) {
			t.Errorf("Names = %q; want %q of %s", got, names, program)
		}
		checkCuts(t, mustReadProgram(t, program))
	}
}

// A node that no rule of WhenLine reaches is not asked for, whoever else reaches it.
func TestNodesThatLinesDoNotReach(t *testing.T) {
	nodes := []impl.Node{
		node(impl.ExNum, "1"), node(impl.StAdd, "n", 0), node(impl.StBlock, "", 1), // 2: what the lines do
		node(impl.ExLine, ""), node(impl.ExName, "n"), node(impl.ExCell, "n", 0), node(impl.StSet, "x", 0), node(impl.StSetCell, "x", 0, 0), node(impl.StDump, "x"), node(impl.StAdd, "m", 0), node(impl.StAddCell, "l", 0, 0),
		node(impl.StPrint, "", 3), node(impl.StPrint, "", 4), node(impl.StPrint, "", 5), node(impl.StPrint, "", 0),
	}
	p := impl.Program{Nodes: nodes, Rules: []impl.Rule{rule(impl.WhenLine, -1, 2)}}
	checkOkProgram(t, p, true)
	if !impl.Mergeable(p) || !slices.Equal(impl.Names(p), []string{"n"}) {
		t.Errorf("nodes that nothing reaches are asked for: %q", impl.Names(p))
	}
	for place, want := range map[int]bool{6: false, 7: false, 8: false, 9: true, 10: true, 11: false, 12: false, 13: false, 14: true} {
		for _, when := range []int{impl.WhenBegin, impl.WhenLine, impl.WhenEnd} {
			q := copyOfProgram(p)
			q.Nodes = append(q.Nodes, node(impl.StBlock, "", place), node(impl.StBlock, "", len(nodes), len(nodes)))
			q.Rules = append(q.Rules, rule(when, -1, len(nodes)+1))
			checkOkProgram(t, q, true)
			if got := impl.Mergeable(q); got != (want || when != impl.WhenLine) {
				t.Errorf("Mergeable = %v with %d reached from %d", got, place, when)
			}
			checkCuts(t, q)
			// Both the lines and another reach it.
			for _, also := range []int{impl.WhenBegin, impl.WhenLine, impl.WhenEnd} {
				both := copyOfProgram(q)
				both.Rules = append(both.Rules, rule(also, -1, len(nodes)))
				if got := impl.Mergeable(both); got != (want || when != impl.WhenLine && also != impl.WhenLine) {
					t.Errorf("Mergeable = %v with %d reached from %d and %d", got, place, when, also)
				}
				checkCuts(t, both)
			}
		}
	}
	for place, want := range map[int]bool{0: true, 3: false, 4: false, 5: false} {
		q := copyOfProgram(p)
		q.Rules = append(q.Rules, rule(impl.WhenLine, place, 2))
		if got := impl.Mergeable(q); got != want {
			t.Errorf("Mergeable = %v with the If %d", got, place)
		}
		checkCuts(t, q)
	}
}

// hindered is a program one of whose nodes is another, which may hinder cutting, or be wrong.
func hindered(r *rand.Rand, p impl.Program) impl.Program {
	p = copyOfProgram(p)
	reached := slices.Sorted(maps.Keys(plainReached(p)))
	n := &p.Nodes[oneOf(r, reached...)]
	switch n.Op {
	case impl.StAdd, impl.StAddCell:
		n.Op--
	case impl.ExName, impl.ExCell:
		n.Text = oneOf(r, "a", "b", "z", "other", "NR")
	case impl.ExFields:
		n.Op++
	case impl.ExNum, impl.ExText:
		*n = node(impl.ExName, oneOf(r, "a", "b", "z", "other"))
	case impl.StBlock:
		*n = node(oneOf(r, impl.StDump, impl.StBlock), oneOf(r, "", "a", "other"))
	default:
		n.Text += oneOf(r, "", "", "x")
	}
	return p
}

func TestDrawnProgramsAreCutOrNot(t *testing.T) {
	may, named, right := 0, 0, 0
	for k := range uint64(6000) {
		r := rand.New(rand.NewPCG(113, k))
		p := drawnProgram(r, r.IntN(40), r.IntN(5))
		switch k % 3 {
		case 1:
			p = hindered(r, countingProgram(r))
		case 2:
			p = hindered(r, hindered(r, hindered(r, countingProgram(r))))
		}
		checkCuts(t, p)
		if plainOk(p) {
			right++
		}
		if impl.Mergeable(p) {
			may++
		}
		if len(impl.Names(p)) > 1 {
			named++
		}
	}
	if may < 1500 || right-may < 1000 || right > 5000 || named < 1000 {
		t.Errorf("%d are right, %d may be cut, %d have names", right, may, named)
	}
}

func TestProgramsThatAreNotRightAreNotCut(t *testing.T) {
	wrong := 0
	for _, s := range append(programTexts(), "{ n += 1 }", "{ n[1] += 1 } END { print n }") {
		for _, p := range othersOf(mustReadProgram(t, s)) {
			if plainOk(p) {
				checkCuts(t, p)
				continue
			}
			wrong++
			if impl.Mergeable(p) || len(impl.Names(p)) != 0 {
				t.Fatalf("it is not right, but has %q and %v:\n%s", impl.Names(p), impl.Mergeable(p), toldProgram(p))
			}
		}
	}
	if wrong < 500 {
		t.Errorf("only %d are wrong", wrong)
	}
	add := []impl.Node{node(impl.ExNum, "1"), node(impl.StAdd, "n", 0), node(impl.StBlock, "", 1)}
	line := []impl.Rule{rule(impl.WhenLine, -1, 2)}
	for _, p := range []impl.Program{
		{Nodes: add, Rules: []impl.Rule{rule(impl.WhenLine, -1, 3)}}, {Nodes: add, Rules: []impl.Rule{rule(impl.WhenLine, -1, -1)}}, {Nodes: add, Rules: []impl.Rule{rule(impl.WhenLine, 2, 2)}}, {Nodes: add, Rules: []impl.Rule{rule(impl.WhenLine, -2, 2)}}, {Nodes: add, Rules: []impl.Rule{rule(impl.WhenLine, math.MaxInt, math.MinInt)}},
		{Nodes: add, Rules: []impl.Rule{rule(0, -1, 2)}}, {Nodes: add, Rules: []impl.Rule{line[0], rule(impl.WhenBegin, 0, 2)}}, {Nodes: add, Rules: slices.Repeat(line, 13)}, {Nodes: append(slices.Clone(add), impl.Node{}), Rules: line}, {Nodes: append(slices.Clone(add), node(impl.StBlock, "", 4)), Rules: line},
		{Nodes: append(slices.Clone(add), node(impl.StBlock, "", math.MaxInt)), Rules: line}, {Nodes: append(slices.Clone(add), slices.Repeat([]impl.Node{node(impl.StNext, "")}, 198)...), Rules: line}, {Nodes: []impl.Node{add[0], node(impl.StAdd, "BEGIN", 0), add[2]}, Rules: line}, {Rules: line},
		{Nodes: []impl.Node{add[0], node(impl.StAdd, "abcdefghi", 0), add[2]}, Rules: line}, {Nodes: []impl.Node{add[0], node(impl.StAdd, "n", 2), add[2]}, Rules: line}, {Nodes: []impl.Node{add[0], node(impl.StAdd, "n", -1), add[2]}, Rules: line},
	} {
		checkOkProgram(t, p, false)
		if impl.Mergeable(p) || len(impl.Names(p)) != 0 {
			t.Errorf("it is not right, but has %q and %v:\n%s", impl.Names(p), impl.Mergeable(p), toldProgram(p))
		}
	}
}

// Nodes are looked at once, however often they are come to; a program of more than 2000 is right still.
func TestCutsOfNodesThatDouble(t *testing.T) {
	inGoodTime(t, func() {
		for first, want := range map[int]bool{impl.StDump: false, impl.StBlock: true, impl.StNext: true} {
			p := wide(node(first, map[bool]string{true: "u"}[first == impl.StDump]))
			p.Rules = slices.Repeat([]impl.Rule{rule(impl.WhenLine, -1, len(p.Nodes)-1)}, maxRules)
			checkOkProgram(t, p, true)
			if impl.Mergeable(p) != want || len(impl.Names(p)) != 0 {
				t.Errorf("Mergeable = %v, Names = %q", impl.Mergeable(p), impl.Names(p))
			}
			checkCuts(t, p)
		}
		for _, leaf := range []impl.Node{node(impl.ExLine, ""), node(impl.ExName, "n"), node(impl.ExFields, "")} {
			p := doubling(impl.ExAdd, maxNodes-2)
			p.Nodes[0] = leaf
			p.Nodes = append(p.Nodes, node(impl.StAddCell, "n", maxNodes-3, maxNodes-3), node(impl.StBlock, "", slices.Repeat([]int{maxNodes - 2}, 20)...))
			p.Rules = slices.Repeat([]impl.Rule{rule(impl.WhenLine, maxNodes-3, maxNodes-1)}, maxRules)
			checkOkProgram(t, p, true)
			if impl.Mergeable(p) != (leaf.Op == impl.ExFields) || !slices.Equal(impl.Names(p), []string{"n"}) {
				t.Errorf("Mergeable = %v, Names = %q", impl.Mergeable(p), impl.Names(p))
			}
			checkCuts(t, p)
		}
	})
	// As many names as there may be.
	p := impl.Program{Nodes: []impl.Node{node(impl.ExNum, "1")}}
	kids, want := []int{}, []string{}
	for i := range 180 {
		name := lettered(180 - i)
		want = append(want, name)
		kids = append(kids, len(p.Nodes))
		p.Nodes = append(p.Nodes, node(impl.StAdd, name, 0))
	}
	for i := range 9 {
		p.Rules = append(p.Rules, rule(impl.WhenLine, -1, len(p.Nodes)))
		p.Nodes = append(p.Nodes, node(impl.StBlock, "", kids[20*i:20*i+20]...))
	}
	checkOkProgram(t, p, true)
	slices.Sort(want)
	if got := impl.Names(p); !slices.Equal(got, want) || len(slices.Compact(want)) != 180 || !impl.Mergeable(p) {
		t.Errorf("Names = %q", got)
	}
	checkCuts(t, p)
}

func TestDeltasByHand(t *testing.T) {
	count := `BEGIN { n = 1; print "b" } { n += $1; c[$2] += 1; print o, $1 } END { print "e" }`
	names := []string{"c", "n"}
	checkDeltaOf(t, count, impl.Store{}, names, []string{"4 x", "5 y", "6 x"}, impl.Store{Vars: vars("n", "15"), Cells: cells("c", "x", "2", "c", "y", "1"), Out: " 4\n 5\n 6\n"})
	// Of begin all is seen but what is of these names, and its Out; of that nothing is told.
	begin := impl.Store{Vars: vars("m", "7", "n", "100", "o", "see"), Cells: cells("c", "x", "50", "c", "z", "9", "d", "x", "8", "n", "x", "1"), Out: "out\n"}
	checkDeltaOf(t, count, begin, names, []string{"4 x", "5 y"}, impl.Store{Vars: vars("n", "9"), Cells: cells("c", "x", "1", "c", "y", "1"), Out: "see 4\nsee 5\n"})
	checkDeltaOf(t, count, begin, []string{"n"}, []string{"4 x"}, impl.Store{Vars: vars("n", "4"), Out: "see 4\n"})
	checkDeltaOf(t, count, begin, []string{"c"}, []string{"4 x"}, impl.Store{Cells: cells("c", "x", "1"), Out: "see 4\n"})
	checkDeltaOf(t, count, begin, []string{"o"}, []string{"4 x"}, impl.Store{Out: " 4\n"})
	checkDeltaOf(t, count, begin, nil, []string{"4 x"}, impl.Store{Out: "see 4\n"})
	checkDeltaOf(t, count, begin, []string{}, nil, impl.Store{})
	checkDeltaOf(t, count, begin, names, nil, impl.Store{})
	checkDeltaOf(t, count, begin, names, []string{}, impl.Store{})
	checkDeltaOf(t, count, begin, names, []string{""}, impl.Store{Vars: vars("n", "0"), Cells: cells("c", "", "1"), Out: "see \n"})
	// Names that nothing counts under, that are in another order, that are there twice, or are none.
	for _, names := range [][]string{{"n", "c"}, {"n", "c", "n", "c"}, {"c", "zz", "n", "a"}, {"", "n", "1", "c", strings.Repeat("c", 50), "C", "\xff"}} {
		checkDeltaOf(t, count, begin, names, []string{"4 x", "5 a"}, impl.Store{Vars: vars("n", "9"), Cells: cells("c", "a", "1", "c", "x", "1"), Out: "see 4\nsee 5\n"})
	}
	for _, names := range [][]string{{"e"}, {"b", "a"}, {""}, {"nn"}, {"N"}} {
		checkDeltaOf(t, count, begin, names, []string{"4 x"}, impl.Store{Out: "see 4\n"})
	}
	// What is of these names is told, though nothing counted it: a Var that is set, a Cell of a name that is counted as a Var.
	checkDeltaOf(t, `{ n["k"] = $1; n += 1; m = $1; print m }`, begin, []string{"m", "n"}, []string{"x", "y"}, impl.Store{Vars: vars("m", "y", "n", "2"), Cells: cells("n", "k", "y"), Out: "x\ny\n"})
	// The rules of WhenBegin and WhenEnd are none of it.
	checkDeltaOf(t, `BEGIN { n += 1; print "b" } END { n += 1; print "e" }`, begin, []string{"n"}, []string{"x", "y"}, impl.Store{})
	checkDeltaOf(t, ``, begin, []string{"n"}, []string{"x", "y"}, impl.Store{})
}

func TestDeltasOfWhatSetsAndDumps(t *testing.T) {
	begin := impl.Store{Vars: vars("a", "1", "b", "2"), Cells: cells("c", "k", "3", "d", "k", "4"), Out: "out\n"}
	program := `{ dump c; dump d; c[$1] = b; d[$1] = a; a = NR; b = $1 }`
	lines := []string{"x", "y"}
	checkDeltaOf(t, program, begin, []string{"a", "c"}, lines, impl.Store{Vars: vars("a", "2"), Cells: cells("c", "x", "2", "c", "y", "x"), Out: "k 4\nx 2\nk 4\nx \n"})
	checkDeltaOf(t, program, begin, []string{"b", "d"}, lines, impl.Store{Vars: vars("b", "y"), Cells: cells("d", "x", "1", "d", "y", "1"), Out: "k 3\nk 3\nx \nx 1\n"})
	checkDeltaOf(t, program, begin, nil, lines, impl.Store{Out: "k 3\nk 4\nk 3\nx 2\nk 4\nx 1\n"})
	checkDeltaOf(t, program, begin, []string{"a", "b", "c", "d"}, lines, impl.Store{Vars: vars("a", "2", "b", "y"), Cells: cells("c", "x", "", "c", "y", "x", "d", "x", "", "d", "y", "1"), Out: "x \nx \n"})
	// What one line sets the next one sees.
	checkDeltaOf(t, `{ print last; last = $0; n += n; n += 1 }`, impl.Store{Vars: vars("last", "begin")}, []string{"n"}, []string{"a", "b", "c"}, impl.Store{Vars: vars("n", "7"), Out: "begin\na\nb\n"})
}

func TestDeltasCountTheirLinesFromOneOn(t *testing.T) {
	lines := strings.Fields("a b c d e f g")
	program := `{ print NR, $1; n += NR; c[NR] += 1 }`
	checkDeltaOf(t, program, impl.Store{}, []string{"n"}, lines[:2], impl.Store{Vars: vars("n", "3"), Out: "1 a\n2 b\n"})
	checkDeltaOf(t, program, impl.Store{}, []string{"n"}, lines[4:7], impl.Store{Vars: vars("n", "6"), Out: "1 e\n2 f\n3 g\n"})
	checkDeltaOf(t, program, impl.Store{}, []string{"c"}, lines[6:], impl.Store{Cells: cells("c", "1", "1"), Out: "1 g\n"})
	// In parts each one begins anew, and the end has how many there are.
	got, ok := impl.RunParts(mustCompile(t, `{ print NR, $1 } END { print NR, $1 }`), nil, strings.Join(lines, "\n"), 3)
	if !ok || got.Out != "1 a\n2 b\n3 c\n1 d\n2 e\n3 f\n1 g\n7 g\n" {
		t.Errorf("RunParts says %q, %v", got.Out, ok)
	}
	// More lines than a text has, and longer ones.
	many := slices.Repeat([]string{strings.Repeat("x ", 5000)}, 1000)
	checkSame(t, "DeltaOf many lines", impl.DeltaOf(mustCompile(t, `{ n += NF; m += 1 }`), impl.Store{}, []string{"n", "m"}, many), impl.Store{Vars: vars("m", "1000", "n", "20000")})
	checkDeltaOf(t, `{ print NR, $0 }`, impl.Store{}, nil, []string{"a\nb", "\n", "\x00\xff"}, impl.Store{Out: "1 a\nb\n2 \n\n3 \x00\xff\n"})
}

func TestDeltasInFullStores(t *testing.T) {
	// What is taken out of begin makes room.
	begin := impl.Store{Vars: manyVars(60), Cells: manyCells(2000)}
	first := begin.Vars[0].Name
	checkDeltaOf(t, `{ new += 1 }`, begin, []string{"new"}, []string{"x"}, impl.Store{})
	checkDeltaOf(t, `{ new += 1; newer += 1 }`, begin, []string{"new", "newer", first}, []string{"x"}, impl.Store{Vars: vars("new", "1")})
	checkDeltaOf(t, `{ t[$1] += 1 }`, begin, []string{"t"}, []string{"x"}, impl.Store{})
	checkDeltaOf(t, `{ t[$1] += 1; x[$1] += 1 }`, begin, []string{"t", "x"}, []string{"a"}, impl.Store{Cells: cells("t", "a", "1", "x", "a", "1")})
	checkDeltaOf(t, `{ t[$1] += 1; x[$1] += 1 }`, begin, []string{"t", "y"}, []string{"a", "a"}, impl.Store{Cells: cells("t", "a", "2")})
	for k := range uint64(60) {
		r := rand.New(rand.NewPCG(114, k))
		s := impl.Store{Vars: manyVars(oneOf(r, 58, 59, 60)), Cells: manyCells(oneOf(r, 1998, 1999, 2000)), Out: strings.Repeat("o", oneOf(r, 0, 2999, 3000))}
		checkDelta(t, drawnCode(r), s, append(drawnNames(r), s.Vars[r.IntN(len(s.Vars))].Name), drawnLineList(r))
	}
	// Out begins without that of begin, and is cut by itself.
	full := impl.Store{Out: strings.Repeat("o", 3000)}
	checkDeltaOf(t, `{ print $1 }`, full, nil, []string{"x"}, impl.Store{Out: "x\n"})
	checkDeltaOf(t, `{ print $1 }`, full, nil, slices.Repeat([]string{strings.Repeat("x", 29)}, 101), impl.Store{Out: strings.Repeat(strings.Repeat("x", 29)+"\n", 100)})
	checkDeltaOf(t, `{ print $1 }`, full, nil, slices.Repeat([]string{strings.Repeat("x", 28)}, 104), impl.Store{Out: plainCut(strings.Repeat(strings.Repeat("x", 28)+"\n", 104), 3000)})
}

func TestDrawnDeltas(t *testing.T) {
	told := 0
	for k := range uint64(2000) {
		r := rand.New(rand.NewPCG(115, k))
		c := drawnCode(r)
		if compiled, ok := impl.Compile(oneOf(r, runProgram(r), countingProgram(r))); ok && k%4 > 0 {
			c = compiled
		}
		begin := drawnRightStore(r)
		names := append(drawnNames(r), oneOf(r, nil, c.Texts)...)
		lines := drawnLineList(r)
		checkDelta(t, c, begin, names, lines)
		if d := plainDelta(c, begin, names, lines); len(d.Vars)+len(d.Cells) > 0 {
			told++
		}
	}
	if told < 300 {
		t.Errorf("only %d tell something", told)
	}
}

func TestDeltasOfWhatIsNotRight(t *testing.T) {
	right := mustCompile(t, `{ n += 1; c["k"] += 1; print $1 }`)
	names, lines := []string{"c", "n"}, []string{"x", "y"}
	forty := strings.Repeat("v", 41)
	for _, begin := range []impl.Store{
		{Vars: vars("b", "1", "a", "1")}, {Vars: vars("a", "1", "a", "1")}, {Vars: vars("", "1")}, {Vars: vars("abcdefghi", "1")}, {Vars: vars("a1", "1")}, {Vars: vars("a", forty)}, {Vars: manyVars(61)}, {Vars: vars("n", forty)}, {Vars: vars("n", "1", "n", "2")},
		{Cells: cells("b", "", "1", "a", "", "1")}, {Cells: cells("a", "b", "1", "a", "a", "1")}, {Cells: cells("a", "a", "1", "a", "a", "1")}, {Cells: cells("", "", "")}, {Cells: cells("abcdefghi", "", "")}, {Cells: cells("a", forty, "")}, {Cells: cells("c", "k", forty)}, {Cells: manyCells(2001)}, {Out: strings.Repeat("o", 3001)},
	} {
		checkStoreOk(t, begin, false)
		checkSame(t, "DeltaOf a begin that is not right", impl.DeltaOf(right, begin, names, lines), impl.Store{})
	}
	wrong := 0
	for k := range uint64(2000) {
		r := rand.New(rand.NewPCG(116, k))
		c := turnedCode(r, turnedCode(r, drawnCode(r)))
		begin := drawnRightStore(r)
		if k%4 == 0 {
			c, begin = drawnCode(r), drawnWrongStore(r)
		}
		checkDelta(t, c, begin, drawnNames(r), drawnLineList(r))
		if plainCodeOk(c) && plainStoreOk(begin) {
			continue
		}
		wrong++
		checkSame(t, "DeltaOf what is not right", impl.DeltaOf(c, begin, names, lines), impl.Store{})
	}
	if wrong < 800 {
		t.Errorf("only %d are wrong", wrong)
	}
	for _, c := range []impl.Code{{Begin: 1}, {Line: 1}, {End: -1}, {Line: math.MinInt, End: math.MaxInt}, {List: []impl.Instr{instr(impl.CoText, 0)}, End: 1}, {Texts: []string{"x"}, List: []impl.Instr{instr(impl.CoText, 0)}}, {List: []impl.Instr{{}}}, {Texts: slices.Repeat([]string{"x"}, 61)}} {
		checkSame(t, "DeltaOf code that is not right", impl.DeltaOf(c, impl.Store{Vars: vars("n", "1")}, names, lines), impl.Store{})
	}
	// Both are looked at, though there are no lines.
	checkSame(t, "DeltaOf no lines", impl.DeltaOf(impl.Code{Line: 5}, impl.Store{}, nil, nil), impl.Store{})
}

func TestMergesByHand(t *testing.T) {
	none := impl.Store{}
	checkMerged(t, none, none, none)
	s := impl.Store{Vars: vars("a", "1", "c", "3"), Cells: cells("t", "a", "1", "t", "c", "3"), Out: "out\n"}
	checkMerged(t, s, none, s)
	checkMerged(t, none, s, s)
	checkMerged(t, s, s, impl.Store{Vars: vars("a", "2", "c", "6"), Cells: cells("t", "a", "2", "t", "c", "6"), Out: "out\nout\n"})
	d := impl.Store{Vars: vars("B", "7", "a", "10", "b", "20", "d", "40"), Cells: cells("s", "a", "5", "t", "", "6", "t", "b", "7", "t", "c", "8", "u", "a", "9"), Out: "more"}
	checkMerged(t, s, d, impl.Store{Vars: vars("B", "7", "a", "11", "b", "20", "c", "3", "d", "40"), Cells: cells("s", "a", "5", "t", "", "6", "t", "a", "1", "t", "b", "7", "t", "c", "11", "u", "a", "9"), Out: "out\nmore"})
	checkMerged(t, d, s, impl.Store{Vars: vars("B", "7", "a", "11", "b", "20", "c", "3", "d", "40"), Cells: cells("s", "a", "5", "t", "", "6", "t", "a", "1", "t", "b", "7", "t", "c", "11", "u", "a", "9"), Out: "moreout\n"})
	// Values that are no numbers, or are told in another way.
	for there, with := range map[string]map[string]string{
		"": {"": "0", "x": "0", "5": "5", " 5x": "5"}, "x": {"": "0", "7": "7"}, "12x": {"3": "15", "x": "12"}, "007": {"": "7", "003": "10"}, "999999": {"1": "0", "2": "1", "999999": "999998"}, "1000000": {"": "0", "1000001": "1"},
		strings.Repeat("9", 40): {"": "999999", strings.Repeat("9", 40): "999998"}, " 1 2": {" 3 4": "4"}, "-1": {"-1": "0", "5": "5"},
	} {
		for val, sum := range with {
			checkMerged(t, impl.Store{Vars: vars("n", there)}, impl.Store{Vars: vars("n", val)}, impl.Store{Vars: vars("n", sum)})
			checkMerged(t, impl.Store{Cells: cells("n", "k", there)}, impl.Store{Cells: cells("n", "k", val)}, impl.Store{Cells: cells("n", "k", sum)})
			checkMerged(t, impl.Store{Vars: vars("n", there)}, impl.Store{Cells: cells("n", "", val)}, impl.Store{Vars: vars("n", there), Cells: cells("n", "", plainNumText(plainNum(val)))})
		}
	}
	// What d has not stays as it is, though it is no number.
	checkMerged(t, impl.Store{Vars: vars("a", "as it is", "b", "007"), Cells: cells("t", "k", "007")}, impl.Store{Vars: vars("c", "x")}, impl.Store{Vars: vars("a", "as it is", "b", "007", "c", "0"), Cells: cells("t", "k", "007")})
}

func TestMergesOfFullStores(t *testing.T) {
	sixty, all := manyVars(60), manyCells(2000)
	full := impl.Store{Vars: sixty, Cells: all}
	doubled := copyOfStore(full)
	for i := range doubled.Vars {
		doubled.Vars[i].Val = strconv.Itoa(2 * i)
	}
	for i := range doubled.Cells {
		doubled.Cells[i].Val = strconv.Itoa(2 * i)
	}
	checkMerged(t, full, full, doubled)
	checkMerged(t, impl.Store{}, full, full)
	checkMerged(t, full, impl.Store{}, full)
	// No room for others; what is there is added to, ahead of these and behind them.
	d := impl.Store{Vars: vars("A", "1", sixty[7].Name, "5", "zzz", "1"), Cells: cells("A", "", "1", all[7].Name, all[7].Key, "5", "zzz", "", "1")}
	want := copyOfStore(full)
	want.Vars[7].Val, want.Cells[7].Val = "12", "12"
	checkMerged(t, full, d, want)
	// Room for one: the first has it.
	s := impl.Store{Vars: sixty[:59], Cells: all[:1999]}
	got := checkMerge(t, s, impl.Store{Vars: vars("A", "1", "B", "2"), Cells: cells("A", "", "1", "B", "", "2")})
	if len(got.Vars) != 60 || len(got.Cells) != 2000 || got.Vars[0] != vars("A", "1")[0] || got.Cells[0] != cells("A", "", "1")[0] || impl.VarOf(got, "B") != "" || impl.CellOf(got, "B", "") != "" {
		t.Errorf("of two new ones %v and %v are there", got.Vars[:2], got.Cells[:2])
	}
}

func TestMergesOfOuts(t *testing.T) {
	for _, sizes := range [][2]int{{0, 0}, {0, 3000}, {3000, 0}, {1, 2999}, {2999, 1}, {1, 3000}, {3000, 1}, {2999, 2}, {2999, 3000}, {3000, 3000}, {1500, 1500}, {1500, 1501}, {1501, 1500}} {
		s, d := impl.Store{Out: strings.Repeat("s", sizes[0])}, impl.Store{Out: strings.Repeat("d", sizes[1])}
		checkMerged(t, s, d, impl.Store{Out: strings.Repeat("s", sizes[0]) + strings.Repeat("d", min(sizes[1], 3000-sizes[0]))})
	}
	// Nothing is put between both.
	checkMerged(t, impl.Store{Out: "a"}, impl.Store{Out: "b"}, impl.Store{Out: "ab"})
	checkMerged(t, impl.Store{Out: "a\n"}, impl.Store{Out: "\n"}, impl.Store{Out: "a\n\n"})
}

func TestDrawnMerges(t *testing.T) {
	for k := range uint64(3000) {
		r := rand.New(rand.NewPCG(117, k))
		s, d := drawnRightStore(r), drawnRightStore(r)
		for i := range s.Vars {
			s.Vars[i].Val = plainCut(drawnMeantText(r, impl.ExText), 40)
		}
		for i := range d.Cells {
			d.Cells[i].Val = plainCut(drawnMeantText(r, impl.ExText), 40)
		}
		checkStoreOk(t, checkMerge(t, s, d), true)
		// In any order, but for what is said.
		e := drawnRightStore(r)
		one, other := impl.MergeDelta(impl.MergeDelta(s, d), e), impl.MergeDelta(impl.MergeDelta(s, e), d)
		one.Out, other.Out = "", ""
		checkSame(t, "MergeDelta in another order", one, other)
	}
}

func TestMergesOfStoresThatAreNotRight(t *testing.T) {
	for k := range uint64(2000) {
		r := rand.New(rand.NewPCG(118, k))
		s, d := drawnWrongStore(r), drawnWrongStore(r)
		switch k % 6 {
		case 0:
			s = drawnRightStore(r)
		case 1:
			d = drawnRightStore(r)
		case 2:
			s.Vars = append(manyVars(59), vars("a", "1", "a", "2", "b", "3")...)
		}
		if k%300 == 0 {
			s.Cells = append(s.Cells, manyCells(1995)...)
		}
		checkMerge(t, s, d)
		checkMerge(t, d, s)
	}
	// Two alike are added one after the other; keys and values are cut.
	long := strings.Repeat("9", 60)
	checkMerged(t, impl.Store{}, impl.Store{Vars: vars("n", "1", "n", "2", "m", "3"), Cells: cells("t", long, "1", "t", long+"0", "2")}, impl.Store{Vars: vars("m", "3", "n", "3"), Cells: cells("t", long[:40], "3")})
	checkMerged(t, impl.Store{Vars: vars("n", "1", "n", "2")}, impl.Store{Vars: vars("n", "10")}, impl.Store{Vars: vars("n", "11", "n", "2")})
	checkMerged(t, impl.Store{Out: strings.Repeat("o", 3001)}, impl.Store{}, impl.Store{Out: strings.Repeat("o", 3000)})
	checkMerged(t, impl.Store{}, impl.Store{Out: strings.Repeat("o", 5000)}, impl.Store{Out: strings.Repeat("o", 3000)})
	inGoodTime(t, func() {
		big := impl.Store{Vars: slices.Repeat(manyVars(300), 30), Cells: slices.Repeat(manyCells(1000), 30), Out: strings.Repeat("o", 1<<20)}
		if got := impl.MergeDelta(impl.Store{}, big); len(got.Vars) != 60 || len(got.Cells) != 1000 || len(got.Out) != 3000 {
			t.Error("a delta that is far too big")
		}
		impl.MergeDelta(big, impl.Store{Vars: big.Vars[:50], Cells: big.Cells[:50]})
	})
}

func checkCutLines(t *testing.T, lines []string, n int, want ...[]string) {
	t.Helper()
	got := impl.CutLines(lines, n)
	if toldParts(got) != toldParts(want) || toldParts(plainCutLines(lines, n)) != toldParts(want) {
		t.Errorf("CutLines of %q in parts of %d = %q; want %q", lines, n, got, want)
	}
}

func TestCutLines(t *testing.T) {
	for _, none := range [][]string{nil, {}, make([]string, 0, 5)} {
		for _, n := range append(partSizes(), 5, math.MaxInt-1, math.MinInt+1) {
			if got := impl.CutLines(none, n); len(got) != 0 {
				t.Errorf("CutLines of no lines in parts of %d = %q", n, got)
			}
		}
	}
	abc := strings.Fields("a b c")
	checkCutLines(t, abc, 1, abc[:1], abc[1:2], abc[2:])
	checkCutLines(t, abc, 2, abc[:2], abc[2:])
	for _, n := range []int{0, -1, -2, -3, math.MinInt, math.MinInt + 1, 3, 4, 5, 20, math.MaxInt, math.MaxInt - 1, math.MaxInt - 2} {
		checkCutLines(t, abc, n, abc)
		checkCutLines(t, abc[:1], n, abc[:1])
	}
	checkCutLines(t, []string{""}, 1, []string{""})
	checkCutLines(t, []string{"", "a\nb", ""}, 2, []string{"", "a\nb"}, []string{""})
	abcd := strings.Fields("a b c d")
	checkCutLines(t, abcd, 2, abcd[:2], abcd[2:])
	checkCutLines(t, abcd, 3, abcd[:3], abcd[3:])
	lines := []string{}
	for i := range 60 {
		lines = append(lines, "l"+strconv.Itoa(i))
	}
	for count := range 60 {
		for n := -3; n <= count+3; n++ {
			got := impl.CutLines(lines[:count], n)
			if toldParts(got) != toldParts(plainCutLines(lines[:count], n)) || !slices.Equal(slices.Concat(got...), lines[:count]) {
				t.Fatalf("CutLines of %d lines in parts of %d = %q", count, n, got)
			}
		}
	}
	inGoodTime(t, func() {
		many := slices.Repeat([]string{"x"}, 200000)
		if len(impl.CutLines(many, 1)) != 200000 || len(impl.CutLines(many, 0)) != 1 || len(impl.CutLines(many, 3)) != 66667 {
			t.Error("CutLines of many lines")
		}
	})
}

func TestNamesThatAreNotItsOwn(t *testing.T) {
	c := mustCompile(t, `BEGIN { n = 5; m = 1 } { n += $1; m += 1; c[$1] += 1 } END { print n, m; dump c }`)
	text := "1\n2\n3\n"
	for names, said := range map[string]string{"": "5 1\n", "n": "11 1\n", "c": "5 1\n1 1\n2 1\n3 1\n", "n m": "11 4\n", "m n c n": "11 4\n1 1\n2 1\n3 1\n", "x": "5 1\n"} {
		for _, n := range partSizes() {
			got, ok := impl.RunParts(c, strings.Fields(names), text, n)
			if !ok || got.Out != said {
				t.Errorf("RunParts under %q in parts of %d says %q, %v; want %q", names, n, got.Out, ok, said)
			}
			checkPartsOfCode(t, c, strings.Fields(names), text, n)
		}
	}
	// A program that may not be cut: each part begins from what BEGIN made, and what it sets is added.
	c = mustCompile(t, `BEGIN { last = "b"; s = 10 } { print NR, last; last = $1; s = $1; dump t; t[$1] = NR } END { print last, s, NR }`)
	for names, said := range map[string]string{"": "1 b\n2 4\n4 1\n1 b\nb 10 3\n", "s": "1 b\n2 4\n4 1\n1 b\nb 21 3\n", "last t": "1 \n2 4\n4 1\n1 \n11 10 3\n"} {
		got, ok := impl.RunParts(c, strings.Fields(names), "4\n5\n6", 2)
		if !ok || got.Out != said {
			t.Errorf("RunParts under %q says %q, %v; want %q", names, got.Out, ok, said)
		}
		checkPartsOfCode(t, c, strings.Fields(names), "4\n5\n6", 2)
	}
	for k := range uint64(1500) {
		r := rand.New(rand.NewPCG(119, k))
		drawn := drawnCode(r)
		if compiled, ok := impl.Compile(runProgram(r)); ok && k%2 == 0 {
			drawn = compiled
		}
		checkPartsOfCode(t, drawn, drawnNames(r), drawnLines(r), oneOf(r, partSizes()...))
	}
}

func TestPartsOfWrongCode(t *testing.T) {
	check := func(c impl.Code) {
		t.Helper()
		for _, n := range partSizes() {
			for _, text := range []string{"", "a\nb\n"} {
				if got, ok := impl.RunParts(c, []string{"n"}, text, n); ok || toldStore(got) != toldStore(impl.Store{}) {
					t.Fatalf("RunParts = %s, %v of %s", toldStore(got), ok, toldCode(c))
				}
			}
		}
	}
	for _, c := range []impl.Code{{Begin: 1}, {Begin: -1}, {Line: 1}, {End: 1}, {End: -1}, {Line: math.MinInt, End: math.MaxInt}, {List: []impl.Instr{{}}}, {List: []impl.Instr{instr(impl.CoPrint, 1)}, Line: 1, End: 1}, {List: []impl.Instr{instr(impl.CoPrint, 1)}, End: 1}, {List: []impl.Instr{instr(impl.CoPrint, 1)}}, {Texts: slices.Repeat([]string{"x"}, 61)}, {Texts: []string{strings.Repeat("x", 31)}}} {
		check(c)
	}
	wrong := 0
	for k := range uint64(600) {
		r := rand.New(rand.NewPCG(120, k))
		c := turnedCode(r, turnedCode(r, drawnCode(r)))
		if !plainCodeOk(c) {
			wrong++
			check(c)
		} else {
			checkPartsOfCode(t, c, drawnNames(r), drawnLines(r), oneOf(r, partSizes()...))
		}
	}
	if wrong < 200 {
		t.Errorf("only %d are wrong", wrong)
	}
}

func TestWhatTheEndSeesOfParts(t *testing.T) {
	program := `BEGIN { print "b", NR, NF, $0 } { n += 1; print $1 } END { print "e", NR, NF, $0; print n }`
	for _, count := range []int{0, 1, 2, 3, 4, 19, 20, 21, 22, 60} {
		text, said := "", "b 0 0 \n"
		for i := range count {
			text += fmt.Sprintf("l%d x\n", i)
			if i < 20 {
				said += fmt.Sprintf("l%d\n", i)
			}
		}
		seen := min(count, 20)
		want := impl.Store{Out: said + "e 0 0 \n\n"}
		if count > 0 {
			want = impl.Store{Vars: vars("n", strconv.Itoa(seen)), Out: said + fmt.Sprintf("e %d 2 l%d x\n%d\n", seen, seen-1, seen)}
		}
		checkCutRun(t, program, text, want)
	}
	// The last line is the text's, though it is empty, or ends nowhere.
	checkCutRun(t, `END { print NR, NF, $0 }`, "a b\n\n", impl.Store{Out: "2 0 \n"})
	checkCutRun(t, `END { print NR, NF, $0 }`, "a b\nc", impl.Store{Out: "2 1 c\n"})
	checkCutRun(t, `END { print NR, NF, $0 }`, "\n", impl.Store{Out: "1 0 \n"})
}

// As much as may be cut: a program that fills as many cells and names as it can.
func TestAsMuchAsMayBeCut(t *testing.T) {
	texts, list := coded(t, "text 0; field; long; addto n")
	all := []impl.Instr{}
	for len(all)+len(list) <= maxInstrs {
		all = append(all, list...)
	}
	c := impl.Code{Texts: texts, List: all, End: len(all)}
	checkCode(t, c, true)
	inGoodTime(t, func() {
		for _, n := range partSizes() {
			got, _ := impl.RunParts(c, []string{"n"}, strings.Repeat("abc\n", 20), n)
			checkSame(t, "RunParts", got, impl.Store{Vars: vars("n", strconv.Itoa(20*3*(len(all)/len(list))))})
		}
		// Names without end.
		names := slices.Repeat([]string{"a", "n", "zz"}, 100000)
		got := impl.DeltaOf(c, impl.Store{Vars: manyVars(60), Cells: manyCells(2000)}, names, []string{"x"})
		checkSame(t, "DeltaOf", got, impl.Store{})
	})
	// Sixty names, all counted under, all set ahead.
	begin, line, sixty, want := []impl.Instr{}, []impl.Instr{}, []string{}, []impl.Var{}
	for i := range 60 {
		begin = append(begin, instr(impl.CoFields, 0), instr(impl.CoSet, i))
		line = append(line, instr(impl.CoFields, 0), instr(impl.CoAddTo, i))
		sixty = append(sixty, lettered(60-i))
		want = append(want, impl.Var{Name: lettered(60 - i), Val: "20"})
	}
	c = impl.Code{Texts: sixty, List: slices.Concat(begin, line), Line: len(begin), End: len(begin) + len(line)}
	checkCode(t, c, true)
	for _, n := range partSizes() {
		got, _ := impl.RunParts(c, sixty, strings.Repeat("abc\n", 20), n)
		checkSame(t, "RunParts of sixty names", got, impl.Store{Vars: asVars(inOrder(asCells(want)))})
	}
}

func checkTextsRoom(t *testing.T, list []string) {
	t.Helper()
	if !slices.Equal(list[len(list):][:2], []string{"spare", "room"}) {
		t.Fatal("something was written into the spare room behind a list")
	}
}

func TestWhatIsCutIsNew(t *testing.T) {
	for k := range uint64(400) {
		r := rand.New(rand.NewPCG(121, k))
		c := drawnCode(r)
		if compiled, ok := impl.Compile(runProgram(r)); ok && k%2 == 0 {
			c = compiled
		}
		c = roomyCode(c)
		if k%9 == 0 {
			c.Begin = 1
		}
		s, d := roomyStore(drawnMeantStore(r)), roomyStore(drawnMeantStore(r))
		names, lines := roomyTexts(drawnNames(r)), roomyTexts(drawnLineList(r))
		text := strings.Clone(strings.Join(lines, "\n"))
		was := toldCode(c) + toldStore(s) + toldStore(d) + fmt.Sprintf("%q %q", names, lines)
		handedIn := slices.Concat(c.Texts, textsOfStore(s), textsOfStore(d), names, lines, []string{text})
		n := oneOf(r, partSizes()...)
		checkOwn(t, "DeltaOf", func() impl.Store { return impl.DeltaOf(c, s, names, lines) }, handedIn, s)
		checkOwn(t, "MergeDelta", func() impl.Store { return impl.MergeDelta(s, d) }, handedIn, s)
		checkOwn(t, "MergeDelta", func() impl.Store { return impl.MergeDelta(s, d) }, handedIn, d)
		checkOwn(t, "RunParts", func() impl.Store { done, _ := impl.RunParts(c, names, text, n); return done }, handedIn, impl.Store{})
		checkNew(t, "CutLines", slices.Concat(impl.CutLines(lines, n)...), handedIn)
		if toldCode(c)+toldStore(s)+toldStore(d)+fmt.Sprintf("%q %q", names, lines) != was {
			t.Fatal("an argument is not as it was")
		}
		checkCodeRoom(t, c)
		checkStoreRoom(t, s)
		checkStoreRoom(t, d)
		checkTextsRoom(t, names)
		checkTextsRoom(t, lines)
	}
	// Every kind of text that may be told.
	c := roomyCode(mustCompile(t, `{ a = "text"; c["key"] = $1; d = $0; print "said"; e = e; f = v; g[w] += 1 }`))
	begin := roomyStore(impl.Store{Vars: vars("v", "value", "w", "key")})
	names, lines := roomyTexts(strings.Fields("a b c d e f g")), roomyTexts([]string{"first second"})
	got := impl.DeltaOf(c, begin, names, lines)
	checkSame(t, "all", got, impl.Store{Vars: vars("a", "text", "d", "first second", "e", "", "f", "value"), Cells: cells("c", "key", "first", "g", "key", "1"), Out: "said\n"})
	checkNew(t, "DeltaOf", textsOfStore(got), slices.Concat(c.Texts, textsOfStore(begin), names, lines))
}

func TestProgramsThatAreCutStayAsTheyAre(t *testing.T) {
	for k := range uint64(400) {
		r := rand.New(rand.NewPCG(122, k))
		p := countingProgram(r)
		if k%2 == 0 {
			p = hindered(r, p)
		}
		p = ownTexts(roomy(p))
		was := toldProgram(p)
		names := impl.Names(p)
		impl.Mergeable(p)
		checkNew(t, "Names", names, textsOfProgram(p))
		for i := range names[:cap(names)] {
			names[:cap(names)][i] = "spoilt"
		}
		if toldProgram(p) != was || !slices.Equal(impl.Names(p), plainNames(p)) {
			t.Fatal("a program, or what is told of it, is not as it was")
		}
		checkRoom(t, p)
	}
}

func TestPartsShareNothing(t *testing.T) {
	lines := roomyTexts(strings.Fields("a b c d e f g h"))
	for _, n := range partSizes() {
		got := impl.CutLines(lines, n)
		want := toldParts(plainCutLines(lines, n))
		other := impl.CutLines(lines, n)
		for i, part := range other {
			for j := range part[:cap(part)] {
				part[:cap(part)][j] = "spoilt"
			}
			// The others stay as they are.
			for k := i + 1; k < len(other); k++ {
				if !slices.Equal(other[k], got[k]) {
					t.Fatalf("parts of %d share memory", n)
				}
			}
		}
		if toldParts(got) != want || toldParts(impl.CutLines(lines, n)) != want {
			t.Fatalf("parts of %d are not as they were", n)
		}
		for _, part := range got {
			_ = append(part, "behind")
		}
		if toldParts(got) != want || !slices.Equal(lines, strings.Fields("a b c d e f g h")) {
			t.Fatalf("parts of %d are not as they were", n)
		}
		checkTextsRoom(t, lines)
		checkNew(t, "CutLines", slices.Concat(got...), lines)
	}
}

func TestCutsOfNilAndEmptyLists(t *testing.T) {
	for _, p := range []impl.Program{{}, {Nodes: []impl.Node{}}, {Rules: []impl.Rule{}}, {Nodes: make([]impl.Node, 0, 5), Rules: make([]impl.Rule, 0, 5)}} {
		if !impl.Mergeable(p) || len(impl.Names(p)) != 0 {
			t.Errorf("a program of nothing: %v, %q", impl.Mergeable(p), impl.Names(p))
		}
	}
	for _, kids := range [][]int{nil, {}, make([]int, 0, 3)} {
		p := impl.Program{Nodes: []impl.Node{{Op: impl.ExFields, Kids: kids}, {Op: impl.StAdd, Text: "n", Kids: []int{0}}, {Op: impl.StBlock, Kids: kids}, {Op: impl.StBlock, Kids: []int{1, 2}}}, Rules: []impl.Rule{rule(impl.WhenLine, 0, 3)}}
		if !impl.Mergeable(p) || !slices.Equal(impl.Names(p), []string{"n"}) {
			t.Errorf("Mergeable = %v, Names = %q", impl.Mergeable(p), impl.Names(p))
		}
	}
	stores := []impl.Store{{}, {Vars: []impl.Var{}}, {Cells: []impl.Cell{}}, {Vars: make([]impl.Var, 0, 5), Cells: make([]impl.Cell, 0, 5)}}
	rows := [][]string{nil, {}, make([]string, 0, 5)}
	count := mustCompile(t, `{ n += 1 }`)
	for _, s := range stores {
		for _, d := range stores {
			checkMerged(t, s, d, impl.Store{})
		}
		checkMerged(t, s, impl.Store{Vars: vars("n", "1"), Out: "x"}, impl.Store{Vars: vars("n", "1"), Out: "x"})
		for _, row := range rows {
			for _, c := range []impl.Code{{}, {Texts: []string{}, List: []impl.Instr{}}, count} {
				checkSame(t, "DeltaOf", impl.DeltaOf(c, s, row, row), impl.Store{})
				checkSame(t, "DeltaOf", impl.DeltaOf(c, s, row, []string{"x"}), impl.Store{})
			}
			checkSame(t, "DeltaOf", impl.DeltaOf(count, s, []string{"n"}, row), impl.Store{})
			checkSame(t, "DeltaOf", impl.DeltaOf(count, s, []string{"n"}, []string{"x"}), impl.Store{Vars: vars("n", "1")})
		}
	}
	for _, row := range rows {
		for _, n := range partSizes() {
			for _, c := range []impl.Code{{}, {Texts: []string{}, List: []impl.Instr{}}} {
				if got, ok := impl.RunParts(c, row, "a\nb\n", n); !ok || toldStore(got) != toldStore(impl.Store{}) {
					t.Errorf("RunParts = %s, %v", toldStore(got), ok)
				}
			}
			if got, ok := impl.RunParts(count, row, "a\nb\n", n); !ok || toldStore(got) != toldStore(impl.Store{}) {
				t.Errorf("RunParts = %s, %v", toldStore(got), ok)
			}
		}
	}
}

func TestCutsDoNotHangOnEarlierOnes(t *testing.T) {
	p := mustReadProgram(t, `BEGIN { n = 1 } $1 ~ /a/ { n += 1; c[$1] += $2 } END { dump c; print n }`)
	c, _ := impl.Compile(p)
	tell := func() string {
		s, ok := impl.RunParts(c, impl.Names(p), "a 1\nb\na 3\n", 2)
		d := impl.DeltaOf(c, s, impl.Names(p), []string{"a 5", "ab 6"})
		return toldStore(s) + toldStore(d) + toldStore(impl.MergeDelta(s, d)) + fmt.Sprint(ok, impl.Names(p), impl.Mergeable(p), impl.CutLines([]string{"a", "b", "c"}, 2))
	}
	first := tell()
	for k := range uint64(200) {
		r := rand.New(rand.NewPCG(123, k))
		other := drawnCode(r)
		impl.RunParts(other, drawnNames(r), drawnLines(r), r.IntN(5))
		impl.MergeDelta(impl.DeltaOf(other, drawnMeantStore(r), drawnNames(r), drawnLineList(r)), drawnWrongStore(r))
		checkCuts(t, countingProgram(r))
		if tell() != first {
			t.Fatal("an answer hangs on earlier ones")
		}
	}
}
