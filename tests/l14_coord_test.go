package tests

import (
	"fmt"
	"math"
	"math/rand/v2"
	"slices"
	"strings"
	"testing"

	"loop.example/g00237/impl"
)

func checkSameCoord(t *testing.T, what string, got impl.Coord, want impl.Coord) {
	t.Helper()
	if toldCoord(got) != toldCoord(want) {
		t.Fatalf("%s is\n%.3000s\nwant\n%.3000s", what, toldCoord(got), toldCoord(want))
	}
}

func checkSaid(t *testing.T, what string, said []impl.Message, want []impl.Message) {
	t.Helper()
	if !slices.Equal(said, want) {
		t.Fatalf("%s says %s; want %s", what, toldMessages(said), toldMessages(want))
	}
}

// checkCoordNew checks what a coord begins with, and answers whether there is one.
func checkCoordNew(t *testing.T, p impl.Program, text string, n int) (impl.Coord, bool) {
	t.Helper()
	c, ok := impl.CoordNew(p, text, n)
	want, wantOk := plainCoordNew(p, text, n)
	if ok != wantOk {
		t.Fatalf("CoordNew is %v of %.200q in parts of %d by\n%s", ok, text, n, toldProgram(p))
	}
	checkSameCoord(t, fmt.Sprintf("CoordNew of %.200q in parts of %d by\n%s", text, n, toldProgram(p)), c, want)
	return c, ok
}

// mustCoord is a coord of a program that is written.
func mustCoord(t *testing.T, program string, text string, n int) impl.Coord {
	t.Helper()
	c, ok := checkCoordNew(t, mustReadProgram(t, program), text, n)
	if !ok {
		t.Fatalf("there is no coord of %s", program)
	}
	return c
}

// checkGive checks what comes of a worker that is given a task, also when it asks for one.
func checkGive(t *testing.T, c impl.Coord, worker int) (impl.Coord, []impl.Message) {
	t.Helper()
	after, said := impl.GiveTask(c, worker)
	want, wantSaid := plainGiven(c, worker)
	checkSameCoord(t, "GiveTask of\n"+toldCoord(c)+"\n", after, want)
	checkSaid(t, "GiveTask", said, wantSaid)
	if worker >= 1 && worker <= 3 {
		heard, answer := impl.HearCoord(c, ask(worker))
		checkSameCoord(t, "HearCoord of MsAsk and\n"+toldCoord(c)+"\n", heard, after)
		checkSaid(t, "HearCoord of MsAsk", answer, said)
	}
	return after, said
}

// checkNothingGiven checks that a coord stays as it is, and nothing is given.
func checkNothingGiven(t *testing.T, c impl.Coord) {
	t.Helper()
	for _, worker := range []int{1, 2, 3, 0, 4, -1} {
		after, said := checkGive(t, c, worker)
		checkSameCoord(t, "what gives nothing", after, c)
		checkSaid(t, "what gives nothing", said, nil)
	}
}

// checkGiven checks that just this task is given, its Try one more than all Tries, its lease from now on; all else stays.
func checkGiven(t *testing.T, c impl.Coord, worker int, place int) impl.Coord {
	t.Helper()
	after, said := checkGive(t, c, worker)
	body, ok := impl.JobText(jobAt(c, place))
	if !ok {
		t.Fatalf("task %d has no text", place)
	}
	checkSaid(t, "GiveTask", said, []impl.Message{{Kind: impl.MsGive, Worker: worker, Task: place, Try: c.Tries + 1, Body: body}})
	want := copyOfCoord(c)
	want.Tries = c.Tries + 1
	want.Tasks[place].Try, want.Tasks[place].Until = c.Tries+1, c.Now+impl.LeaseTime
	checkSameCoord(t, "what has given", after, want)
	return after
}

func checkHearCoord(t *testing.T, c impl.Coord, m impl.Message) (impl.Coord, []impl.Message) {
	t.Helper()
	after, said := impl.HearCoord(c, m)
	want, wantSaid := plainGathered(c, m)
	what := "HearCoord of " + toldMessage(m)
	checkSameCoord(t, what+" and\n"+toldCoord(c)+"\n", after, want)
	checkSaid(t, what, said, wantSaid)
	return after, said
}

// checkPassedOver checks that a coord stays as it is, and says nothing.
func checkPassedOver(t *testing.T, c impl.Coord, m impl.Message) {
	t.Helper()
	after, said := checkHearCoord(t, c, m)
	checkSameCoord(t, "behind "+toldMessage(m)+" it", after, c)
	checkSaid(t, "HearCoord of "+toldMessage(m), said, nil)
}

// checkGathered checks that an answer is taken, the first one of its task; Over and Final are the caller's to look at.
func checkGathered(t *testing.T, c impl.Coord, m impl.Message) impl.Coord {
	t.Helper()
	after, said := checkHearCoord(t, c, m)
	checkSaid(t, "HearCoord of "+toldMessage(m), said, []impl.Message{got(m.Worker, m.Task, m.Try)})
	want := copyOfCoord(c)
	want.Tasks[m.Task].Done = true
	want.Tasks[m.Task].Delta, _ = plainReadStore(m.Body)
	want.Over, want.Final = after.Over, after.Final
	checkSameCoord(t, "behind "+toldMessage(m)+" it", after, want)
	return after
}

// checkHeardOnly checks that an answer is heard, and changes nothing.
func checkHeardOnly(t *testing.T, c impl.Coord, m impl.Message) {
	t.Helper()
	after, said := checkHearCoord(t, c, m)
	checkSaid(t, "HearCoord of "+toldMessage(m), said, []impl.Message{got(m.Worker, m.Task, m.Try)})
	checkSameCoord(t, "behind "+toldMessage(m)+" it", after, c)
}

// checkTicked checks that Now alone is another one.
func checkTicked(t *testing.T, c impl.Coord, n int, now int) impl.Coord {
	t.Helper()
	after := impl.TickCoord(c, n)
	checkSameCoord(t, fmt.Sprintf("TickCoord of %d", n), after, plainTicked(c, n))
	want := copyOfCoord(c)
	want.Now = now
	checkSameCoord(t, fmt.Sprintf("TickCoord of %d", n), after, want)
	return after
}

// answerTo is what a worker tells of what is given to it.
func answerTo(t *testing.T, m impl.Message) impl.Message {
	t.Helper()
	_, said := impl.HearWorker(impl.WorkerNew(m.Worker), m)
	if len(said) != 1 || said[0].Kind != impl.MsTell {
		t.Fatalf("a worker says %s of %s", toldMessages(said), toldMessage(m))
	}
	return said[0]
}

// countingText is a program that counts and says something of each line, and in the end.
const countingText = `BEGIN { n = 100; print "b", NR } { n += $1; print $2; c[$2] += 1 } END { print n, NR, $0, NF; dump c }`

func TestLeaseTime(t *testing.T) {
	if impl.LeaseTime != 5 {
		t.Errorf("LeaseTime is %d", impl.LeaseTime)
	}
}

func TestCoordsByHand(t *testing.T) {
	p := mustReadProgram(t, countingText)
	text := "1 x\n2 y\n3 x\n"
	code, _ := impl.Compile(p)
	begin := impl.Store{Vars: vars("n", "100"), Out: "b 0\n"}
	c, ok := impl.CoordNew(p, text, 2)
	first, second := []string{"1 x", "2 y"}, []string{"3 x"}
	want := impl.Coord{Code: code, Names: []string{"c", "n"}, Begin: begin, Count: 3, Tasks: []impl.Task{{Lines: first}, {Lines: second}}}
	if !ok {
		t.Fatal("there is no coord")
	}
	checkSameCoord(t, "CoordNew", c, want)
	firstBody, _ := impl.JobText(impl.Job{Code: code, Begin: begin, Names: want.Names, Lines: first})
	secondBody, _ := impl.JobText(impl.Job{Code: code, Begin: begin, Names: want.Names, Lines: second})
	c, said := impl.GiveTask(c, 3)
	checkSaid(t, "the first", said, []impl.Message{{Kind: impl.MsGive, Worker: 3, Task: 0, Try: 1, Body: firstBody}})
	want.Tasks[0].Try, want.Tasks[0].Until, want.Tries = 1, 5, 1
	checkSameCoord(t, "the first", c, want)
	c = impl.TickCoord(c, 12)
	c, said = impl.HearCoord(c, ask(1))
	checkSaid(t, "the second", said, []impl.Message{{Kind: impl.MsGive, Worker: 1, Task: 1, Try: 2, Body: secondBody}})
	want.Tasks[1].Try, want.Tasks[1].Until, want.Tries, want.Now = 2, 7, 2, 2
	checkSameCoord(t, "the second", c, want)
	c, said = impl.HearCoord(c, ask(2))
	checkSaid(t, "a third", said, nil)
	checkSameCoord(t, "a third", c, want)
	// The last part is told first.
	c, said = impl.HearCoord(c, tell(1, 1, 2, "\x01\x01n\x013\x01\x01c\x01x\x011\x02x\n"))
	checkSaid(t, "its answer", said, []impl.Message{got(1, 1, 2)})
	want.Tasks[1].Done, want.Tasks[1].Delta = true, impl.Store{Vars: vars("n", "3"), Cells: cells("c", "x", "1"), Out: "x\n"}
	checkSameCoord(t, "its answer", c, want)
	c, said = impl.HearCoord(c, tell(3, 0, 1, "\x01\x01n\x013\x02\x01c\x01x\x011\x01c\x01y\x011\x04x\ny\n"))
	checkSaid(t, "the last answer", said, []impl.Message{got(3, 0, 1)})
	want.Tasks[0].Done, want.Tasks[0].Delta = true, impl.Store{Vars: vars("n", "3"), Cells: cells("c", "x", "1", "c", "y", "1"), Out: "x\ny\n"}
	want.Over, want.Final = true, impl.Store{Vars: vars("n", "106"), Cells: cells("c", "x", "2", "c", "y", "1"), Out: "b 0\nx\ny\nx\n106 3 3 x 2\nx 2\ny 1\n"}
	checkSameCoord(t, "the end", c, want)
	alone, _ := impl.RunTree(p, text)
	checkSame(t, "the end", c.Final, alone)
}

// checkTaskLines checks a coord that has just begun: what its tasks' lines are, and that nothing else is told of them.
func checkTaskLines(t *testing.T, c impl.Coord, parts ...[]string) {
	t.Helper()
	if len(c.Tasks) != len(parts) || c.Now != 0 || c.Tries != 0 || c.Over != (len(parts) == 0) {
		t.Fatalf("it begins with\n%s\nwant the parts %q", toldCoord(c), parts)
	}
	for i, part := range parts {
		if toldTask(c.Tasks[i]) != toldTask(impl.Task{Lines: part}) {
			t.Fatalf("task %d is %s; want %q", i, toldTask(c.Tasks[i]), part)
		}
	}
	if len(parts) > 0 {
		checkSame(t, "Final", c.Final, impl.Store{})
	}
}

func TestCoordsOfPartsOfEachSize(t *testing.T) {
	all := plainLinesOf(numbered(20))
	for count := range 24 {
		lines := all[:min(count, 20)]
		for _, n := range append(partSizes(), 4, 5, 10) {
			c := mustCoord(t, countingText, numbered(count), n)
			parts := plainCutLines(lines, n)
			checkTaskLines(t, c, parts...)
			if c.Count != len(lines) || !slices.Equal(slices.Concat(parts...), lines) {
				t.Fatalf("Count is %d of %d lines", c.Count, count)
			}
		}
	}
	checkTaskLines(t, mustCoord(t, countingText, "a\nb\nc\nd\ne", 2), []string{"a", "b"}, []string{"c", "d"}, []string{"e"})
	checkTaskLines(t, mustCoord(t, countingText, "a\nb\nc\n", 3), []string{"a", "b", "c"})
	checkTaskLines(t, mustCoord(t, countingText, "a\n\n\n", 1), []string{"a"}, []string{""}, []string{""})
	for _, n := range []int{0, -1, -20, 20, 21, math.MinInt, math.MaxInt} {
		checkTaskLines(t, mustCoord(t, countingText, "a\n\nc\n", n), []string{"a", "", "c"})
	}
}

func TestCoordsWithoutTasks(t *testing.T) {
	// None of these may be cut.
	for _, program := range []string{
		"{ n = $1 }", "{ c[$1] = 1 }", "{ n += n }", "{ n += 1; print n }", "{ n += NR }", "{ print NR }", "{ c[$1] += 1; dump c }", "n { n += 1 }", "{ c[1] += c[2] }",
		`BEGIN { n = 5; print "b" } { n += 1; print n } END { print n, NR, $0 }`,
	} {
		p := mustReadProgram(t, program)
		for _, text := range []string{"", "\n", "4 a\n5 b\n6 c\n", numbered(21)} {
			code, _ := impl.Compile(p)
			all, _ := impl.RunAll(code, text)
			for _, n := range partSizes() {
				c := mustCoord(t, program, text, n)
				checkTaskLines(t, c)
				checkSame(t, "Final of "+program, c.Final, all)
				if c.Count != len(plainLinesOf(text)) || !slices.Equal(c.Names, plainNames(p)) || toldCode(c.Code) != toldCode(code) {
					t.Fatalf("it begins with\n%s", toldCoord(c))
				}
				checkNothingGiven(t, c)
				checkPassedOver(t, c, tell(1, 0, 1, "\x00\x00\x00"))
			}
		}
	}
	// These may, but there are no lines.
	for _, program := range []string{countingText, "{ n += 1 }", "", "BEGIN { print NR }", "END { print NR, $0 }"} {
		for _, n := range partSizes() {
			c := mustCoord(t, program, "", n)
			checkTaskLines(t, c)
			alone, _ := impl.RunTree(mustReadProgram(t, program), "")
			checkSame(t, "Final of "+program, c.Final, alone)
			if c.Count != 0 {
				t.Fatalf("Count is %d", c.Count)
			}
			checkNothingGiven(t, c)
		}
	}
	c := mustCoord(t, countingText, "", 1)
	checkSame(t, "Begin", c.Begin, impl.Store{Vars: vars("n", "100"), Out: "b 0\n"})
	checkSame(t, "Final", c.Final, impl.Store{Vars: vars("n", "100"), Out: "b 0\n100 0  0\n"})
}

func TestCoordsOfProgramsWithoutSomeRules(t *testing.T) {
	text := "1 a\n2 b\n3 c\n"
	for program, want := range map[string]impl.Store{
		"": {}, "{ }": {},
		"{ n += $1; print $2 }":                   {Vars: vars("n", "6"), Out: "a\nb\nc\n"},
		"{ n += $1 } END { print n }":             {Vars: vars("n", "6"), Out: "6\n"},
		`BEGIN { n = 7; print "b" } { n += 1 }`:   {Vars: vars("n", "10"), Out: "b\n"},
		`BEGIN { n = 7; print "b" }`:              {Vars: vars("n", "7"), Out: "b\n"},
		"END { print NR, $0 }":                    {Out: "3 3 c\n"},
		`BEGIN { n = 7 } END { n += 1; print n }`: {Vars: vars("n", "8"), Out: "8\n"},
	} {
		for _, n := range []int{1, 2, 3, 20, 0, -1} {
			c := mustCoord(t, program, text, n)
			checkTaskLines(t, c, plainCutLines([]string{"1 a", "2 b", "3 c"}, n)...)
			for range c.Tasks {
				after, said := checkGive(t, c, 1)
				if c.Over || len(said) != 1 {
					t.Fatalf("%s says %s", program, toldMessages(said))
				}
				c = checkGathered(t, after, answerTo(t, said[0]))
			}
			if !c.Over {
				t.Fatalf("%s is not over", program)
			}
			checkSame(t, "Final of "+program, c.Final, want)
		}
	}
}

func TestCoordsOfWhatHasNoCode(t *testing.T) {
	long := nexts(251, impl.WhenLine, false)
	wrong := mustReadProgram(t, countingText)
	wrong.Rules[0].Do = len(wrong.Nodes)
	many := mustReadProgram(t, countingText)
	many.Rules = slices.Repeat(many.Rules, 20)
	for _, p := range []impl.Program{long, wrong, many, {Rules: []impl.Rule{{}}}, {Nodes: []impl.Node{{}}}, {Nodes: []impl.Node{node(-7, "?", 9, -9)}, Rules: []impl.Rule{rule(8, 8, 8)}}} {
		for _, text := range []string{"", "a\nb\n", numbered(21)} {
			for _, n := range partSizes() {
				if c, ok := checkCoordNew(t, p, text, n); ok || toldCoord(c) != toldCoord(impl.Coord{}) {
					t.Fatalf("CoordNew = %s, %v", toldCoord(c), ok)
				}
			}
		}
	}
	if c, ok := checkCoordNew(t, nexts(250, impl.WhenLine, false), "a\nb\n", 1); !ok || len(c.Tasks) != 2 {
		t.Errorf("the greatest code has %d tasks, %v", len(c.Tasks), ok)
	}
}

func TestDrawnCoordsBegin(t *testing.T) {
	cut, whole, none := 0, 0, 0
	for k := range uint64(1200) {
		r := rand.New(rand.NewPCG(142, k))
		p := countingProgram(r)
		switch k % 4 {
		case 0:
			p = runProgram(r)
		case 1:
			p = hindered(r, p)
		}
		if k%10 == 0 {
			p.Nodes[r.IntN(len(p.Nodes))].Op = oneOf(r, -1, 0, 99, impl.StNext, impl.ExAdd)
		}
		c, ok := checkCoordNew(t, p, oneOf(r, "", drawnLines(r), numbered(20), drawnLine(r)), oneOf(r, partSizes()...))
		switch {
		case !ok:
			none++
		case c.Over:
			whole++
		default:
			cut++
		}
	}
	if cut < 200 || whole < 200 || none < 50 {
		t.Errorf("%d are cut, %d are not, of %d there are none", cut, whole, none)
	}
}

// coordOf has a task of each line, and time enough behind it that there may be leases of any kind.
func coordOf(t *testing.T, now int, tries int, lines ...string) impl.Coord {
	t.Helper()
	c := mustCoord(t, countingText, strings.Join(lines, "\n")+"\n", 1)
	c.Now, c.Tries = now, tries
	return c
}

func TestTheFirstFreeTaskIsGiven(t *testing.T) {
	given, none := 0, 0
	for _, now := range []int{0, 1, 5, 100, -1, -5, -6, impl.MaxNumber, math.MinInt + 1} {
		// Of each of three tasks one of eight kinds.
		for kinds := range 8 * 8 * 8 {
			c := coordOf(t, now, 7, "1 a", "2 b", "3 c")
			first := -1
			for place, kind := range []int{kinds % 8, kinds / 8 % 8, kinds / 64} {
				until := []int{now - 1, now, now + 1, 0}[kind%4]
				isDone := kind >= 4
				c.Tasks[place].Until, c.Tasks[place].Done = until, isDone
				if first < 0 && !isDone && (kind%4 <= 1 || kind%4 == 3 && now >= 0) {
					first = place
				}
			}
			if first < 0 {
				after, said := checkGive(t, c, 2)
				checkSameCoord(t, "what has none to give", after, c)
				checkSaid(t, "what has none to give", said, nil)
				none++
				continue
			}
			checkGiven(t, c, 2, first)
			given++
		}
	}
	if given < 500 || none < 500 {
		t.Errorf("%d times one was given, %d times none", given, none)
	}
}

func TestLeases(t *testing.T) {
	c := mustCoord(t, countingText, "1 a\n2 b\n", 1)
	c = checkGiven(t, c, 1, 0)
	c = checkGiven(t, c, 1, 1)
	checkNothingGiven(t, c)
	for now := 1; now <= 4; now++ {
		c = checkTicked(t, c, 1, now)
		checkNothingGiven(t, c)
	}
	// Both leases are over now, just.
	c = checkTicked(t, c, 1, 5)
	again := checkGiven(t, c, 2, 0)
	if again.Tasks[0].Try != 3 || again.Tasks[0].Until != 10 {
		t.Errorf("given again, it is %s", toldTask(again.Tasks[0]))
	}
	again = checkGiven(t, again, 2, 1)
	checkNothingGiven(t, again)
	// Not before the new lease is over.
	again = checkTicked(t, again, 4, 9)
	checkNothingGiven(t, again)
	checkGiven(t, checkTicked(t, again, 1, 10), 3, 0)
	// One that is done is not given again, whatever its lease.
	done := checkGathered(t, c, tell(1, 0, 1, "\x00\x00\x00"))
	done = checkGiven(t, done, 3, 1)
	checkNothingGiven(t, done)
	checkGiven(t, checkTicked(t, done, 9, 14), 3, 1)
	// All at once, more than ever was leased.
	late := c
	for range 10 {
		late = impl.TickCoord(late, 9)
	}
	checkGiven(t, late, 1, 0)
	// A lease of one does not keep the other from being given.
	one := checkGiven(t, mustCoord(t, countingText, "1 a\n2 b\n", 1), 1, 0)
	one = checkTicked(t, one, 3, 3)
	one = checkGiven(t, one, 2, 1)
	one = checkTicked(t, one, 2, 5)
	one = checkGiven(t, one, 3, 0)
	checkNothingGiven(t, one)
	one = checkTicked(t, one, 3, 8)
	checkGiven(t, one, 1, 1)
}

func TestNothingIsGivenWithoutAText(t *testing.T) {
	spoil := map[string]func(c *impl.Coord, place int){
		"a line":  func(c *impl.Coord, place int) { c.Tasks[place].Lines = []string{strings.Repeat("l", 201)} },
		"lines":   func(c *impl.Coord, place int) { c.Tasks[place].Lines = make([]string, 21) },
		"code":    func(c *impl.Coord, _ int) { c.Code.Begin = 1 },
		"a jump":  func(c *impl.Coord, _ int) { c.Code.List[0].Op = 99 },
		"begin":   func(c *impl.Coord, _ int) { c.Begin.Vars = vars("b", "1", "a", "2") },
		"out":     func(c *impl.Coord, _ int) { c.Begin.Out = strings.Repeat("o", 3001) },
		"names":   func(c *impl.Coord, _ int) { c.Names = slices.Repeat([]string{"n"}, 21) },
		"a name":  func(c *impl.Coord, _ int) { c.Names = []string{"n", "a1"} },
		"no name": func(c *impl.Coord, _ int) { c.Names = []string{""} },
		"a store": func(c *impl.Coord, _ int) { c.Begin = sizedStore(t, 20001) },
	}
	for what, change := range spoil {
		for place := range 3 {
			c := coordOf(t, 10, 4, "1 a", "2 b", "3 c")
			for ahead := range place {
				c.Tasks[ahead].Until, c.Tasks[ahead].Done = 10+ahead, ahead == 0
			}
			change(&c, place)
			if _, ok := impl.JobText(jobAt(c, place)); ok {
				t.Fatalf("with %s there is a text", what)
			}
			// Another one is not looked for, though it could be given.
			checkNothingGiven(t, c)
			if !strings.Contains("a line, lines", what) || place == 2 {
				continue
			}
			c.Tasks[place].Done = true
			checkGiven(t, c, 1, place+1)
			c.Tasks[place].Done, c.Tasks[place].Until = false, 11
			checkGiven(t, c, 1, place+1)
		}
	}
	// Just at their limits.
	c := coordOf(t, 10, 4, "1 a", "2 b")
	c.Tasks[0].Lines = slices.Repeat([]string{strings.Repeat("l", 200)}, 20)
	c.Names = slices.Repeat([]string{"abcdefgh"}, 20)
	checkGiven(t, c, 1, 0)
	c.Begin = sizedStore(t, 20000)
	checkGiven(t, c, 1, 0)
	// A body that no message may have is given as the words say.
	_, said := impl.GiveTask(c, 1)
	if len(said) != 1 || len(said[0].Body) <= 20000 || impl.MessageOk(said[0]) {
		t.Errorf("it says %d messages", len(said))
	}
}

func TestLinesThatAreNeverGiven(t *testing.T) {
	long := strings.Repeat("l", 201)
	for _, text := range []string{long, long + "\nb\n", "a\n" + long + "\nc\n"} {
		c := mustCoord(t, countingText, text, 1)
		for c.Tasks[0].Lines[0] == "a" && !c.Tasks[0].Done {
			after, said := checkGive(t, c, 1)
			c = checkGathered(t, after, answerTo(t, said[0]))
		}
		checkNothingGiven(t, c)
		checkNothingGiven(t, mustCoord(t, countingText, text, 0))
	}
	// More names than a job may have.
	program := "{ {"
	for i := range 21 {
		if i == 10 {
			program += "}; {"
		}
		program += " " + lettered(i) + " += 1;"
	}
	c := mustCoord(t, program+"} }", "a\nb\n", 1)
	if len(c.Names) != 21 || len(c.Tasks) != 2 {
		t.Fatalf("it begins with\n%s", toldCoord(c))
	}
	checkNothingGiven(t, c)
}

func TestTriesAndNowAtTheirLimits(t *testing.T) {
	for _, tries := range []int{0, 1, impl.MaxNumber - 2, impl.MaxNumber - 1} {
		for _, now := range []int{0, 1, impl.MaxNumber - 1, impl.MaxNumber} {
			c := checkGiven(t, coordOf(t, now, tries, "1 a", "2 b"), 1, 0)
			if c.Tries == impl.MaxNumber {
				checkNothingGiven(t, c)
			} else {
				checkGiven(t, c, 1, 1)
			}
		}
		for _, now := range []int{impl.MaxNumber + 1, impl.MaxNumber + 2, math.MaxInt} {
			checkNothingGiven(t, coordOf(t, now, tries, "1 a", "2 b"))
		}
	}
	for _, now := range []int{0, 1, impl.MaxNumber, impl.MaxNumber + 1} {
		checkNothingGiven(t, coordOf(t, now, impl.MaxNumber, "1 a", "2 b"))
	}
	// What was given with the last Try is taken.
	c := checkGiven(t, coordOf(t, impl.MaxNumber, impl.MaxNumber-1, "1 a"), 1, 0)
	c = checkGathered(t, c, tell(1, 0, impl.MaxNumber, "\x00\x00\x00"))
	if !c.Over {
		t.Error("it is not over")
	}
	// Below 0, nothing has been given yet of a task whose Until is 0.
	checkNothingGiven(t, coordOf(t, -1, 0, "1 a"))
	below := coordOf(t, -3, -7, "1 a")
	below.Tasks[0].Until = -3
	below = checkGiven(t, below, 1, 0)
	if below.Tasks[0].Until != 2 || below.Tasks[0].Try != -6 {
		t.Errorf("below 0 it is %s", toldTask(below.Tasks[0]))
	}
}

func TestWorkersThatNoMessageMayHave(t *testing.T) {
	for _, worker := range workerIds() {
		c := coordOf(t, 3, 4, "1 a", "2 b")
		c = checkGiven(t, c, worker, 0)
		checkGiven(t, c, worker, 1)
		if worker < 1 || worker > 3 {
			checkPassedOver(t, c, ask(worker))
			checkPassedOver(t, c, tell(worker, 0, 1, "\x00\x00\x00"))
		}
	}
}

func TestPlacesThatNoMessageMayHave(t *testing.T) {
	c := mustCoord(t, countingText, numbered(20), 1)
	for range 3 {
		c.Tasks = append(c.Tasks, impl.Task{Lines: []string{"9 z"}})
	}
	for place := range 23 {
		c = checkGiven(t, c, 1, place)
	}
	checkNothingGiven(t, c)
	for place := range 23 {
		m := tell(1, place, 1, "\x00\x00\x00")
		if place > 20 {
			checkPassedOver(t, c, m)
		} else {
			c = checkGathered(t, c, m)
		}
	}
	if c.Over {
		t.Error("it is over, though two are not done")
	}
}

// answeredCoord has three tasks, of which the first two were given, the first one twice, and none is done.
func answeredCoord(t *testing.T) impl.Coord {
	t.Helper()
	c := checkGiven(t, checkGiven(t, coordOf(t, 0, 0, "1 a", "2 b", "3 c"), 1, 0), 2, 1)
	return checkGiven(t, checkTicked(t, c, 5, 5), 3, 0)
}

func TestCoordsDoNotHearWhatIsNotRight(t *testing.T) {
	c := answeredCoord(t)
	over := mustCoord(t, countingText, "", 1)
	for _, m := range []impl.Message{ask(2), {Kind: impl.MsAsk, Worker: 2, Task: 1, Try: 2}, tell(2, 1, 2, "\x00\x00\x00"), tell(1, 0, 1, plainStoreText(impl.Store{Vars: vars("n", "1")}))} {
		checkMessage(t, m, true)
		_, said := checkHearCoord(t, c, m)
		if len(said) != 1 {
			t.Fatalf("it says %s", toldMessages(said))
		}
		for _, spoilt := range spoiltMessages(m) {
			checkMessage(t, spoilt, false)
			checkPassedOver(t, c, spoilt)
			checkPassedOver(t, over, spoilt)
		}
	}
	for _, body := range []string{"\x00", "\x00\x00\x00", "b", strings.Repeat("b", 15001)} {
		checkPassedOver(t, c, impl.Message{Kind: impl.MsAsk, Worker: 2, Body: body})
		checkPassedOver(t, c, got(2, 1, 2))
		checkPassedOver(t, c, impl.Message{Kind: impl.MsGot, Worker: 2, Task: 1, Try: 2, Body: body})
	}
	// What a worker hears a coord does not.
	_, said := checkGive(t, checkTicked(t, c, 5, 10), 1)
	for _, m := range append(said, got(2, 1, 2), got(1, 0, 1), give(1, 0, 1, ""), give(1, 0, 1, "\x00\x00\x00")) {
		checkMessage(t, m, true)
		checkPassedOver(t, c, m)
		checkPassedOver(t, over, m)
	}
	// What asks may have a Task and a Try.
	for _, task := range []int{0, 1, 2, 3, 20} {
		for _, try := range []int{0, 1, 3, 4, impl.MaxNumber} {
			m := impl.Message{Kind: impl.MsAsk, Worker: 3, Task: task, Try: try}
			after, said := checkHearCoord(t, c, m)
			want, wantSaid := impl.GiveTask(c, 3)
			checkSameCoord(t, "asked, it", after, want)
			checkSaid(t, "asked, it", said, wantSaid)
		}
	}
}

func TestAnswersOfTasksAndTriesThatAreNone(t *testing.T) {
	c := answeredCoord(t)
	body := plainStoreText(impl.Store{Vars: vars("n", "1")})
	for worker := 1; worker <= 3; worker++ {
		for task := range 21 {
			for _, try := range []int{0, 1, 2, 3, 4, 5, 20, impl.MaxNumber} {
				// Of any Try that ever was, by whatever worker, also of a task that was never given.
				m := tell(worker, task, try, body)
				if task < 3 && try >= 1 && try <= 3 {
					checkGathered(t, c, m)
				} else {
					checkPassedOver(t, c, m)
				}
			}
		}
	}
	// A Try that was, of no task; a Try of none of all tries.
	checkPassedOver(t, mustCoord(t, countingText, "", 1), tell(1, 0, 1, body))
	fresh := mustCoord(t, countingText, "1 a\n", 1)
	checkPassedOver(t, fresh, tell(1, 0, 0, body))
	checkPassedOver(t, fresh, tell(1, 0, 1, body))
	for _, tries := range []int{-1, math.MinInt} {
		fresh.Tries = tries
		checkPassedOver(t, fresh, tell(1, 0, 0, body))
		checkPassedOver(t, fresh, tell(1, 0, 1, body))
	}
	for _, tries := range []int{impl.MaxNumber, impl.MaxNumber + 1, math.MaxInt} {
		fresh.Tries = tries
		checkGathered(t, fresh, tell(1, 0, 1, body))
		checkGathered(t, fresh, tell(1, 0, impl.MaxNumber, body))
		checkPassedOver(t, fresh, tell(1, 0, 0, body))
	}
}

func TestAnswersThatAreNoStores(t *testing.T) {
	c := answeredCoord(t)
	done := checkGathered(t, c, tell(1, 0, 1, "\x00\x00\x00"))
	wrong := []string{"", "\x00", "\x00\x00", "\x00\x00\x00\x00", "b", "\x80\x00\x00\x00", plainJobText(jobAt(c, 0)), strings.Repeat("\x00", 15000)}
	for _, s := range []impl.Store{{Vars: vars("b", "1", "a", "2")}, {Vars: vars("a1", "1")}, {Vars: manyVars(61)}, {Vars: vars("a", strings.Repeat("v", 41))}, {Cells: cells("a", "k", "1", "a", "k", "2")}, {Out: strings.Repeat("o", 3001)}} {
		wrong = append(wrong, plainStoreText(s))
	}
	for _, body := range wrong {
		checkPassedOver(t, c, tell(1, 0, 1, body))
		// It is not heard, though its task is done.
		checkPassedOver(t, done, tell(1, 0, 1, body))
	}
	turned := 0
	whole := plainStoreText(impl.Store{Vars: vars("n", "7"), Cells: cells("c", "k", "1"), Out: "x\n"})
	for place := range len(whole) {
		for b := range 256 {
			body := whole[:place] + string([]byte{byte(b)}) + whole[place+1:]
			if _, isStore := plainReadStore(body); isStore {
				checkGathered(t, c, tell(3, 1, 3, body))
				turned++
			} else {
				checkPassedOver(t, c, tell(3, 1, 3, body))
			}
		}
	}
	if turned < 500 {
		t.Errorf("only %d are stores", turned)
	}
	// The longest body that there is; what any store tells is taken as it is, though no line would tell it.
	long := plainStoreText(sizedStore(t, 15000))
	checkGathered(t, c, tell(1, 2, 1, long))
	checkPassedOver(t, c, tell(1, 2, 1, plainStoreText(sizedStore(t, 15001))))
	for _, s := range []impl.Store{{}, {Vars: manyVars(60)}, {Out: strings.Repeat("o", 3000)}, {Vars: vars("x", "no number")}, {Cells: cells("zz", "", "")}} {
		after := checkGathered(t, c, tell(1, 2, 1, plainStoreText(s)))
		checkSame(t, "Delta", after.Tasks[2].Delta, s)
	}
}

func TestAnswersAreTakenOnce(t *testing.T) {
	first, second := plainStoreText(impl.Store{Vars: vars("n", "1")}), plainStoreText(impl.Store{Vars: vars("n", "2"), Out: "other\n"})
	c := checkGathered(t, answeredCoord(t), tell(1, 0, 1, first))
	for worker := 1; worker <= 3; worker++ {
		for try := 1; try <= 3; try++ {
			for _, body := range []string{first, second, "\x00\x00\x00"} {
				checkHeardOnly(t, c, tell(worker, 0, try, body))
			}
		}
	}
	// Its lease changes nothing in that.
	for _, until := range greatNumbers() {
		late := copyOfCoord(c)
		late.Tasks[0].Until, late.Tasks[0].Try = until, until
		checkHeardOnly(t, late, tell(2, 0, 3, second))
	}
	// Of the others, a later answer of an earlier lease is taken as well.
	c = checkTicked(t, c, 9, 14)
	c = checkGiven(t, c, 1, 1)
	c = checkGathered(t, c, tell(2, 1, 2, second))
	checkHeardOnly(t, c, tell(1, 1, 4, first))
	if c.Over {
		t.Fatal("it is over, though one is not done")
	}
	c = checkGiven(t, c, 1, 2)
	c = checkGathered(t, c, tell(1, 2, 5, first))
	if !c.Over {
		t.Fatal("it is not over")
	}
	// All stays behind the end: the answers, and what came out.
	for task := range 3 {
		for try := 1; try <= 5; try++ {
			checkHeardOnly(t, c, tell(3, task, try, second))
		}
	}
	checkNothingGiven(t, c)
	checkNothingGiven(t, checkTicked(t, c, 9, 23))
	checkSame(t, "Final", c.Final, impl.Store{Vars: vars("n", "104"), Out: "b 0\nother\n104 3 3 c 2\n"})
}

// orders are all the orders of so many.
func orders(count int) [][]int {
	if count == 0 {
		return [][]int{{}}
	}
	all := [][]int{}
	for _, order := range orders(count - 1) {
		for place := range count {
			all = append(all, slices.Insert(slices.Clone(order), place, count-1))
		}
	}
	return all
}

func TestOrdersOfAnswers(t *testing.T) {
	text := "1 x\n2 y\n3 x\n4 z\n"
	p := mustReadProgram(t, countingText)
	alone, _ := impl.RunTree(p, text)
	c := mustCoord(t, countingText, text, 1)
	answers := []impl.Message{}
	for place := range 4 {
		after, said := checkGive(t, c, place%3+1)
		answers = append(answers, answerTo(t, said[0]))
		c = after
	}
	tried := 0
	for _, order := range orders(4) {
		now := c
		for i, place := range order {
			if now.Over {
				t.Fatal("it is over too early")
			}
			now = checkGathered(t, now, answers[place])
			if now.Over != (i == 3) {
				t.Fatalf("behind %d answers it is over: %v", i+1, now.Over)
			}
			if i < 3 {
				checkSame(t, "Final", now.Final, impl.Store{})
			}
		}
		checkSame(t, "Final", now.Final, alone)
		tried++
	}
	if tried != 24 {
		t.Errorf("%d orders", tried)
	}
}

// finished lets workers tell of each task, the last one first, and answers the coord that is over.
func finished(t *testing.T, c impl.Coord) impl.Coord {
	t.Helper()
	answers := []impl.Message{}
	for {
		after, said := checkGive(t, c, len(answers)%3+1)
		if len(said) == 0 {
			break
		}
		answers = append(answers, answerTo(t, said[0]))
		c = after
	}
	for _, answer := range slices.Backward(answers) {
		c = checkGathered(t, c, answer)
	}
	if !c.Over {
		t.Fatal("it is not over")
	}
	return c
}

func TestWhatComesOutInTheEnd(t *testing.T) {
	programs := []string{
		countingText, "", "{ n += 1 }", "END { print NR, $0, NF }", `BEGIN { print "b" } END { n += NR; print n }`,
		`BEGIN { n = 999999; c["x"] = 999998 } { n += 1; c["x"] += $1; c[$2] += 999999 } END { print n; dump c; n += 1; print n }`,
		`{ print $0, $0, $0, $0; print $0, $0 } END { print "end" }`,
		`BEGIN { print $0, NR } $1 < 5 { small += 1; next } { great += $1 } END { if (small < great) print small, great else print great, small }`,
		`{ n += 0 - $1; n += $3; m += "x" } END { print n, m }`,
	}
	for _, program := range programs {
		p := mustReadProgram(t, program)
		for _, text := range []string{"1 x\n", "\n", "1 x\n2 y\n3 x\n", "a\n\n\n", "1 a b\n" + strings.Repeat("l", 200), numbered(20), numbered(23), strings.Repeat(strings.Repeat("w ", 40)+"\n", 20)} {
			alone, _ := impl.RunTree(p, text)
			code, _ := impl.Compile(p)
			for _, n := range []int{1, 2, 3, 7, 20, 0} {
				c := finished(t, mustCoord(t, program, text, n))
				checkSame(t, fmt.Sprintf("Final of %.100q in parts of %d by %s", text, n, program), c.Final, alone)
				parts, _ := impl.RunParts(code, impl.Names(p), text, n)
				checkSame(t, "Final", c.Final, parts)
			}
		}
	}
}

func TestDrawnProgramsComeOutInTheEnd(t *testing.T) {
	over, never := 0, 0
	for k := range uint64(400) {
		r := rand.New(rand.NewPCG(148, k))
		p := countingProgram(r)
		text := oneOf(r, drawnLine(r), drawnLines(r), numbered(20), strings.Repeat(drawnJobLine(r)+"\n", 7))
		c, ok := impl.CoordNew(p, text, oneOf(r, partSizes()...))
		if !ok || c.Over {
			continue
		}
		answers := []impl.Message{}
		for range c.Tasks {
			after, said := impl.GiveTask(c, 1)
			for _, m := range said {
				answers = append(answers, answerTo(t, m))
			}
			c = after
		}
		r.Shuffle(len(answers), func(i int, j int) { answers[i], answers[j] = answers[j], answers[i] })
		for _, answer := range answers {
			c = checkGathered(t, c, answer)
		}
		if !c.Over {
			never++
			continue
		}
		over++
		alone, _ := impl.RunAll(c.Code, text)
		checkSame(t, fmt.Sprintf("Final of %.200q by\n%s", text, toldProgram(p)), c.Final, alone)
	}
	if over < 100 || never < 10 {
		t.Errorf("%d are over, %d are not, as there are lines that are too long", over, never)
	}
}

func TestWhatTheEndSeesOfTasks(t *testing.T) {
	program := `BEGIN { print "b" } END { print NR, NF, $0; last = $0 }`
	done := func(lines ...[]string) impl.Coord {
		c := mustCoord(t, program, "a\nb\n", 0)
		c.Tasks, c.Tries = nil, 1
		for _, part := range lines {
			c.Tasks = append(c.Tasks, impl.Task{Lines: part, Done: true, Delta: impl.Store{Out: "d\n"}})
		}
		c.Tasks[0].Done = false
		return c
	}
	for _, count := range []int{0, 1, 2, 7, 20, 999999, 1000000, -1} {
		c := done([]string{"a", "b c"}, []string{"d e f", "g h"})
		c.Count = count
		c = checkGathered(t, c, tell(1, 0, 1, "\x00\x00\x00"))
		checkSame(t, "Final", c.Final, impl.Store{Vars: vars("last", "g h"), Out: fmt.Sprintf("b\nd\n%s 2 g h\n", plainNumText(count))})
	}
	// The last of all lines, also where the last task has none, which no run would make.
	c := checkGathered(t, done([]string{"a"}, []string{"d e f"}, nil, []string{}), tell(1, 0, 1, "\x00\x00\x00"))
	checkSame(t, "Final", c.Final, impl.Store{Vars: vars("last", "d e f"), Out: "b\nd\nd\nd\n2 3 d e f\n"})
	c = checkGathered(t, done(nil, nil), tell(1, 0, 1, "\x00\x00\x00"))
	checkSame(t, "Final", c.Final, impl.Store{Vars: vars("last", ""), Out: "b\nd\n2 0 \n"})
	c = checkGathered(t, done([]string{"a", ""}), tell(1, 0, 1, "\x00\x00\x00"))
	checkSame(t, "Final", c.Final, impl.Store{Vars: vars("last", ""), Out: "b\n2 0 \n"})
}

func TestWhatIsPutTogetherAtItsLimits(t *testing.T) {
	c := mustCoord(t, `BEGIN { n = 999999; print "begun" } { n += $1; print $2 } END { print "end", n }`, "1 a\n2 b\n3 c\n", 1)
	for range 3 {
		c, _ = checkGive(t, c, 1)
	}
	out := func(size int) string {
		return plainStoreText(impl.Store{Vars: vars("n", "999999"), Out: strings.Repeat("o", size)})
	}
	for _, size := range []int{0, 500, 990, 995, 996, 997, 998, 1000, 1500, 3000} {
		now := c
		for place := range 3 {
			now = checkGathered(t, now, tell(1, place, 1, out(size)))
		}
		n := plainNumText(999999 + plainNum(plainNumText(999999+plainNum(plainNumText(999999+999999)))))
		want := "begun\n" + strings.Repeat("o", 3*size) + "end " + n + "\n"
		checkSame(t, "Final", now.Final, impl.Store{Vars: vars("n", n), Out: plainCut(want, 3000)})
	}
	// What is full takes no more: sixty names, and more of them.
	full := c
	full = checkGathered(t, full, tell(1, 0, 1, plainStoreText(impl.Store{Vars: manyVars(60)})))
	full = checkGathered(t, full, tell(1, 1, 1, plainStoreText(impl.Store{Vars: vars("n", "1", "zzz", "1")})))
	full = checkGathered(t, full, tell(1, 2, 1, "\x00\x00\x00"))
	if len(full.Final.Vars) != 60 || impl.VarOf(full.Final, "zzz") != "" || !full.Over {
		t.Errorf("Final is %s", toldStore(full.Final))
	}
}

func TestTicks(t *testing.T) {
	c := answeredCoord(t)
	for n, more := range map[int]int{
		0: 0, 1: 1, 2: 2, 5: 5, 8: 8, 9: 9, 10: 0, 11: 1, 12: 2, 19: 9, 20: 0, 99: 9, 100: 0, 1234567: 7,
		-1: 9, -2: 8, -5: 5, -9: 1, -10: 0, -11: 9, -12: 8, -20: 0, -99: 1, -1234567: 3,
		math.MaxInt: 7, math.MaxInt - 7: 0, math.MaxInt - 8: 9, math.MinInt: 2, math.MinInt + 1: 3, math.MinInt + 8: 0, math.MinInt + 9: 1,
	} {
		checkTicked(t, c, n, 5+more)
		for _, now := range greatNumbers() {
			late := copyOfCoord(c)
			late.Now = now
			checkTicked(t, late, n, now+more)
		}
		checkTicked(t, impl.Coord{}, n, more)
		over := mustCoord(t, countingText, "", 1)
		checkTicked(t, over, n, more)
	}
	for n := -50; n <= 50; n++ {
		checkTicked(t, c, n, 5+(n+50)%10)
	}
}

func TestCoordsThatNoRunWouldMake(t *testing.T) {
	body := plainStoreText(impl.Store{Vars: vars("n", "5"), Out: "d\n"})
	// Over, though not all are done: what is asked and told goes its way.
	over := answeredCoord(t)
	over.Over, over.Final = true, impl.Store{Out: "early\n"}
	checkGiven(t, over, 1, 1)
	after := checkGathered(t, over, tell(1, 0, 1, body))
	checkSame(t, "Final", after.Final, over.Final)
	if !after.Over {
		t.Error("it is not over any more")
	}
	after = checkGathered(t, checkGathered(t, after, tell(1, 1, 1, body)), tell(1, 2, 1, body))
	checkSame(t, "Final", after.Final, impl.Store{Vars: vars("n", "115"), Out: "b 0\nd\nd\nd\n115 3 3 c 2\n"})
	// All are done, but it is not over: what is told again changes nothing.
	done := answeredCoord(t)
	for i := range done.Tasks {
		done.Tasks[i].Done = true
	}
	for task := range 3 {
		checkHeardOnly(t, done, tell(1, task, 1, body))
	}
	checkNothingGiven(t, done)
	// No tasks at all, not over.
	none := impl.Coord{Tries: 5}
	checkNothingGiven(t, none)
	checkPassedOver(t, none, tell(1, 0, 1, body))
	// A task that is not done may have a delta already: what is told is in its place.
	early := answeredCoord(t)
	early.Tasks[0].Delta = impl.Store{Vars: vars("x", "1"), Cells: cells("x", "y", "1"), Out: "early\n"}
	after = checkGathered(t, early, tell(1, 0, 1, body))
	checkSame(t, "Delta", after.Tasks[0].Delta, impl.Store{Vars: vars("n", "5"), Out: "d\n"})
	// A code that is not right makes nothing of what is put together, and what is put together is there.
	wrong := mustCoord(t, countingText, "1 a\n", 1)
	wrong.Code.Begin, wrong.Tries = 1, 1
	checkNothingGiven(t, wrong)
	after = checkGathered(t, wrong, tell(1, 0, 1, body))
	checkSame(t, "Final", after.Final, impl.Store{Vars: vars("n", "105"), Out: "b 0\nd\n"})
	// A store that is not right is added to as it stands.
	wrong = mustCoord(t, countingText, "1 a\n", 1)
	wrong.Begin, wrong.Tries = impl.Store{Vars: vars("z1", "1", "n", "2", "n", "3"), Out: strings.Repeat("o", 3005)}, 1
	checkNothingGiven(t, wrong)
	after = checkGathered(t, wrong, tell(1, 0, 1, body))
	checkSame(t, "Final", after.Final, plainFinal(after))
	if impl.VarOf(after.Final, "n") != "7" || len(after.Final.Out) != 3000 {
		t.Errorf("Final is %s", toldStore(after.Final))
	}
	// Nothing at all.
	checkNothingGiven(t, impl.Coord{})
	checkPassedOver(t, impl.Coord{}, impl.Message{})
	checkGiven(t, impl.Coord{Tasks: make([]impl.Task, 2)}, 1, 0)
	after = checkGathered(t, impl.Coord{Tasks: make([]impl.Task, 1), Tries: 1}, tell(1, 0, 1, body))
	checkSame(t, "Final", after.Final, impl.Store{Vars: vars("n", "5"), Out: "d\n"})
}

func TestDrawnCoords(t *testing.T) {
	given, taken, ended, heard, passed := 0, 0, 0, 0, 0
	for k := range uint64(1600) {
		r := rand.New(rand.NewPCG(143, k))
		c := drawnCoord(r)
		n := oneOf(r, 0, 3, -1, oneOf(r, greatNumbers()...))
		checkSameCoord(t, "TickCoord", impl.TickCoord(c, n), plainTicked(c, n))
		if _, said := checkGive(t, c, oneOf(r, workerIds()...)); len(said) > 0 {
			given++
		}
		after, said := checkHearCoord(t, c, drawnMessageToCoord(r, c))
		isOther := toldCoord(after) != toldCoord(c)
		switch {
		case len(said) == 0:
			passed++
		case after.Over && !c.Over:
			ended++
		case isOther:
			taken++
		default:
			heard++
		}
	}
	if given < 160 || taken < 120 || ended < 40 || heard < 80 || passed < 200 {
		t.Errorf("%d were given, %d taken, %d ended, %d only heard, %d passed over", given, taken, ended, heard, passed)
	}
}

// lease is what was given, and when.
type lease struct {
	said impl.Message
	at   int
}

// gathering holds a coord in a drawn life against what was given and told in it.
type gathering struct {
	t      *testing.T
	c      impl.Coord
	leases []lease
	told   map[int]string
}

// free is the first task that is not told yet, and is not leased to anyone.
func (g *gathering) free() (int, bool) {
	for place := range g.c.Tasks {
		isLeased := slices.ContainsFunc(g.leases, func(l lease) bool { return l.said.Task == place && g.c.Now < l.at+impl.LeaseTime })
		if _, isTold := g.told[place]; !isTold && !isLeased {
			return place, true
		}
	}
	return 0, false
}

func (g *gathering) ask(worker int) bool {
	g.t.Helper()
	place, isFree := g.free()
	after, said := impl.HearCoord(g.c, ask(worker))
	if !isFree {
		checkSaid(g.t, "it", said, nil)
		checkSameCoord(g.t, "it", after, g.c)
		return false
	}
	body, _ := impl.JobText(jobAt(g.c, place))
	checkSaid(g.t, "it", said, []impl.Message{give(worker, place, len(g.leases)+1, body)})
	g.leases = append(g.leases, lease{said[0], g.c.Now})
	g.c = after
	return true
}

// tell tells of a lease, by whatever worker, and answers whether it is the first answer of its task.
func (g *gathering) tell(l lease, worker int, body string) bool {
	g.t.Helper()
	after, said := impl.HearCoord(g.c, tell(worker, l.said.Task, l.said.Try, body))
	checkSaid(g.t, "it", said, []impl.Message{got(worker, l.said.Task, l.said.Try)})
	_, isTold := g.told[l.said.Task]
	if isTold {
		checkSameCoord(g.t, "told again, it", after, g.c)
	} else {
		g.told[l.said.Task] = body
	}
	g.c = after
	return !isTold
}

// check holds what stands in the coord against what was told.
func (g *gathering) check() {
	g.t.Helper()
	for place, task := range g.c.Tasks {
		body, isTold := g.told[place]
		text, _ := impl.StoreText(task.Delta)
		if task.Done != isTold || isTold && text != body || !isTold && text != "\x00\x00\x00" {
			g.t.Fatalf("task %d is %s; told was %q", place, toldTask(task), body)
		}
	}
	if isOver := len(g.told) == len(g.c.Tasks); g.c.Over != isOver || g.c.Tries != len(g.leases) {
		g.t.Fatalf("it is\n%s\nbehind %d leases", toldCoord(g.c), len(g.leases))
	}
}

// In a drawn life of asks, ticks and answers, late ones and ones told again, each part is one worker's at a time, and its first answer stays.
func TestDrawnLivesOfACoord(t *testing.T) {
	over, given, again, late := 0, 0, 0, 0
	for k := range uint64(250) {
		r := rand.New(rand.NewPCG(144, k))
		p := mustReadProgram(t, oneOf(r, countingText, `{ n += $1; print $2, $0 } END { print n, NR }`, `BEGIN { c["k0"] = 5 } NF { c[$2] += $3; m += 1 } END { dump c; print m }`))
		text := numbered(1 + r.IntN(21))
		c, _ := impl.CoordNew(p, text, oneOf(r, 1, 2, 3, 5, 20, 0))
		g := &gathering{t, c, nil, map[int]string{}}
		for step := 0; step < 400 && !g.c.Over; step++ {
			switch worker := 1 + r.IntN(3); {
			case r.IntN(3) == 0:
				if g.ask(worker) {
					given++
				}
			case r.IntN(2) == 0:
				g.c = checkTicked(t, g.c, step%4, g.c.Now+step%4)
			case len(g.leases) > 0:
				l := oneOf(r, g.leases...)
				isLate := l.at+impl.LeaseTime <= g.c.Now
				// What a dishonest one tells comes too late, if there was an answer.
				body := answerTo(t, l.said).Body
				if _, isTold := g.told[l.said.Task]; isTold {
					body = plainStoreText(drawnRightStore(r))
				}
				if !g.tell(l, worker, body) {
					again++
				} else if isLate {
					late++
				}
			}
			g.check()
		}
		if !g.c.Over {
			continue
		}
		over++
		alone, _ := impl.RunTree(p, text)
		checkSame(t, "Final", g.c.Final, alone)
		for range 10 {
			g.ask(1 + r.IntN(3))
			g.tell(oneOf(r, g.leases...), 1+r.IntN(3), plainStoreText(drawnRightStore(r)))
			g.c = checkTicked(t, g.c, 9, g.c.Now+9)
			g.check()
			checkSame(t, "Final", g.c.Final, alone)
		}
	}
	if over < 200 || given < 1000 || again < 200 || late < 100 {
		t.Errorf("%d lives are over, %d times a part was given, %d answers were told again, %d late", over, given, again, late)
	}
}

func textsOfCoord(c impl.Coord) []string {
	texts := slices.Concat(c.Code.Texts, c.Names, textsOfStore(c.Begin), textsOfStore(c.Final))
	for _, task := range c.Tasks {
		texts = slices.Concat(texts, task.Lines, textsOfStore(task.Delta))
	}
	return texts
}

// spareTask is what stands in the spare room behind tasks.
func spareTask() impl.Task {
	return impl.Task{Lines: []string{"spare"}, Try: -5, Until: -5, Done: true}
}

// roomyCoord has memory of its own, and spare room behind its lists, filled with what must stay.
func roomyCoord(c impl.Coord) impl.Coord {
	c.Code, c.Names, c.Begin, c.Final = roomyCode(c.Code), roomyTexts(c.Names), roomyStore(c.Begin), roomyStore(c.Final)
	tasks := []impl.Task{}
	for _, task := range c.Tasks {
		task.Lines, task.Delta = roomyTexts(task.Lines), roomyStore(task.Delta)
		tasks = append(tasks, task)
	}
	c.Tasks = append(tasks, spareTask(), spareTask())[:len(tasks)]
	return c
}

func checkCoordRoom(t *testing.T, c impl.Coord) {
	t.Helper()
	checkCodeRoom(t, c.Code)
	checkTextsRoom(t, c.Names)
	checkStoreRoom(t, c.Begin)
	checkStoreRoom(t, c.Final)
	for _, task := range c.Tasks {
		checkTextsRoom(t, task.Lines)
		checkStoreRoom(t, task.Delta)
	}
	for _, task := range c.Tasks[len(c.Tasks):][:2] {
		if toldTask(task) != toldTask(spareTask()) {
			t.Fatal("something was written into the spare room behind the tasks")
		}
	}
}

// coordLists has for each list of a coord what writes into it, and into the spare room behind it, and what takes it away.
func coordLists(c *impl.Coord) (spoil []func(), without []func()) {
	add := func(write func(), take func()) {
		spoil, without = append(spoil, write), append(without, take)
	}
	store := func(s *impl.Store) {
		add(func() { spoilStore(impl.Store{Vars: s.Vars}) }, func() { s.Vars = nil })
		add(func() { spoilStore(impl.Store{Cells: s.Cells}) }, func() { s.Cells = nil })
	}
	add(func() { spoilTexts(c.Code.Texts) }, func() { c.Code.Texts = nil })
	add(func() { spoilOne(impl.Job{Code: c.Code}, 1) }, func() { c.Code.List = nil })
	add(func() { spoilTexts(c.Names) }, func() { c.Names = nil })
	store(&c.Begin)
	store(&c.Final)
	for i := range c.Tasks {
		task := &c.Tasks[i]
		add(func() { spoilTexts(task.Lines) }, func() { task.Lines = nil })
		store(&task.Delta)
	}
	return spoil, without
}

// checkOwnCoord checks that a coord that is answered is new memory, list by list, and shares none with what was handed in.
func checkOwnCoord(t *testing.T, what string, call func() impl.Coord, handedIn []string) {
	t.Helper()
	answer := call()
	told := toldCoord(answer)
	checkNew(t, what, textsOfCoord(answer), handedIn)
	lists, _ := coordLists(&answer)
	for which := range lists {
		one, other := call(), copyOfCoord(answer)
		spoil, withoutOne := coordLists(&one)
		_, withoutOther := coordLists(&other)
		spoil[which]()
		withoutOne[which]()
		withoutOther[which]()
		if toldCoord(one) != toldCoord(other) {
			t.Fatalf("%s: list %d shares memory with another one", what, which)
		}
		if toldCoord(answer) != told || toldCoord(call()) != told {
			t.Fatalf("%s: an answer hangs on one that was written into, list %d", what, which)
		}
	}
	spoilt := call()
	for i := range spoilt.Tasks[:cap(spoilt.Tasks)] {
		spoilt.Tasks[:cap(spoilt.Tasks)][i] = spareTask()
	}
	if toldCoord(answer) != told || toldCoord(call()) != told {
		t.Fatalf("%s: an answer hangs on one whose tasks were written into", what)
	}
}

func TestWhatCoordsAnswerIsNew(t *testing.T) {
	for k := range uint64(120) {
		r := rand.New(rand.NewPCG(145, k))
		c := drawnCoord(r)
		c.Tasks = c.Tasks[:min(len(c.Tasks), 4)]
		m := drawnMessageToCoord(r, c)
		if k%3 == 0 && len(c.Tasks) > 0 {
			// The last answer, behind which it is over.
			for i := range c.Tasks {
				c.Tasks[i].Done = i > 0
			}
			c.Tries, m = 7, tell(1, 0, 7, plainStoreText(drawnRightStore(r)))
		}
		c, m.Body = roomyCoord(c), strings.Clone(m.Body)
		was := toldCoord(c) + toldMessage(m)
		handedIn := append(textsOfCoord(c), m.Body)
		checkOwnCoord(t, "GiveTask", func() impl.Coord { after, _ := impl.GiveTask(c, 1); return after }, handedIn)
		checkOwnCoord(t, "HearCoord", func() impl.Coord { after, _ := impl.HearCoord(c, m); return after }, handedIn)
		checkOwnCoord(t, "TickCoord", func() impl.Coord { return impl.TickCoord(c, 3) }, handedIn)
		after, given := impl.GiveTask(c, 1)
		_, heard := impl.HearCoord(c, m)
		for _, said := range slices.Concat(given, heard) {
			checkNew(t, "what is said", []string{said.Body}, append(handedIn, textsOfCoord(after)...))
		}
		told := toldMessages(given) + toldMessages(heard)
		_, again := impl.GiveTask(c, 1)
		_, heardAgain := impl.HearCoord(c, m)
		for _, list := range [][]impl.Message{again, heardAgain} {
			for i := range list[:cap(list)] {
				list[:cap(list)][i] = impl.Message{Kind: -7, Body: "spoilt"}
			}
		}
		if toldMessages(given)+toldMessages(heard) != told || toldCoord(c)+toldMessage(m) != was {
			t.Fatal("an argument or an answer is not as it was")
		}
		checkCoordRoom(t, c)
	}
}

func TestWhatCoordsBeginWithIsNew(t *testing.T) {
	for k := range uint64(150) {
		r := rand.New(rand.NewPCG(146, k))
		p := countingProgram(r)
		if k%3 == 0 {
			p = runProgram(r)
		}
		if k%10 == 1 {
			p = mustReadProgram(t, countingText)
		}
		p = ownTexts(roomy(p))
		text := strings.Clone(oneOf(r, "", drawnLine(r), numbered(4), numbered(20)))
		was := toldProgram(p) + text
		n := oneOf(r, 1, 2, 0)
		checkOwnCoord(t, "CoordNew", func() impl.Coord { c, _ := impl.CoordNew(p, text, n); return c }, append(textsOfProgram(p), text))
		if toldProgram(p)+text != was {
			t.Fatal("an argument is not as it was")
		}
		checkRoom(t, p)
	}
}

func TestCoordsOfNilAndEmptyLists(t *testing.T) {
	none := impl.Coord{Tries: 1, Tasks: []impl.Task{{}, {}}}
	empty := impl.Coord{
		Code: impl.Code{Texts: []string{}, List: []impl.Instr{}}, Names: []string{}, Begin: impl.Store{Vars: []impl.Var{}, Cells: []impl.Cell{}}, Final: impl.Store{Vars: []impl.Var{}, Cells: []impl.Cell{}}, Tries: 1,
		Tasks: []impl.Task{{Lines: []string{}, Delta: impl.Store{Vars: []impl.Var{}, Cells: []impl.Cell{}}}, {Lines: make([]string, 0, 5)}},
	}
	for _, c := range []impl.Coord{none, empty} {
		given := checkGiven(t, c, 1, 0)
		checkSameCoord(t, "given", given, checkGiven(t, none, 1, 0))
		over := checkGathered(t, checkGathered(t, given, tell(1, 1, 1, "\x00\x00\x00")), tell(1, 0, 2, "\x00\x00\x00"))
		checkSame(t, "Final", over.Final, impl.Store{})
		if !over.Over {
			t.Error("it is not over")
		}
	}
	for _, c := range []impl.Coord{{}, {Tasks: []impl.Task{}}, {Tasks: make([]impl.Task, 0, 5)}} {
		checkNothingGiven(t, c)
		checkPassedOver(t, c, tell(1, 0, 1, "\x00\x00\x00"))
		checkTicked(t, c, 3, 3)
	}
	for _, p := range []impl.Program{{}, {Nodes: []impl.Node{}, Rules: []impl.Rule{}}} {
		if c, ok := checkCoordNew(t, p, "a\nb\n", 1); !ok || len(c.Tasks) != 2 {
			t.Errorf("of no program it begins with\n%s", toldCoord(c))
		}
	}
}

func TestCoordsDoNotHangOnEarlierOnes(t *testing.T) {
	p := mustReadProgram(t, countingText)
	tellAll := func() string {
		c, _ := impl.CoordNew(p, "1 x\n2 y\n", 1)
		told := toldCoord(c)
		c, said := impl.GiveTask(c, 1)
		again, more := impl.HearCoord(c, ask(2))
		over, last := impl.HearCoord(again, tell(1, 0, 1, "\x00\x00\x00"))
		over, got := impl.HearCoord(over, tell(2, 1, 2, "\x00\x00\x00"))
		return told + toldCoord(c) + toldMessages(said) + toldCoord(again) + toldMessages(more) + toldMessages(last) + toldCoord(over) + toldMessages(got) + toldCoord(impl.TickCoord(c, 3))
	}
	first := tellAll()
	for k := range uint64(200) {
		r := rand.New(rand.NewPCG(147, k))
		c := drawnCoord(r)
		checkGive(t, c, 1)
		checkHearCoord(t, c, drawnMessageToCoord(r, c))
		impl.CoordNew(runProgram(r), drawnLines(r), 2)
		if tellAll() != first {
			t.Fatal("an answer hangs on earlier ones")
		}
	}
}

// As much as a coord may have goes in good time.
func TestCoordsOfGreatDeltas(t *testing.T) {
	c := mustCoord(t, countingText, numbered(20), 1)
	c.Tries = 1
	delta := plainStoreText(impl.Store{Vars: manyVars(60), Cells: manyCells(900), Out: strings.Repeat("o", 1000)})
	if len(delta) > 15000 {
		t.Fatalf("it has %d bytes", len(delta))
	}
	inGoodTime(t, func() {
		for place := range 20 {
			c, _ = impl.HearCoord(c, tell(1, place, 1, delta))
		}
	})
	if !c.Over || len(c.Final.Cells) != 900 || len(c.Final.Out) != 3000 {
		t.Errorf("over %v, %d cells, %d bytes", c.Over, len(c.Final.Cells), len(c.Final.Out))
	}
}
