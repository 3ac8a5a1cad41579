package tests

import (
	"fmt"
	"math"
	"math/rand/v2"
	"slices"
	"strings"
	"testing"

	"loop.example/g00237/impl"
)

func checkSameWorld(t *testing.T, what string, got impl.World, want impl.World) {
	t.Helper()
	if toldWorld(got) != toldWorld(want) {
		t.Fatalf("%s is\n%.4000s\nwant\n%.4000s", what, toldWorld(got), toldWorld(want))
	}
}

// checkWorld checks what a life comes to, and answers whether there is one.
func checkWorld(t *testing.T, p impl.Program, text string, n int, events []impl.Event) (impl.World, bool) {
	t.Helper()
	w, ok := impl.RunWorld(p, text, n, events)
	want, wantOk := plainWorld(p, text, n, events)
	if ok != wantOk {
		t.Fatalf("RunWorld is %v of %.200q in parts of %d, %v, by\n%s", ok, text, n, events, toldProgram(p))
	}
	checkSameWorld(t, fmt.Sprintf("RunWorld of %.200q in parts of %d, %v, by\n%s\n", text, n, events, toldProgram(p)), w, want)
	return w, ok
}

// checkNoWorld checks that there is no life, and nothing of one.
func checkNoWorld(t *testing.T, p impl.Program, text string, n int, events []impl.Event) {
	t.Helper()
	w, ok := checkWorld(t, p, text, n, events)
	if ok {
		t.Fatalf("RunWorld is true of %d events", len(events))
	}
	checkSameWorld(t, "RunWorld that is false", w, impl.World{})
}

func checkCalm(t *testing.T, w impl.World, rounds int) impl.World {
	t.Helper()
	calm := impl.CalmWorld(w, rounds)
	checkSameWorld(t, fmt.Sprintf("CalmWorld of %d rounds and\n%.2000s\n", rounds, toldWorld(w)), calm, plainCalmed(w, rounds))
	return calm
}

// living is a life that goes on event by event, each time told anew from its beginning.
type living struct {
	t      *testing.T
	p      impl.Program
	text   string
	n      int
	events []impl.Event
	w      impl.World
}

func beginLife(t *testing.T, program string, text string, n int) *living {
	t.Helper()
	l := &living{t: t, p: mustReadProgram(t, program), text: text, n: n}
	w, ok := checkWorld(t, l.p, text, n, nil)
	if !ok {
		t.Fatalf("there is no life of %s", program)
	}
	l.w = w
	return l
}

// then lets one event more happen, which comes to a code, and answers the world ahead of it.
func (l *living) then(e impl.Event, code int) impl.World {
	l.t.Helper()
	before := l.w
	l.events = append(slices.Clone(l.events), e)
	w, ok := impl.RunWorld(l.p, l.text, l.n, l.events)
	if !ok {
		l.t.Fatalf("RunWorld is false of %v", l.events)
	}
	l.w = w
	checkSameWorld(l.t, fmt.Sprintf("behind %v it", l.events), w, plainBehind(before, e))
	if want := append(slices.Clone(before.Codes), code); !slices.Equal(w.Codes, want) {
		l.t.Fatalf("the codes of %v are %v; want %v", l.events, w.Codes, want)
	}
	return before
}

// is checks the whole world, but for the codes.
func (l *living) is(want impl.World) {
	l.t.Helper()
	want.Codes = l.w.Codes
	checkSameWorld(l.t, fmt.Sprintf("behind %v it", l.events), l.w, want)
}

// inVain lets one event more happen, of which nothing comes.
func (l *living) inVain(e impl.Event) {
	l.t.Helper()
	l.is(l.then(e, 1))
}

// all lets events happen of which each comes to something.
func (l *living) all(events ...impl.Event) {
	l.t.Helper()
	for _, e := range events {
		l.then(e, 0)
	}
}

// net checks which messages are on their way, in which order.
func (l *living) net(messages ...impl.Message) {
	l.t.Helper()
	checkNet(l.t, l.w, sent(l.t, messages...)...)
}

func checkNet(t *testing.T, w impl.World, texts ...string) {
	t.Helper()
	if slices.Equal(w.Net, texts) {
		return
	}
	for _, text := range w.Net {
		t.Log("there is", toldNetText(text))
	}
	for _, text := range texts {
		t.Log("there should be", toldNetText(text))
	}
	t.Fatal("there is something else on the Net")
}

func sent(t *testing.T, messages ...impl.Message) []string {
	t.Helper()
	texts := []string{}
	for _, m := range messages {
		text, ok := impl.MessageText(m)
		if !ok {
			t.Fatalf("there is no text of %s", toldMessage(m))
		}
		texts = append(texts, text)
	}
	return texts
}

// given is what is given of a part of a life's lines.
func (l *living) given(worker int, task int, try int) impl.Message {
	l.t.Helper()
	body, ok := impl.JobText(jobAt(l.w.Coord, task))
	if !ok {
		l.t.Fatalf("task %d has no text", task)
	}
	return give(worker, task, try, body)
}

// answered is what a worker tells of it.
func (l *living) answered(worker int, task int, try int) impl.Message {
	l.t.Helper()
	return answerTo(l.t, l.given(worker, task, try))
}

func TestEventKinds(t *testing.T) {
	kinds := []int{impl.EvWork, impl.EvCarry, impl.EvLose, impl.EvTwice, impl.EvSpoil, impl.EvTick, impl.EvFall, impl.EvRise}
	if !slices.Equal(kinds, []int{1, 2, 3, 4, 5, 6, 7, 8}) {
		t.Errorf("the kinds are %v", kinds)
	}
}

func TestEventsThatAreRight(t *testing.T) {
	kinds := map[int]bool{0: false, 9: false, -1: false, -8: false, 257: false, 264: false, 1<<32 + 1: false, math.MinInt: false, math.MaxInt: false}
	for kind := 1; kind <= 8; kind++ {
		kinds[kind] = true
	}
	workers := map[int]bool{0: false, 1: true, 2: true, 3: true, 4: false, -1: false, -2: false, 257: false, 1<<32 + 2: false, math.MinInt: false, math.MaxInt: false}
	ats := map[int]bool{0: true, 1: true, 9: true, 10: true, 300: true, impl.MaxNumber + 1: true, math.MaxInt: true, -1: false, -10: false, math.MinInt: false}
	for kind, kindOk := range kinds {
		for worker, workerOk := range workers {
			for at, atOk := range ats {
				e := impl.Event{Kind: kind, Worker: worker, At: at}
				if impl.EventOk(e) != (kindOk && workerOk && atOk) {
					t.Errorf("EventOk(%v) = %v", e, impl.EventOk(e))
				}
			}
		}
	}
	if impl.EventOk(impl.Event{}) {
		t.Error("no event at all is right")
	}
}

// A life whose texts and numbers are all written out.
func TestLifeByHand(t *testing.T) {
	p := mustReadProgram(t, "{ n += $1 }\nEND { print n }")
	code, _ := impl.Compile(p)
	body, _ := impl.JobText(impl.Job{Code: code, Names: []string{"n"}, Lines: []string{"5"}})
	ask, giveText := plainSealed("\x01\x02\x00\x00"), plainSealed("\x02\x02\x00\x01"+body)
	tellText, got := plainSealed("\x03\x02\x00\x01\x01\x01n\x015\x00\x00"), plainSealed("\x04\x02\x00\x01")
	spoilt := strings.Replace(ask, "\x02", "\x03", 1)
	free := []impl.Worker{{Id: 1, Up: true}, {Id: 2, Up: true}, {Id: 3, Up: true}}
	busy := []impl.Worker{{Id: 1, Up: true}, {Id: 2, Up: true, Try: 1, Result: "\x01\x01n\x015\x00\x00"}, {Id: 3, Up: true}}
	lost := []impl.Worker{{Id: 1, Up: true}, {Id: 2, Up: true}, {Id: 3}}
	open := impl.Coord{Code: code, Names: []string{"n"}, Count: 1, Tasks: []impl.Task{{Lines: []string{"5"}}}}
	leased, later := copyOfCoord(open), copyOfCoord(open)
	leased.Tasks[0].Try, leased.Tasks[0].Until, leased.Tries = 1, 5, 1
	later.Tasks[0].Try, later.Tasks[0].Until, later.Tries, later.Now = 1, 5, 1, 7
	over := copyOfCoord(later)
	over.Tasks[0].Done, over.Tasks[0].Delta = true, impl.Store{Vars: vars("n", "5")}
	over.Over, over.Final = true, impl.Store{Vars: vars("n", "5"), Out: "5\n"}
	steps := []struct {
		e       impl.Event
		code    int
		coord   impl.Coord
		workers []impl.Worker
		net     []string
	}{
		{evAt(impl.EvCarry, 3), 1, open, free, nil},
		{evWork(2), 0, open, free, []string{ask}},
		{evTwice(7), 0, open, free, []string{ask, ask}},
		{evSpoil(9), 0, open, free, []string{ask, spoilt}},
		{evSpoil(9), 1, open, free, []string{ask, spoilt}},
		{evCarry(4), 0, leased, free, []string{spoilt, giveText}},
		{evTwice(1), 0, leased, free, []string{spoilt, giveText, giveText}},
		{evCarry(1), 0, leased, busy, []string{spoilt, giveText, tellText}},
		{evCarry(1), 1, leased, busy, []string{spoilt, tellText}},
		{evTick(17), 0, later, busy, []string{spoilt, tellText}},
		{evWork(2), 0, later, busy, []string{spoilt, tellText, tellText}},
		{evCarry(0), 1, later, busy, []string{tellText, tellText}},
		{evCarry(1), 0, over, busy, []string{tellText, got}},
		{evRise(3), 1, over, busy, []string{tellText, got}},
		{evCarry(1), 0, over, free, []string{tellText}},
		{evCarry(0), 0, over, free, []string{got}},
		{evCarry(0), 1, over, free, nil},
		{evFall(3), 0, over, lost, nil},
		{evFall(3), 0, over, lost, nil},
		{evWork(3), 1, over, lost, nil},
		{evRise(3), 0, over, free, nil},
		{evLose(0), 1, over, free, nil},
	}
	events, codes := []impl.Event{}, []int{}
	for _, step := range steps {
		events, codes = append(events, step.e), append(codes, step.code)
		w, ok := impl.RunWorld(p, "5\n", 1, events)
		if !ok {
			t.Fatalf("RunWorld is false of %v", events)
		}
		checkSameWorld(t, fmt.Sprintf("behind %v it", events), w, impl.World{Coord: step.coord, Workers: step.workers, Net: step.net, Codes: codes})
	}
}

func TestLivesWithoutEvents(t *testing.T) {
	for _, program := range []string{countingText, "{ n = 1 }", "BEGIN { print 1 }", ""} {
		for _, text := range []string{"", "\n", "1 a", "1 a\n2 b\n", numbered(20), numbered(25)} {
			for _, n := range partSizes() {
				w := beginLife(t, program, text, n).w
				c, _ := impl.CoordNew(mustReadProgram(t, program), text, n)
				checkSameWorld(t, "without events it", w, impl.World{Coord: c, Workers: []impl.Worker{impl.WorkerNew(1), impl.WorkerNew(2), impl.WorkerNew(3)}})
			}
		}
	}
}

func TestNoLives(t *testing.T) {
	p := mustReadProgram(t, countingText)
	ninety := slices.Repeat([]impl.Event{evWork(1)}, 90)
	if w, ok := checkWorld(t, p, "1 a\n", 1, ninety); !ok || len(w.Net) != 90 || len(w.Codes) != 90 {
		t.Errorf("of ninety events it is %v, %d on the Net", ok, len(w.Net))
	}
	for _, more := range []impl.Event{evWork(1), evTick(0), {}} {
		checkNoWorld(t, p, "1 a\n", 1, append(slices.Clone(ninety), more))
	}
	checkNoWorld(t, p, "1 a\n", 1, slices.Repeat(ninety, 3))
	wrong := []impl.Event{{}, {Kind: 0, Worker: 1}, {Kind: 9, Worker: 1}, {Kind: -1, Worker: 1}, {Kind: impl.EvTick, Worker: 0}, {Kind: impl.EvTick, Worker: 4}, {Kind: impl.EvWork, Worker: -1}, {Kind: impl.EvTick, Worker: 1, At: -1}, {Kind: impl.EvWork, Worker: 1, At: math.MinInt}}
	for _, e := range wrong {
		checkNoWorld(t, p, "1 a\n", 1, []impl.Event{e})
		for _, place := range []int{0, 1, 44, 88, 89} {
			events := slices.Clone(ninety)
			events[place] = e
			checkNoWorld(t, p, "1 a\n", 1, events)
		}
	}
	notRight := copyOfProgram(p)
	notRight.Rules[0].Do = len(notRight.Nodes)
	for _, events := range [][]impl.Event{nil, ninety, {evWork(1), evCarry(0)}, {{}}} {
		checkNoWorld(t, notRight, "1 a\n", 1, events)
		checkNoWorld(t, notRight, "", 0, events)
	}
}

// What has no code has no life.
func TestNoLivesOfWhatHasNoCode(t *testing.T) {
	p := mustReadProgram(t, "{ print "+strings.Repeat("1 .", 5)+" 1 }")
	if _, ok := checkWorld(t, p, "a\n", 1, []impl.Event{evWork(1)}); !ok {
		t.Error("there is no life of a few texts")
	}
	many := impl.Program{}
	for i := range 61 {
		many.Nodes = append(many.Nodes, impl.Node{Op: impl.ExText, Text: fmt.Sprint(i)})
	}
	for i := range 61 {
		many.Nodes = append(many.Nodes, impl.Node{Op: impl.StPrint, Kids: []int{i}})
	}
	for from := 61; from < 122; from += 20 {
		places := []int{}
		for place := from; place < min(from+20, 122); place++ {
			places = append(places, place)
		}
		many.Nodes = append(many.Nodes, impl.Node{Op: impl.StBlock, Kids: places})
		many.Rules = append(many.Rules, impl.Rule{When: impl.WhenLine, If: -1, Do: len(many.Nodes) - 1})
	}
	if !impl.ProgramOk(many) {
		t.Fatal("it is no right program")
	}
	checkNoWorld(t, many, "a\n", 1, nil)
	checkNoWorld(t, many, "a\n", 1, []impl.Event{evWork(1)})
	many.Rules = many.Rules[:3]
	if _, ok := checkWorld(t, many, "a\n", 1, nil); !ok {
		t.Error("there is no life of sixty texts")
	}
}

func TestPartsOfLives(t *testing.T) {
	want := map[int]int{1: 20, 2: 10, 3: 7, 19: 2, 20: 1, 21: 1, 0: 1, -1: 1, -20: 1, math.MaxInt: 1, math.MinInt: 1}
	for n, count := range want {
		l := beginLife(t, countingText, numbered(20), n)
		if len(l.w.Coord.Tasks) != count || l.w.Coord.Over {
			t.Errorf("in parts of %d there are %d", n, len(l.w.Coord.Tasks))
		}
		l.all(evWork(1), evCarry(0))
		l.net(l.given(1, 0, 1))
	}
}

// Where there is nothing to cut it is over at once, and whoever asks is given nothing.
func TestLivesThatAreOverAtOnce(t *testing.T) {
	for _, life := range [][2]string{{"{ n = $1 } END { print n }", "1\n2\n"}, {countingText, ""}, {"{ print NR }", "a\n"}, {"", ""}} {
		l := beginLife(t, life[0], life[1], 1)
		alone, _ := impl.RunTree(l.p, life[1])
		c := copyOfCoord(l.w.Coord)
		if !c.Over || len(c.Tasks) > 0 {
			t.Fatalf("of %q it begins with\n%s", life, toldCoord(c))
		}
		checkSame(t, "Final", c.Final, alone)
		l.all(evWork(1), evWork(2), evTwice(0), evCarry(0), evCarry(0), evCarry(0), evTick(3))
		l.net()
		c.Now = 3
		checkSameCoord(t, "it", l.w.Coord, c)
		calm := checkCalm(t, l.w, 5)
		c.Now = 48
		checkSameWorld(t, "calm it", calm, impl.World{Coord: c, Workers: l.w.Workers, Codes: l.w.Codes})
	}
}

func TestWork(t *testing.T) {
	l := beginLife(t, countingText, numbered(4), 2)
	for worker := 1; worker <= 3; worker++ {
		l.all(evWork(worker))
	}
	l.net(ask(1), ask(2), ask(3))
	// At is nothing to it.
	l.then(impl.Event{Kind: impl.EvWork, Worker: 2, At: math.MaxInt}, 0)
	l.net(ask(1), ask(2), ask(3), ask(2))
	l.all(evLose(1), evLose(1), evLose(1), evCarry(0), evCarry(0))
	told := l.answered(1, 0, 1)
	l.net(told)
	l.all(evWork(1), evWork(2), evWork(1))
	l.net(told, told, ask(2), told)
	l.all(evFall(1), evFall(3))
	l.inVain(evWork(1))
	l.inVain(evWork(3))
	l.net(told, told, ask(2), told)
	l.all(evRise(1), evWork(1), evWork(2))
	l.net(told, told, ask(2), told, ask(1), ask(2))
}

// What is said by itself is said also where it is more than a message may have: then nothing of it is on its way.
func TestWorkOfResultsThatAreTooLong(t *testing.T) {
	program, text := "", ""
	for i := range 16 {
		program += fmt.Sprintf("cccccccc[%d .$%d]+=1;", i+1, i%5+1)
	}
	for i := range 20 {
		text += strings.Join(slices.Repeat([]string{strings.Repeat(string(rune('a'+i)), 38)}, 5), " ") + "\n"
	}
	for _, n := range []int{20, 19, 18, 10} {
		l := beginLife(t, "{"+program+"}", text, n)
		l.all(evWork(1), evCarry(0), evCarry(0))
		result := l.w.Workers[0].Result
		count := 1
		if len(result) > 15000 {
			count = 0
		}
		if isLong := len(result) > 15000; isLong != (n > 18) || len(l.w.Net) != count {
			t.Fatalf("of %d lines there are %d bytes, and %d on the Net", n, len(result), len(l.w.Net))
		}
		before := l.then(evWork(1), 0)
		if len(l.w.Net) != 2*count {
			t.Errorf("there are %d on the Net", len(l.w.Net))
		}
		before.Net = l.w.Net
		l.is(before)
		if calm := checkCalm(t, l.w, 3); calm.Coord.Over != (n < 19) {
			t.Errorf("calm, of %d lines, it is over: %v", n, calm.Coord.Over)
		}
	}
}

func TestTicksOfLives(t *testing.T) {
	l := beginLife(t, countingText, numbered(4), 2)
	l.all(evWork(1), evWork(2), evCarry(0))
	now := 0
	for _, at := range []int{0, 1, 9, 10, 11, 19, 20, 99, 100, impl.MaxNumber, impl.MaxNumber + 3, math.MaxInt - 7, math.MaxInt} {
		before := l.then(evTick(at), 0)
		now += at % 10
		before.Coord.Now = now
		l.is(before)
	}
	// The worker is nothing to it.
	before := l.then(impl.Event{Kind: impl.EvTick, Worker: 3, At: 4}, 0)
	before.Coord.Now = now + 4
	l.is(before)
}

func TestFallAndRise(t *testing.T) {
	for worker := 1; worker <= 3; worker++ {
		l := beginLife(t, countingText, numbered(4), 2)
		up := l.w
		l.inVain(evRise(worker))
		l.all(evFall(worker))
		down := copyOfWorld(up)
		down.Workers[worker-1] = impl.Worker{Id: worker}
		l.is(down)
		l.all(evFall(worker))
		l.is(down)
		l.inVain(evWork(worker))
		// At is nothing to either.
		l.then(impl.Event{Kind: impl.EvRise, Worker: worker, At: 77}, 0)
		l.is(up)
		l.inVain(evRise(worker))
		l.all(evWork(worker), evCarry(0), evCarry(0))
		busy := l.w
		if w := busy.Workers[worker-1]; w.Try != 1 || w.Result == "" {
			t.Fatalf("the worker is %s", toldWorker(w))
		}
		// One that is up is not begun anew.
		l.inVain(evRise(worker))
		l.then(impl.Event{Kind: impl.EvFall, Worker: worker, At: 77}, 0)
		down = copyOfWorld(busy)
		down.Workers[worker-1] = impl.Worker{Id: worker}
		l.is(down)
		l.all(evRise(worker))
		down.Workers[worker-1] = impl.Worker{Id: worker, Up: true}
		l.is(down)
		l.all(evWork(worker))
		down.Net = append(down.Net, sent(t, ask(worker))...)
		l.is(down)
	}
}

func onNetKinds() []int {
	return []int{impl.EvCarry, impl.EvLose, impl.EvTwice, impl.EvSpoil}
}

func TestEventsOfAnEmptyNet(t *testing.T) {
	l := beginLife(t, countingText, numbered(4), 2)
	for range 2 {
		for _, kind := range onNetKinds() {
			for _, at := range []int{0, 1, 2, 10, math.MaxInt} {
				l.inVain(impl.Event{Kind: kind, Worker: 1 + at%3, At: at})
			}
		}
		l.net()
		l.all(evFall(2), evWork(1), evWork(3), evLose(1), evLose(1))
	}
}

// someAts are below how much there is, just as much, and above.
func someAts(count int) []int {
	ats := []int{impl.MaxNumber, math.MaxInt - 1, math.MaxInt}
	for at := range 3*count + 2 {
		ats = append(ats, at)
	}
	return ats
}

// fiveOnNet is a life with five different messages on their way, and one that is there twice.
func fiveOnNet(t *testing.T) *living {
	t.Helper()
	l := beginLife(t, countingText, numbered(6), 2)
	l.all(evWork(1), evWork(2), evCarry(0), evCarry(0), evCarry(0), evWork(3), evWork(2), evCarry(2), evTwice(0), evWork(1))
	l.net(l.given(2, 1, 2), l.answered(1, 0, 1), ask(2), l.given(3, 2, 3), l.given(2, 1, 2), l.answered(1, 0, 1))
	return l
}

func TestPlacesOnTheNet(t *testing.T) {
	start := fiveOnNet(t)
	count := len(start.w.Net)
	for _, at := range someAts(count) {
		place := at % count
		text := start.w.Net[place]
		left := slices.Concat(start.w.Net[:place], start.w.Net[place+1:])
		l := *start
		before := l.then(evLose(at), 0)
		before.Net = left
		l.is(before)
		l = *start
		before = l.then(evTwice(at), 0)
		before.Net = slices.Concat(start.w.Net, []string{text})
		l.is(before)
		// Of what is carried, something is answered, or nothing.
		l = *start
		l.then(evCarry(at), 0)
		if len(l.w.Net) < count-1 || len(l.w.Net) > count {
			t.Fatalf("there are %d on the Net", len(l.w.Net))
		}
		checkNet(t, impl.World{Net: l.w.Net[:count-1]}, left...)
	}
}

func TestSpoil(t *testing.T) {
	start := fiveOnNet(t)
	count := len(start.w.Net)
	ats := someAts(count)
	for place, text := range start.w.Net {
		// Each byte of each of them, some time or other.
		for at := place; at < count*len(text) && at < 2000; at += count {
			ats = append(ats, at)
		}
	}
	for _, at := range ats {
		place := at % count
		spoilt := []byte(start.w.Net[place])
		spoilt[at%len(spoilt)] ^= 1
		l := *start
		before := l.then(evSpoil(at), 0)
		before.Net = slices.Clone(before.Net)
		before.Net[place] = string(spoilt)
		l.is(before)
		if at%7 > 0 {
			continue
		}
		// Neither the same byte nor another one is turned back.
		for _, again := range []int{place, place + count, at} {
			l.inVain(evSpoil(again))
		}
		// The others may be spoilt still, and this one may be doubled, carried in vain, and lost.
		l.all(evSpoil((place+1)%count), evTwice(place))
		checkNet(t, impl.World{Net: l.w.Net[count:]}, string(spoilt))
		before = l.then(evCarry(place), 1)
		before.Net = slices.Delete(slices.Clone(before.Net), place, place+1)
		l.is(before)
		before = l.then(evLose(count-1), 0)
		before.Net = before.Net[:count-1]
		l.is(before)
	}
}

func TestCarriedAsks(t *testing.T) {
	l := beginLife(t, countingText, numbered(4), 2)
	l.all(evWork(1), evTwice(0), evTwice(0), evTwice(0), evTwice(0), evWork(3), evCarry(0))
	l.net(ask(1), ask(1), ask(1), ask(1), ask(3), l.given(1, 0, 1))
	// What is asked twice is given twice, till nothing is free.
	l.all(evCarry(0))
	l.net(ask(1), ask(1), ask(1), ask(3), l.given(1, 0, 1), l.given(1, 1, 2))
	before := l.then(evCarry(0), 0)
	before.Net = before.Net[1:]
	l.is(before)
	// A lease that is over is given anew, to whoever asks.
	l.all(evTick(4), evCarry(0))
	l.net(ask(1), ask(3), l.given(1, 0, 1), l.given(1, 1, 2))
	l.all(evTick(1), evCarry(1))
	l.net(ask(1), l.given(1, 0, 1), l.given(1, 1, 2), l.given(3, 0, 3))
	l.all(evCarry(0))
	l.net(l.given(1, 0, 1), l.given(1, 1, 2), l.given(3, 0, 3), l.given(1, 1, 4))
	// One that has fallen since asked still.
	l.all(evWork(2), evFall(2), evTick(6), evCarry(4))
	l.net(l.given(1, 0, 1), l.given(1, 1, 2), l.given(3, 0, 3), l.given(1, 1, 4), l.given(2, 0, 5))
}

func TestCarriedGives(t *testing.T) {
	l := beginLife(t, countingText, numbered(6), 2)
	l.all(evWork(2), evCarry(0), evTwice(0), evTwice(0), evTick(5), evWork(2), evCarry(3))
	l.net(l.given(2, 0, 1), l.given(2, 0, 1), l.given(2, 0, 1), l.given(2, 0, 2))
	before := l.then(evCarry(0), 0)
	told := l.answered(2, 0, 1)
	before.Workers = slices.Clone(before.Workers)
	before.Workers[1] = impl.Worker{Id: 2, Up: true, Try: 1, Result: told.Body}
	before.Net = append(slices.Clone(before.Net[1:]), sent(t, told)...)
	l.is(before)
	// It has a result: the same once more, and another try, are taken away, and not taken.
	before = l.then(evCarry(0), 1)
	before.Net = before.Net[1:]
	l.is(before)
	before = l.then(evCarry(1), 1)
	before.Net = slices.Delete(slices.Clone(before.Net), 1, 2)
	l.is(before)
	l.net(l.given(2, 0, 1), told)
	// One that is not up does not take it, either.
	l.all(evTwice(0), evTwice(0), evFall(2))
	before = l.then(evCarry(0), 1)
	before.Net = before.Net[1:]
	l.is(before)
	// Begun anew it takes what comes late.
	l.all(evRise(2), evCarry(1))
	l.net(told, l.given(2, 0, 1), told)
	if w := l.w.Workers[1]; w != (impl.Worker{Id: 2, Up: true, Try: 1, Result: told.Body}) {
		t.Errorf("the worker is %s", toldWorker(w))
	}
	// The others are as they were.
	if l.w.Workers[0] != impl.WorkerNew(1) || l.w.Workers[2] != impl.WorkerNew(3) {
		t.Error("another worker has heard of it")
	}
}

func TestCarriedTells(t *testing.T) {
	l := beginLife(t, countingText, numbered(4), 2)
	l.all(evWork(3), evCarry(0), evCarry(0), evTwice(0), evTwice(0))
	told := l.answered(3, 0, 1)
	delta, _ := impl.ReadStore(told.Body)
	l.net(told, told, told)
	before := l.then(evCarry(1), 0)
	before.Coord = copyOfCoord(before.Coord)
	before.Coord.Tasks[0].Done, before.Coord.Tasks[0].Delta = true, delta
	before.Net = sent(t, told, told, got(3, 0, 1))
	l.is(before)
	// Told twice it is heard twice, and taken once.
	before = l.then(evCarry(0), 0)
	before.Net = sent(t, told, got(3, 0, 1), got(3, 0, 1))
	l.is(before)
	// Told by one that has fallen since, it is heard still.
	l.all(evFall(3), evCarry(0))
	l.net(got(3, 0, 1), got(3, 0, 1), got(3, 0, 1))
}

func TestCarriedGots(t *testing.T) {
	l := beginLife(t, countingText, numbered(4), 2)
	l.all(evWork(1), evCarry(0), evCarry(0), evTwice(0), evTwice(0), evTwice(0), evCarry(0), evCarry(0), evCarry(0), evCarry(0))
	l.net(got(1, 0, 1), got(1, 0, 1), got(1, 0, 1), got(1, 0, 1))
	before := l.then(evCarry(2), 0)
	before.Net = sent(t, got(1, 0, 1), got(1, 0, 1), got(1, 0, 1))
	before.Workers = []impl.Worker{impl.WorkerNew(1), impl.WorkerNew(2), impl.WorkerNew(3)}
	l.is(before)
	// It has nothing to tell any more.
	before = l.then(evCarry(0), 1)
	before.Net = before.Net[1:]
	l.is(before)
	// It has something else to tell.
	l.all(evWork(1), evCarry(2), evCarry(2))
	told := l.answered(1, 1, 2)
	l.net(got(1, 0, 1), got(1, 0, 1), told)
	before = l.then(evCarry(0), 1)
	before.Net = before.Net[1:]
	l.is(before)
	// It is not up.
	l.all(evFall(1))
	before = l.then(evCarry(0), 1)
	before.Net = before.Net[1:]
	l.is(before)
	l.all(evRise(1), evCarry(0))
	l.net(got(1, 1, 2))
	l.then(evCarry(0), 1)
	l.net()
}

// What comes when its lease is over is as good as what comes in time; what comes when its task is done changes nothing.
func TestLateAnswers(t *testing.T) {
	l := beginLife(t, countingText, "1 a\n", 1)
	l.all(evWork(1), evCarry(0), evTick(5), evWork(2), evCarry(1), evTick(5), evWork(3), evCarry(2))
	l.net(l.given(1, 0, 1), l.given(2, 0, 2), l.given(3, 0, 3))
	l.all(evCarry(0), evCarry(0), evCarry(0))
	first, second, third := l.answered(1, 0, 1), l.answered(2, 0, 2), l.answered(3, 0, 3)
	l.net(first, second, third)
	l.all(evTick(9), evCarry(1))
	l.net(first, third, got(2, 0, 2))
	alone, _ := impl.RunTree(l.p, l.text)
	over := l.w.Coord
	if !over.Over || over.Tasks[0].Try != 3 {
		t.Fatalf("it is\n%s", toldCoord(over))
	}
	checkSame(t, "Final", over.Final, alone)
	l.all(evCarry(0), evCarry(0))
	l.net(got(2, 0, 2), got(1, 0, 1), got(3, 0, 3))
	checkSameCoord(t, "behind what comes late it", l.w.Coord, over)
	l.all(evCarry(2), evCarry(1), evCarry(0))
	l.net()
	for id, w := range l.w.Workers {
		if w != impl.WorkerNew(id+1) {
			t.Errorf("the worker is %s", toldWorker(w))
		}
	}
	// Whoever asks behind the end is given nothing.
	l.all(evWork(1), evTick(9), evCarry(0))
	l.net()
	over.Now += 9
	checkSameCoord(t, "behind the end it", l.w.Coord, over)
}

// A life of nothing but good luck is over in the events it takes.
func TestLivesOfGoodLuck(t *testing.T) {
	for _, n := range []int{1, 2, 3, 20} {
		l := beginLife(t, countingText, numbered(6), n)
		parts := len(l.w.Coord.Tasks)
		for part := range parts {
			if l.w.Coord.Over {
				t.Fatalf("it is over behind %d of %d", part, parts)
			}
			l.all(evWork(1+part%3), evCarry(0), evCarry(0), evCarry(0), evCarry(0))
			l.net()
		}
		alone, _ := impl.RunTree(l.p, l.text)
		if !l.w.Coord.Over || l.w.Coord.Tries != parts {
			t.Fatalf("it is\n%s", toldCoord(l.w.Coord))
		}
		checkSame(t, "Final", l.w.Coord.Final, alone)
	}
}

func TestDrawnLives(t *testing.T) {
	lives, over, tally := 0, 0, [9][2]int{}
	for k := range uint64(3000) {
		r := rand.New(rand.NewPCG(149, k))
		p, text, n, events := drawnLife(r)
		w, ok := checkWorld(t, p, text, n, events)
		if !ok {
			continue
		}
		lives++
		for i, code := range w.Codes {
			tally[events[i].Kind][code]++
		}
		if w.Coord.Over && len(w.Coord.Tasks) > 0 {
			over++
		}
		if k%5 == 0 {
			w = checkCalm(t, w, oneOf(r, 0, 1, 2, 5, 30))
		}
		if k%10 == 0 && len(text) < 200 {
			calm := impl.CalmWorld(w, 60)
			alone, _ := impl.RunAll(calm.Coord.Code, text)
			if calm.Coord.Over {
				checkSame(t, "Final", calm.Coord.Final, alone)
			}
		}
	}
	if lives < 2000 || over < 100 {
		t.Errorf("there are %d lives, and %d are over", lives, over)
	}
	for kind := 1; kind <= 8; kind++ {
		// A tick and a fall are never in vain.
		isVain := kind != impl.EvTick && kind != impl.EvFall
		if tally[kind][0] < 1000 || tally[kind][1] > 0 != isVain || isVain && tally[kind][1] < 500 {
			t.Errorf("events of kind %d came %d times to something, %d times to nothing", kind, tally[kind][0], tally[kind][1])
		}
	}
}

// Behind each event of a drawn life is what the chapter tells of what was ahead of it.
func TestDrawnLivesEventByEvent(t *testing.T) {
	for k := range uint64(150) {
		r := rand.New(rand.NewPCG(150, k))
		p, text, n, _ := drawnLife(r)
		events := drawnEvents(r, 90)
		w, ok := checkWorld(t, p, text, n, nil)
		for i := range events {
			if !ok {
				break
			}
			after, _ := impl.RunWorld(p, text, n, events[:i+1])
			checkSameWorld(t, fmt.Sprintf("behind %v it", events[:i+1]), after, plainBehind(w, events[i]))
			w = after
		}
	}
}

func TestDrawnEventsThatAreNotRight(t *testing.T) {
	some := 0
	for k := range uint64(300) {
		r := rand.New(rand.NewPCG(151, k))
		p, text, n, events := drawnLife(r)
		events = append(events, drawnEvents(r, r.IntN(3))...)
		if len(events) > 0 && r.IntN(2) == 0 {
			e := &events[r.IntN(len(events))]
			e.Kind = oneOf(r, e.Kind, 0, 9, 3)
			e.Worker = oneOf(r, e.Worker, e.Worker, 0, 4)
			e.At = oneOf(r, e.At, e.At, -1, 0)
		}
		if _, ok := checkWorld(t, p, text, n, events); !ok {
			some++
		}
	}
	if some < 50 || some > 250 {
		t.Errorf("there are no lives of %d", some)
	}
}

func TestCalmRounds(t *testing.T) {
	start := fiveOnNet(t)
	start.all(evFall(2))
	// Nothing is calmed in no rounds.
	for _, rounds := range []int{0, -1, -60, math.MinInt} {
		checkSameWorld(t, "of no rounds it", checkCalm(t, start.w, rounds), start.w)
	}
	for rounds := range 64 {
		calm := checkCalm(t, start.w, rounds)
		if calm.Coord.Now != 9*min(rounds, 60) || !slices.Equal(calm.Codes, start.w.Codes) {
			t.Fatalf("behind %d rounds Now is %d, the codes are %v", rounds, calm.Coord.Now, calm.Codes)
		}
		if rounds > 0 && !calm.Workers[1].Up {
			t.Fatal("a worker is not up")
		}
	}
	for _, rounds := range []int{61, 62, 1000, math.MaxInt} {
		checkSameWorld(t, "of sixty rounds and more it", checkCalm(t, start.w, rounds), impl.CalmWorld(start.w, 60))
	}
	// Each round is as if it were the only one.
	w := start.w
	for rounds := range 12 {
		checkSameWorld(t, "round by round it", w, impl.CalmWorld(start.w, rounds))
		w = impl.CalmWorld(w, 1)
	}
}

// In each round every worker that asks is given a part, tells, and is heard.
func TestCalmByHand(t *testing.T) {
	l := beginLife(t, countingText, numbered(7), 1)
	calm := checkCalm(t, l.w, 1)
	for place, task := range calm.Coord.Tasks {
		if task.Done != (place < 3) {
			t.Errorf("behind one round task %d is %s", place, toldTask(task))
		}
	}
	if calm.Coord.Now != 9 || calm.Coord.Tries != 3 || calm.Coord.Over || len(calm.Net) > 0 || !slices.Equal(calm.Workers, l.w.Workers) {
		t.Errorf("behind one round it is\n%s", toldWorld(calm))
	}
	calm = checkCalm(t, calm, 1)
	if calm.Coord.Tries != 6 || calm.Coord.Over {
		t.Errorf("behind two rounds it is\n%s", toldWorld(calm))
	}
	calm = checkCalm(t, calm, 1)
	alone, _ := impl.RunTree(l.p, l.text)
	if calm.Coord.Tries != 7 || !calm.Coord.Over || calm.Coord.Now != 27 {
		t.Errorf("behind three rounds it is\n%s", toldWorld(calm))
	}
	checkSame(t, "Final", calm.Coord.Final, alone)
	// What is over stays so.
	later := checkCalm(t, calm, 60)
	calm.Coord.Now += 540
	checkSameWorld(t, "what was over", later, calm)
}

// Whatever a life has left, calm brings it to its end: workers that are down, a Net that is full of what was spoilt and doubled, leases of which nothing comes.
func TestCalmBehindALife(t *testing.T) {
	for k := range uint64(40) {
		r := rand.New(rand.NewPCG(152, k))
		p := mustReadProgram(t, oneOf(r, countingText, `{ n += $1; print $2, $0 } END { print n, NR }`, `BEGIN { c["k0"] = 5 } NF { c[$2] += $3; m += 1 } END { dump c; print m }`))
		text := numbered(1 + r.IntN(20))
		events := []impl.Event{}
		for len(events) < 80 {
			events = append(events, drawnEvent(r), impl.Event{Kind: oneOf(r, impl.EvWork, impl.EvTwice, impl.EvSpoil, impl.EvTwice), Worker: 1 + r.IntN(3), At: r.IntN(300)})
		}
		events = append(events, evFall(1), evFall(2), evFall(3))
		w, _ := checkWorld(t, p, text, oneOf(r, 1, 2, 20), events)
		calm := checkCalm(t, w, oneOf(r, 8, 20, 60))
		alone, _ := impl.RunTree(p, text)
		if !calm.Coord.Over || len(calm.Net) > 0 {
			t.Fatalf("behind calm it is\n%s", toldWorld(calm))
		}
		checkSame(t, "Final", calm.Coord.Final, alone)
	}
}

// At most 300 are carried in a round, what is answered in it counted in.
func TestCalmOfAFullNet(t *testing.T) {
	l := beginLife(t, countingText, numbered(6), 2)
	asks := sent(t, ask(1), ask(2), ask(3))
	gives := []impl.Message{l.given(1, 0, 1), l.given(2, 1, 2), l.given(3, 2, 3)}
	noise := func(count int) []string {
		texts := []string{}
		for i := range count {
			texts = append(texts, fmt.Sprintf("noise %d", i))
		}
		return texts
	}
	want := map[int][]string{
		300: asks,
		301: slices.Concat(noise(301)[300:], asks),
		310: slices.Concat(noise(310)[300:], asks),
		900: slices.Concat(noise(900)[300:], asks),
		299: slices.Concat(asks[1:], sent(t, gives[0])),
		298: slices.Concat(asks[2:], sent(t, gives[:2]...)),
		297: sent(t, gives...),
		296: sent(t, gives[1], gives[2], answerTo(t, gives[0])),
		294: sent(t, answerTo(t, gives[0]), answerTo(t, gives[1]), answerTo(t, gives[2])),
		293: sent(t, answerTo(t, gives[1]), answerTo(t, gives[2]), got(1, 0, 1)),
		291: sent(t, got(1, 0, 1), got(2, 1, 2), got(3, 2, 3)),
		290: sent(t, got(2, 1, 2), got(3, 2, 3)),
		289: sent(t, got(3, 2, 3)),
		288: nil,
		0:   nil,
	}
	for count, left := range want {
		w := copyOfWorld(l.w)
		w.Net = noise(count)
		calm := checkCalm(t, w, 1)
		checkNet(t, calm, left...)
		if calm.Coord.Over != (count <= 291) {
			t.Errorf("of %d it is over: %v", count, calm.Coord.Over)
		}
		rounds := count/300 + 3
		if calm = checkCalm(t, w, rounds); !calm.Coord.Over {
			t.Errorf("of %d it is not over behind %d rounds", count, rounds)
		}
		checkCalm(t, w, 60)
	}
	// So many rounds are not enough for so many.
	w := copyOfWorld(l.w)
	w.Net = noise(18001)
	if calm := checkCalm(t, w, 61); calm.Coord.Tries != 0 || len(calm.Net) != 181 || calm.Net[0] != "noise 18000" {
		t.Errorf("there are %d on the Net", len(calm.Net))
	}
}

// Workers are found by their numbers, the first one where more have the same.
func TestCalmOfOtherWorkers(t *testing.T) {
	l := beginLife(t, countingText, numbered(8), 1)
	up := func(ids ...int) []impl.Worker {
		workers := []impl.Worker{}
		for _, id := range ids {
			workers = append(workers, impl.WorkerNew(id))
		}
		return workers
	}
	// So many tasks are done in a round.
	cases := []struct {
		ids  []int
		done int
		left []impl.Worker
	}{
		{nil, 0, nil},
		{[]int{1}, 1, up(1)},
		{[]int{3, 2}, 2, up(3, 2)},
		{[]int{3, 1, 2}, 3, up(3, 1, 2)},
		{[]int{4}, 0, up(4)},
		{[]int{0, -1, 4, 257, math.MinInt, 2}, 1, up(0, -1, 4, 257, math.MinInt, 2)},
		{[]int{5, 1, 6}, 1, up(5, 1, 6)},
		// Both ask, and the first one is given both, of which it takes the first.
		{[]int{2, 2}, 1, up(2, 2)},
		{[]int{2, 3, 2}, 2, up(2, 3, 2)},
	}
	for _, some := range cases {
		w := copyOfWorld(l.w)
		w.Workers = up(some.ids...)
		calm := checkCalm(t, w, 1)
		done := 0
		for _, task := range calm.Coord.Tasks {
			if task.Done {
				done++
			}
		}
		if done != some.done || !slices.Equal(calm.Workers, some.left) || len(calm.Net) > 0 {
			t.Errorf("of %v, %d tasks are done, and there is\n%s", some.ids, done, toldWorld(calm))
		}
		checkCalm(t, w, 60)
		for i := range w.Workers {
			w.Workers[i] = impl.Worker{Id: w.Workers[i].Id, Task: 7, Try: -1, Result: "gone"}
		}
		if calm = checkCalm(t, w, 1); !slices.Equal(calm.Workers, some.left) {
			t.Errorf("of %v that are down it is\n%s", some.ids, toldWorld(calm))
		}
	}
	// The second one of a number is not heard of, though it is the one that could take it.
	w := copyOfWorld(l.w)
	w.Workers = []impl.Worker{{Id: 2, Up: true, Task: 20, Result: "r"}, impl.WorkerNew(2)}
	w.Net = sent(t, l.given(2, 0, 1), got(2, 20, 0))
	calm := checkCalm(t, w, 1)
	if !slices.Equal(calm.Workers, up(2, 2)) || !calm.Coord.Tasks[0].Done {
		t.Errorf("it is\n%s", toldWorld(calm))
	}
}

func TestDrawnCalms(t *testing.T) {
	over, left := 0, 0
	for k := range uint64(500) {
		r := rand.New(rand.NewPCG(153, k))
		w := drawnWorld(r)
		rounds := oneOf(r, 0, 1, 1, 2, 3, -1, math.MinInt)
		if k%20 == 0 {
			rounds = oneOf(r, 59, 60, 61, math.MaxInt)
		}
		calm := checkCalm(t, w, rounds)
		if w.Coord.Over && !calm.Coord.Over {
			t.Fatal("what was over is not")
		}
		if calm.Coord.Over && !w.Coord.Over {
			over++
		}
		if rounds > 0 && len(calm.Net) > 0 {
			left++
		}
		if !slices.Equal(calm.Codes, w.Codes) {
			t.Fatalf("the codes are %v; want %v", calm.Codes, w.Codes)
		}
	}
	if over < 20 || left > 0 {
		t.Errorf("%d are over, %d have something on the Net", over, left)
	}
}

// Texts that no message has are passed over, and nothing is made of a world of nothing.
func TestCalmOfWhatNoLifeMakes(t *testing.T) {
	checkSameWorld(t, "nothing", checkCalm(t, impl.World{}, 0), impl.World{})
	checkSameWorld(t, "nothing", checkCalm(t, impl.World{}, 60), impl.World{Coord: impl.Coord{Now: 540}})
	texts := []string{"", "\x00", "x", strings.Repeat("x", 30000), plainSealed(""), plainSealed("\x01"), plainSealed("\x00\x01\x00\x00"), plainSealed("\x01\x00\x00\x00"), plainSealed("\x01\x04\x00\x00"), plainSealed("\x01\x01\x15\x00"), plainSealed("\x01\x01\x00\x00b"), plainSealed("\x05\x01\x00\x00"), plainSealed("\x01\x01\x00\x00") + "\x00", plainSealed("\x02\x01\x00\x00" + strings.Repeat("b", 15001))}
	checkSameWorld(t, "nothing", checkCalm(t, impl.World{Net: texts}, 1), impl.World{Coord: impl.Coord{Now: 9}})
	// Right ones are for no one.
	right := sent(t, ask(1), tell(2, 3, 4, "\x00\x00\x00"), give(3, 0, 0, "j"), got(1, 20, 5))
	checkSameWorld(t, "nothing", checkCalm(t, impl.World{Net: right}, 1), impl.World{Coord: impl.Coord{Now: 9}})
	// Now may go round.
	w := impl.World{Coord: impl.Coord{Now: math.MaxInt - 4, Over: true}, Net: texts, Codes: []int{7, -7}}
	least := math.MinInt
	checkSameWorld(t, "it", checkCalm(t, w, 1), impl.World{Coord: impl.Coord{Now: least + 4, Over: true}, Codes: []int{7, -7}})
	// A lease without an end, and no more tries.
	for _, c := range []impl.Coord{{Tasks: []impl.Task{{Until: math.MaxInt}}}, {Tasks: make([]impl.Task, 2), Tries: impl.MaxNumber}, {Tasks: make([]impl.Task, 2), Now: impl.MaxNumber}} {
		w := impl.World{Coord: c, Workers: []impl.Worker{impl.WorkerNew(1)}}
		want := copyOfWorld(w)
		want.Coord.Now += 540
		checkSameWorld(t, "it", checkCalm(t, w, 60), want)
	}
	// All tasks are done, and it is not over: nothing more comes of it.
	done := impl.Coord{Tasks: []impl.Task{{Done: true}}, Tries: 1}
	calm := checkCalm(t, impl.World{Coord: done, Workers: []impl.Worker{{Id: 1, Up: true, Try: 1, Result: "\x00\x00\x00"}}}, 3)
	if calm.Coord.Over || calm.Workers[0] != impl.WorkerNew(1) {
		t.Errorf("it is\n%s", toldWorld(calm))
	}
}

func TestCalmOfMany(t *testing.T) {
	l := beginLife(t, countingText, numbered(20), 1)
	w := copyOfWorld(l.w)
	for i := range 5000 {
		w.Workers = append(w.Workers, impl.Worker{Id: i%7 - 2, Up: i%2 == 0})
		w.Net = append(w.Net, sent(t, ask(1+i%3))...)
	}
	inGoodTime(t, func() {
		calm := impl.CalmWorld(w, 60)
		if calm.Coord.Now != 540 || len(calm.Workers) != 5003 || len(calm.Net) < 5000 {
			t.Errorf("Now is %d, there are %d workers, and %d on the Net", calm.Coord.Now, len(calm.Workers), len(calm.Net))
		}
	})
}

func textsOfWorld(w impl.World) []string {
	texts := slices.Concat(textsOfCoord(w.Coord), w.Net)
	for _, worker := range w.Workers {
		texts = append(texts, worker.Result)
	}
	return texts
}

func spareWorker() impl.Worker {
	return impl.Worker{Id: -7, Task: -7, Result: "spare"}
}

// roomyWorld has memory of its own, and spare room behind its lists, filled with what must stay.
func roomyWorld(w impl.World) impl.World {
	w.Coord, w.Net = roomyCoord(w.Coord), roomyTexts(w.Net)
	workers := []impl.Worker{}
	for _, worker := range w.Workers {
		worker.Result = strings.Clone(worker.Result)
		workers = append(workers, worker)
	}
	w.Workers = append(workers, spareWorker(), spareWorker())[:len(workers)]
	w.Codes = append(slices.Clone(w.Codes), -77, -78)[:len(w.Codes)]
	return w
}

func checkWorldRoom(t *testing.T, w impl.World) {
	t.Helper()
	checkCoordRoom(t, w.Coord)
	checkTextsRoom(t, w.Net)
	if !slices.Equal(w.Workers[len(w.Workers):][:2], []impl.Worker{spareWorker(), spareWorker()}) || !slices.Equal(w.Codes[len(w.Codes):][:2], []int{-77, -78}) {
		t.Fatal("something was written into the spare room behind a world's lists")
	}
}

// spoilWorkers writes into a list of workers, and into the spare room behind it.
func spoilWorkers(list []impl.Worker) {
	for i := range list[:cap(list)] {
		list[:cap(list)][i] = spareWorker()
	}
}

func spoilCodes(list []int) {
	for i := range list[:cap(list)] {
		list[:cap(list)][i] = -7
	}
}

// worldLists has for each list of a world what writes into it, and into the spare room behind it, and what takes it away.
func worldLists(w *impl.World) (spoil []func(), without []func()) {
	spoil, without = coordLists(&w.Coord)
	spoil = append(spoil, func() { spoilWorkers(w.Workers) }, func() { spoilTexts(w.Net) }, func() { spoilCodes(w.Codes) })
	without = append(without, func() { w.Workers = nil }, func() { w.Net = nil }, func() { w.Codes = nil })
	return spoil, without
}

// checkOwnWorld checks that a world that is answered is new memory, list by list, and shares none with what was handed in.
func checkOwnWorld(t *testing.T, what string, call func() impl.World, handedIn []string) {
	t.Helper()
	answer := call()
	told := toldWorld(answer)
	checkNew(t, what, textsOfWorld(answer), handedIn)
	lists, _ := worldLists(&answer)
	for which := range lists {
		one, other := call(), copyOfWorld(answer)
		spoil, withoutOne := worldLists(&one)
		_, withoutOther := worldLists(&other)
		spoil[which]()
		withoutOne[which]()
		withoutOther[which]()
		if toldWorld(one) != toldWorld(other) {
			t.Fatalf("%s: list %d shares memory with another one", what, which)
		}
		if toldWorld(answer) != told || toldWorld(call()) != told {
			t.Fatalf("%s: an answer hangs on one that was written into, list %d", what, which)
		}
	}
	spoilt := call()
	for i := range spoilt.Coord.Tasks[:cap(spoilt.Coord.Tasks)] {
		spoilt.Coord.Tasks[:cap(spoilt.Coord.Tasks)][i] = spareTask()
	}
	if toldWorld(answer) != told || toldWorld(call()) != told {
		t.Fatalf("%s: an answer hangs on one whose tasks were written into", what)
	}
}

func TestWhatLivesAnswerIsNew(t *testing.T) {
	for k := range uint64(60) {
		r := rand.New(rand.NewPCG(154, k))
		p, text, n, events := drawnLife(r)
		p, text, events = ownTexts(roomy(p)), strings.Clone(text), append(slices.Clone(events[:min(len(events), 50)]), evWork(-7), evWork(-8))
		events = events[:len(events)-2]
		was := toldProgram(p) + text + fmt.Sprint(events)
		checkOwnWorld(t, "RunWorld", func() impl.World { w, _ := impl.RunWorld(p, text, n, events); return w }, append(textsOfProgram(p), text))
		if toldProgram(p)+text+fmt.Sprint(events) != was || !slices.Equal(events[len(events):][:2], []impl.Event{evWork(-7), evWork(-8)}) {
			t.Fatal("an argument is not as it was")
		}
		checkRoom(t, p)
	}
}

func TestWhatIsCalmIsNew(t *testing.T) {
	for k := range uint64(80) {
		r := rand.New(rand.NewPCG(155, k))
		w := drawnWorld(r)
		w.Coord.Tasks = w.Coord.Tasks[:min(len(w.Coord.Tasks), 3)]
		if k%2 == 0 {
			p, text, n, events := drawnLife(r)
			w, _ = impl.RunWorld(p, text, n, events[:min(len(events), 20)])
		}
		w = roomyWorld(w)
		was := toldWorld(w)
		rounds := oneOf(r, 0, 1, 2)
		checkOwnWorld(t, "CalmWorld", func() impl.World { return impl.CalmWorld(w, rounds) }, textsOfWorld(w))
		if toldWorld(w) != was {
			t.Fatal("an argument is not as it was")
		}
		checkWorldRoom(t, w)
	}
}

func TestWorldsOfNilAndEmptyLists(t *testing.T) {
	p := mustReadProgram(t, countingText)
	for _, events := range [][]impl.Event{nil, {}, make([]impl.Event, 0, 5)} {
		w, ok := checkWorld(t, p, "1 a\n", 1, events)
		if !ok || len(w.Net) != 0 || len(w.Codes) != 0 || len(w.Workers) != 3 {
			t.Errorf("of no events it is\n%s", toldWorld(w))
		}
	}
	for _, p := range []impl.Program{{}, {Nodes: []impl.Node{}, Rules: []impl.Rule{}}} {
		l := &living{t: t, p: p, text: "a\n", n: 1}
		l.w, _ = checkWorld(t, p, "a\n", 1, nil)
		l.all(evWork(1), evCarry(0), evCarry(0), evCarry(0), evCarry(0))
		if !l.w.Coord.Over {
			t.Errorf("of no program it is\n%s", toldWorld(l.w))
		}
		checkSame(t, "Final", l.w.Coord.Final, impl.Store{})
	}
	none := impl.World{Coord: impl.Coord{Tasks: []impl.Task{{}}}, Workers: []impl.Worker{{Id: 1}}}
	empty := copyOfWorld(none)
	empty.Coord.Code = impl.Code{Texts: []string{}, List: []impl.Instr{}}
	empty.Coord.Names, empty.Net, empty.Codes = []string{}, []string{}, []int{}
	empty.Coord.Tasks = []impl.Task{{Lines: []string{}, Delta: impl.Store{Vars: []impl.Var{}, Cells: []impl.Cell{}}}}
	for _, rounds := range []int{0, 1, 2} {
		checkSameWorld(t, "of empty lists it", checkCalm(t, empty, rounds), checkCalm(t, none, rounds))
	}
	for _, w := range []impl.World{{Workers: []impl.Worker{}}, {Net: []string{}}, {Codes: make([]int, 0, 3)}} {
		checkSameWorld(t, "of nothing it", checkCalm(t, w, 1), impl.World{Coord: impl.Coord{Now: 9}})
	}
}

func TestLivesDoNotHangOnEarlierOnes(t *testing.T) {
	p := mustReadProgram(t, countingText)
	events := []impl.Event{evWork(1), evTwice(0), evCarry(0), evSpoil(1), evCarry(0), evWork(2), evFall(3), evTick(7), evCarry(1), evCarry(0)}
	tellAll := func() string {
		w, _ := impl.RunWorld(p, "1 x\n2 y\n", 1, events)
		return toldWorld(w) + toldWorld(impl.CalmWorld(w, 1)) + toldWorld(impl.CalmWorld(w, 3))
	}
	first := tellAll()
	for k := range uint64(100) {
		r := rand.New(rand.NewPCG(156, k))
		other, text, n, more := drawnLife(r)
		w, _ := impl.RunWorld(other, text, n, more)
		impl.CalmWorld(w, 2)
		impl.CalmWorld(drawnWorld(r), 1)
		impl.RunWorld(other, text, n, append(more, impl.Event{}))
		if tellAll() != first {
			t.Fatal("an answer hangs on earlier ones")
		}
	}
}
