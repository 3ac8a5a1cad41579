package tests

import (
	"fmt"
	"math"
	"math/big"
	"math/rand/v2"
	"slices"
	"strings"

	"loop.example/g00237/impl"
)

// What chapter 14 answers, told by what the tests tell of the chapters before.

func toldTask(task impl.Task) string {
	return fmt.Sprintf("%q try %d until %d done %v %s", task.Lines, task.Try, task.Until, task.Done, toldStore(task.Delta))
}

// toldCoord tells all of a coord, and takes an empty list and none for the same.
func toldCoord(c impl.Coord) string {
	told := []string{toldCode(c.Code), fmt.Sprintf("%q", c.Names), toldStore(c.Begin), fmt.Sprintf("count %d now %d tries %d over %v", c.Count, c.Now, c.Tries, c.Over), toldStore(c.Final)}
	for _, task := range c.Tasks {
		told = append(told, toldTask(task))
	}
	return strings.Join(told, "\n")
}

func copyOfCoord(c impl.Coord) impl.Coord {
	c.Code, c.Names, c.Begin, c.Final = copyOfCode(c.Code), slices.Clone(c.Names), copyOfStore(c.Begin), copyOfStore(c.Final)
	c.Tasks = slices.Clone(c.Tasks)
	for i, task := range c.Tasks {
		c.Tasks[i].Lines, c.Tasks[i].Delta = slices.Clone(task.Lines), copyOfStore(task.Delta)
	}
	return c
}

func plainCoordNew(p impl.Program, text string, n int) (impl.Coord, bool) {
	code, ok := plainCompile(p)
	if !ok {
		return impl.Coord{}, false
	}
	lines := plainLinesOf(text)
	c := impl.Coord{Code: code, Names: plainNames(p), Count: len(lines)}
	c.Begin, _ = plainRun(code, 0, code.Line, impl.Store{}, impl.Input{})
	if !plainMergeable(p) || len(lines) == 0 {
		c.Over, c.Final = true, plainAll(code, text)
		return c, true
	}
	for _, part := range plainCutLines(lines, n) {
		c.Tasks = append(c.Tasks, impl.Task{Lines: part})
	}
	return c, true
}

// jobAt is the job that is given of a task.
func jobAt(c impl.Coord, place int) impl.Job {
	return impl.Job{Code: c.Code, Begin: c.Begin, Names: c.Names, Lines: c.Tasks[place].Lines}
}

// plainFree goes from the last task to the first one, and is below 0 where there is none.
func plainFree(c impl.Coord) int {
	free := -1
	for place := len(c.Tasks) - 1; place >= 0; place-- {
		if task := c.Tasks[place]; !(task.Done || task.Until > c.Now) {
			free = place
		}
	}
	return free
}

func plainGiven(c impl.Coord, worker int) (impl.Coord, []impl.Message) {
	place := plainFree(c)
	if place < 0 || c.Tries == 1000000000 || c.Now > 1000000000 || !plainHasText(jobAt(c, place)) {
		return c, nil
	}
	after := copyOfCoord(c)
	after.Tries++
	after.Tasks[place].Try = after.Tries
	after.Tasks[place].Until = c.Now + 5
	return after, []impl.Message{give(worker, place, after.Tries, plainJobText(jobAt(c, place)))}
}

// plainFinal is what the end makes of all deltas.
func plainFinal(c impl.Coord) impl.Store {
	s, in := c.Begin, impl.Input{Num: c.Count}
	lines := []string{}
	for _, task := range c.Tasks {
		s = plainMerge(s, task.Delta)
		lines = append(lines, task.Lines...)
	}
	if len(lines) > 0 {
		in.Line = lines[len(lines)-1]
	}
	if !plainCodeOk(c.Code) {
		return s
	}
	s, _ = plainRun(c.Code, c.Code.End, len(c.Code.List), s, in)
	return s
}

// isTellOf tells whether a message is one of an answer that a coord may take.
func isTellOf(c impl.Coord, m impl.Message) bool {
	_, isStore := plainReadStore(m.Body)
	return m.Kind == impl.MsTell && m.Task < len(c.Tasks) && m.Try > 0 && m.Try <= c.Tries && isStore
}

func plainGathered(c impl.Coord, m impl.Message) (impl.Coord, []impl.Message) {
	if plainMessageOk(m) && m.Kind == impl.MsAsk {
		return plainGiven(c, m.Worker)
	}
	if !plainMessageOk(m) || !isTellOf(c, m) {
		return c, nil
	}
	said := []impl.Message{got(m.Worker, m.Task, m.Try)}
	if c.Tasks[m.Task].Done {
		return c, said
	}
	after := copyOfCoord(c)
	after.Tasks[m.Task].Done = true
	after.Tasks[m.Task].Delta, _ = plainReadStore(m.Body)
	left := 0
	for _, task := range after.Tasks {
		if !task.Done {
			left++
		}
	}
	if left == 0 {
		after.Over, after.Final = true, plainFinal(after)
	}
	return after, said
}

func plainTicked(c impl.Coord, n int) impl.Coord {
	rest := new(big.Int).Mod(big.NewInt(int64(n)), big.NewInt(10))
	c.Now += int(rest.Int64())
	return c
}

func ask(worker int) impl.Message {
	return impl.Message{Kind: impl.MsAsk, Worker: worker}
}

func tell(worker int, task int, try int, body string) impl.Message {
	return impl.Message{Kind: impl.MsTell, Worker: worker, Task: task, Try: try, Body: body}
}

// greatNumbers are such as no run comes to, most of them.
func greatNumbers() []int {
	return []int{0, 1, -1, 5, -5, impl.MaxNumber - 1, impl.MaxNumber, impl.MaxNumber + 1, math.MinInt, math.MinInt + 1, math.MaxInt - 5, math.MaxInt - 1, math.MaxInt}
}

func drawnTask(r *rand.Rand, now int) impl.Task {
	task := impl.Task{Lines: drawnLineList(r), Try: oneOf(r, 0, 0, 1, 2, oneOf(r, greatNumbers()...)), Until: oneOf(r, 0, 0, now-1, now, now+1, now+5, oneOf(r, greatNumbers()...)), Done: r.IntN(2) == 0}
	if r.IntN(3) > 0 {
		task.Lines = []string{drawnJobLine(r)}
	}
	if task.Done || r.IntN(6) == 0 {
		task.Delta = drawnMeantStore(r)
	}
	return task
}

// drawnCoord may be one that no run would make, and is one, most times.
func drawnCoord(r *rand.Rand) impl.Coord {
	c := impl.Coord{Code: drawnRightCode(r), Begin: drawnRightStore(r), Names: []string{drawnName(r), drawnName(r)}, Count: oneOf(r, 0, 1, 3, 20, oneOf(r, greatNumbers()...)), Over: r.IntN(5) == 0}
	c.Now, c.Tries = oneOf(r, 0, 3, 7, 100, oneOf(r, greatNumbers()...)), oneOf(r, 0, 1, 2, 9, 100, oneOf(r, greatNumbers()...))
	switch r.IntN(12) {
	case 0:
		c.Code = turnedCode(r, turnedCode(r, c.Code))
	case 1:
		c.Begin = drawnWrongStore(r)
	case 2:
		c.Names = drawnNames(r)
	}
	if r.IntN(4) == 0 {
		c.Final = drawnMeantStore(r)
	}
	for range oneOf(r, 0, 1, 1, 2, 3, 5, 23) {
		c.Tasks = append(c.Tasks, drawnTask(r, c.Now))
	}
	return c
}

// drawnMessageToCoord is one that the coord may hear, more often than not.
func drawnMessageToCoord(r *rand.Rand, c impl.Coord) impl.Message {
	switch r.IntN(8) {
	case 0:
		return drawnWrongMessage(r)
	case 1, 2:
		return ask(1 + r.IntN(3))
	}
	m := tell(1+r.IntN(3), r.IntN(min(len(c.Tasks)+1, 21)), 1, plainStoreText(drawnRightStore(r)))
	if c.Tries > 0 {
		m.Try = min(1+r.IntN(c.Tries), impl.MaxNumber)
	}
	if r.IntN(4) == 0 {
		m.Try = oneOf(r, 0, 1, 2, min(max(c.Tries, 0), impl.MaxNumber), impl.MaxNumber)
	}
	if r.IntN(8) == 0 {
		m.Body = turnedText(r, m.Body)
	}
	return m
}
