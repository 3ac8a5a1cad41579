package tests

import (
	"fmt"
	"math"
	"math/rand/v2"
	"strings"

	"loop.example/g00237/impl"
)

// What chapter 13 answers, told by what the tests tell of the chapters before.

func plainSaid(w impl.Worker) []impl.Message {
	said := map[[2]bool][]impl.Message{
		{true, false}: {{Kind: impl.MsAsk, Worker: w.Id}},
		{true, true}:  {{Kind: impl.MsTell, Worker: w.Id, Task: w.Task, Try: w.Try, Body: w.Result}},
	}
	return said[[2]bool{w.Up, len(w.Result) > 0}]
}

// plainResult is what a worker has to tell of a job.
func plainResult(j impl.Job) string {
	return plainStoreText(plainDelta(j.Code, j.Begin, j.Names, j.Lines))
}

func plainHeard(w impl.Worker, m impl.Message) (impl.Worker, []impl.Message) {
	if !w.Up || w.Id != m.Worker || !plainMessageOk(m) {
		return w, nil
	}
	if m.Kind == impl.MsGot {
		after := impl.Worker{Id: w.Id, Up: true}
		if w != (impl.Worker{Id: w.Id, Up: true, Task: m.Task, Try: m.Try, Result: w.Result}) || len(w.Result) == 0 {
			after = w
		}
		return after, nil
	}
	j, isJob := plainReadJob(m.Body)
	if m.Kind != impl.MsGive || len(w.Result) > 0 || !isJob {
		return w, nil
	}
	after := impl.Worker{Id: w.Id, Up: true, Task: m.Task, Try: m.Try, Result: plainResult(j)}
	return after, plainSaid(after)
}

func toldWorker(w impl.Worker) string {
	return fmt.Sprintf("%d %v %d %d %.200q", w.Id, w.Up, w.Task, w.Try, w.Result)
}

func toldMessages(messages []impl.Message) string {
	told := []string{}
	for _, m := range messages {
		told = append(told, toldMessage(m))
	}
	return "[" + strings.Join(told, "; ") + "]"
}

func give(worker int, task int, try int, body string) impl.Message {
	return impl.Message{Kind: impl.MsGive, Worker: worker, Task: task, Try: try, Body: body}
}

func got(worker int, task int, try int) impl.Message {
	return impl.Message{Kind: impl.MsGot, Worker: worker, Task: task, Try: try}
}

// workerIds may be in no message, most of them, and some are alike in their lowest byte.
func workerIds() []int {
	return []int{0, 1, 2, 3, 4, 5, -1, -2, 255, 256, 257, 258, -255, -256, 1 << 32, 1<<32 + 1, math.MinInt, math.MinInt + 1, math.MaxInt}
}

// drawnWorker may be one that no run would make.
func drawnWorker(r *rand.Rand) impl.Worker {
	w := impl.Worker{Id: 1 + r.IntN(3), Up: r.IntN(5) > 0}
	if r.IntN(6) == 0 {
		w.Id = oneOf(r, workerIds()...)
	}
	w.Task = oneOf(r, 0, 0, 1, 2, 20, 21, -1, 256, math.MinInt, math.MaxInt)
	w.Try = oneOf(r, 0, 0, 1, 2, impl.MaxNumber, impl.MaxNumber+1, -1, math.MinInt, math.MaxInt)
	w.Result = oneOf(r, "", "", "\x00\x00\x00", "\x00", "r", plainStoreText(drawnRightStore(r)), strings.Repeat("r", oneOf(r, 15000, 15001, 20001)))
	return w
}

func drawnJobBody(r *rand.Rand) string {
	lines := []string{}
	for range r.IntN(4) {
		lines = append(lines, drawnJobLine(r))
	}
	j := impl.Job{Code: drawnRightCode(r), Names: []string{drawnName(r), drawnName(r)}, Lines: lines}
	text := plainJobText(j)
	switch r.IntN(8) {
	case 0:
		return turnedText(r, text)
	case 1:
		return ""
	}
	return text
}

// drawnMessageTo is one that the worker may hear, more often than not.
func drawnMessageTo(r *rand.Rand, w impl.Worker) impl.Message {
	if r.IntN(6) == 0 {
		return drawnWrongMessage(r)
	}
	m := impl.Message{Kind: oneOf(r, impl.MsAsk, impl.MsGive, impl.MsGive, impl.MsGive, impl.MsTell, impl.MsGot, impl.MsGot), Worker: w.Id, Task: w.Task, Try: w.Try}
	if m.Kind == impl.MsGive || m.Kind == impl.MsTell {
		m.Body = drawnJobBody(r)
	}
	if r.IntN(8) == 0 {
		m.Worker = 1 + r.IntN(3)
	}
	if m.Kind == impl.MsGive || r.IntN(5) == 0 {
		m.Task = oneOf(r, 0, 1, 2, 20)
	}
	if m.Kind == impl.MsGive || r.IntN(5) == 0 {
		m.Try = oneOf(r, 0, 1, 2, impl.MaxNumber)
	}
	return m
}
