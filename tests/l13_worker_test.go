package tests

import (
	"fmt"
	"math"
	"math/rand/v2"
	"slices"
	"strings"
	"sync"
	"testing"

	"loop.example/g00237/impl"
)

// checkTick checks what a worker says by itself.
func checkTick(t *testing.T, w impl.Worker) []impl.Message {
	t.Helper()
	said := impl.TickWorker(w)
	if want := plainSaid(w); !slices.Equal(said, want) {
		t.Fatalf("TickWorker = %s; want %s, of %s", toldMessages(said), toldMessages(want), toldWorker(w))
	}
	return said
}

// checkHear checks what comes of a message, and answers the worker behind it.
func checkHear(t *testing.T, w impl.Worker, m impl.Message) (impl.Worker, []impl.Message) {
	t.Helper()
	after, said := impl.HearWorker(w, m)
	wantAfter, wantSaid := plainHeard(w, m)
	if after != wantAfter || !slices.Equal(said, wantSaid) {
		t.Fatalf("HearWorker = %s, %s; want %s, %s, of %s and %s", toldWorker(after), toldMessages(said), toldWorker(wantAfter), toldMessages(wantSaid), toldWorker(w), toldMessage(m))
	}
	checkTick(t, after)
	return after, said
}

// checkUnheard checks that a worker stays as it is, and says nothing.
func checkUnheard(t *testing.T, w impl.Worker, m impl.Message) {
	t.Helper()
	if after, said := checkHear(t, w, m); after != w || len(said) != 0 {
		t.Fatalf("HearWorker = %s, %s; want it as it is, of %s and %s", toldWorker(after), toldMessages(said), toldWorker(w), toldMessage(m))
	}
}

// checkTaken checks that a worker takes a job, says at once what it goes on to say, and answers it as it is then.
func checkTaken(t *testing.T, w impl.Worker, m impl.Message, result string) impl.Worker {
	t.Helper()
	after, said := checkHear(t, w, m)
	if want := (impl.Worker{Id: w.Id, Up: true, Task: m.Task, Try: m.Try, Result: result}); after != want {
		t.Fatalf("the worker is %s; want %s, of %s", toldWorker(after), toldWorker(want), toldMessage(m))
	}
	tell := impl.Message{Kind: impl.MsTell, Worker: w.Id, Task: m.Task, Try: m.Try, Body: result}
	if len(said) != 1 || said[0] != tell {
		t.Fatalf("it says %s; want %s", toldMessages(said), toldMessage(tell))
	}
	for range 3 {
		if again := checkTick(t, after); !slices.Equal(again, said) {
			t.Fatalf("it says %s; want %s again", toldMessages(again), toldMessages(said))
		}
	}
	return after
}

// checkFreed checks that a worker forgets its result when that is heard, says nothing at once, and asks from then on.
func checkFreed(t *testing.T, w impl.Worker) impl.Worker {
	t.Helper()
	after, said := checkHear(t, w, got(w.Id, w.Task, w.Try))
	if after != (impl.Worker{Id: w.Id, Up: true}) || len(said) != 0 {
		t.Fatalf("the worker is %s, and says %s", toldWorker(after), toldMessages(said))
	}
	ask := impl.Message{Kind: impl.MsAsk, Worker: w.Id}
	for range 2 {
		if said := checkTick(t, after); len(said) != 1 || said[0] != ask {
			t.Fatalf("it says %s; want %s", toldMessages(said), toldMessage(ask))
		}
	}
	return after
}

// checkFall checks a fallen worker, which hears and says nothing.
func checkFall(t *testing.T, w impl.Worker) impl.Worker {
	t.Helper()
	fallen := impl.FallWorker(w)
	if fallen != (impl.Worker{Id: w.Id}) {
		t.Fatalf("FallWorker = %s, of %s", toldWorker(fallen), toldWorker(w))
	}
	if said := checkTick(t, fallen); len(said) != 0 {
		t.Fatalf("fallen, it says %s", toldMessages(said))
	}
	return fallen
}

// countJob has a result that is not empty, and is another one with each n.
func countJob(t *testing.T, n int) impl.Job {
	t.Helper()
	return impl.Job{Code: mustCompile(t, "{ n += $1; print $2 }"), Begin: impl.Store{Vars: vars("m", "7", "n", "100"), Out: "begun\n"}, Names: []string{"n"}, Lines: []string{fmt.Sprintf("%d a", n), "1 b"}}
}

func TestWorkersByHand(t *testing.T) {
	// What BEGIN made counts once, and not in each part.
	body, ok := impl.JobText(countJob(t, 8))
	result := "\x01\x01n\x019\x00\x04a\nb\n"
	if !ok {
		t.Fatal("the job has no text")
	}
	w := impl.WorkerNew(2)
	if w != (impl.Worker{Id: 2, Up: true}) {
		t.Fatalf("WorkerNew = %s", toldWorker(w))
	}
	if said := impl.TickWorker(w); !slices.Equal(said, []impl.Message{{Kind: impl.MsAsk, Worker: 2}}) {
		t.Fatalf("it says %s", toldMessages(said))
	}
	tell := []impl.Message{{Kind: impl.MsTell, Worker: 2, Task: 7, Try: 300, Body: result}}
	w, said := impl.HearWorker(w, give(2, 7, 300, body))
	if w != (impl.Worker{Id: 2, Up: true, Task: 7, Try: 300, Result: result}) || !slices.Equal(said, tell) {
		t.Fatalf("the worker is %s, and says %s", toldWorker(w), toldMessages(said))
	}
	if said := impl.TickWorker(w); !slices.Equal(said, tell) {
		t.Fatalf("it says %s", toldMessages(said))
	}
	if fallen := impl.FallWorker(w); fallen != (impl.Worker{Id: 2}) || len(impl.TickWorker(fallen)) != 0 {
		t.Fatalf("fallen it is %s", toldWorker(fallen))
	}
	w, said = impl.HearWorker(w, got(2, 7, 300))
	if w != (impl.Worker{Id: 2, Up: true}) || len(said) != 0 {
		t.Fatalf("the worker is %s, and says %s", toldWorker(w), toldMessages(said))
	}
	if said := impl.TickWorker(w); !slices.Equal(said, []impl.Message{{Kind: impl.MsAsk, Worker: 2}}) {
		t.Fatalf("it says %s", toldMessages(said))
	}
}

// othersThanGot are right and wrong messages behind which a worker with a result goes on telling it.
func othersThanGot(t *testing.T, r *rand.Rand, w impl.Worker) []impl.Message {
	t.Helper()
	body := plainJobText(countJob(t, 3))
	other := w.Id%3 + 1
	otherTask, otherTry := (w.Task+1)%21, (w.Try+1)%impl.MaxNumber
	messages := []impl.Message{
		give(w.Id, w.Task, w.Try, body), give(w.Id, otherTask, w.Try, body), give(w.Id, w.Task, otherTry, body), give(w.Id, w.Task, w.Try, ""), give(other, w.Task, w.Try, body),
		got(w.Id, otherTask, w.Try), got(w.Id, w.Task, otherTry), got(w.Id, otherTask, otherTry), got(other, w.Task, w.Try),
		{Kind: impl.MsAsk, Worker: w.Id, Task: w.Task, Try: w.Try}, {Kind: impl.MsTell, Worker: w.Id, Task: w.Task, Try: w.Try, Body: w.Result}, {Kind: impl.MsTell, Worker: w.Id, Task: w.Task, Try: w.Try},
		{Kind: impl.MsGot, Worker: w.Id, Task: w.Task, Try: w.Try, Body: "b"}, {Kind: impl.MsGot, Worker: w.Id, Task: w.Task, Try: w.Try, Body: w.Result}, {}, {Kind: 5, Worker: w.Id, Task: w.Task, Try: w.Try}, {Kind: -4, Worker: w.Id, Task: w.Task, Try: w.Try},
	}
	r.Shuffle(len(messages), func(i int, j int) { messages[i], messages[j] = messages[j], messages[i] })
	return messages
}

func TestWorkersTellTillTheyAreHeard(t *testing.T) {
	taken := 0
	for k := range uint64(400) {
		r := rand.New(rand.NewPCG(137, k))
		j := drawnJob(r)
		if int(k) < len(someJobs(t)) {
			j = someJobs(t)[k]
		}
		body := plainJobText(j)
		w := impl.WorkerNew(1 + r.IntN(3))
		m := give(w.Id, r.IntN(21), oneOf(r, 0, 1, 2, 300, impl.MaxNumber, r.IntN(impl.MaxNumber)), body)
		if len(body) > 15000 {
			checkUnheard(t, w, m)
			continue
		}
		result, ok := impl.StoreText(impl.DeltaOf(j.Code, j.Begin, j.Names, j.Lines))
		if !ok || result != plainResult(j) {
			t.Fatalf("the delta has the text %.200q, %v; want %.200q", result, ok, plainResult(j))
		}
		w = checkTaken(t, w, m, result)
		for _, other := range othersThanGot(t, r, w) {
			checkUnheard(t, w, other)
		}
		checkFall(t, w)
		checkFreed(t, w)
		taken++
	}
	if taken < 250 {
		t.Errorf("only %d jobs were taken", taken)
	}
}

func TestJobsOfWhichNothingComes(t *testing.T) {
	full := impl.Store{Vars: vars("m", "7", "n", "100"), Cells: cells("n", "k", "1", "o", "k", "2"), Out: "begun\n"}
	jobs := []impl.Job{
		{}, {Begin: full}, {Begin: full, Names: []string{"m", "n", "o"}}, {Names: []string{"n"}, Lines: []string{"a", "", "b"}},
		{Code: mustCompile(t, "{ n += 1; print n }"), Begin: full, Names: []string{"n"}},
		{Code: mustCompile(t, "{ n += 1 }"), Begin: full, Names: []string{"o", "x"}, Lines: []string{"a", "b"}},
		{Code: mustCompile(t, "{ n += 1 }"), Begin: full, Lines: []string{"a", "b"}},
		{Code: mustCompile(t, "BEGIN { n = 1; print 1 } END { n = 2; print 2 }"), Begin: full, Names: []string{"n"}, Lines: []string{"a", "b"}},
		{Code: mustCompile(t, "{ next; n += 1; print n }"), Begin: full, Names: []string{"n"}, Lines: []string{"a", "b"}},
		{Code: mustCompile(t, "$1 ~ /x/ { n += 1; print n }"), Begin: full, Names: []string{"n"}, Lines: []string{"a", "b"}},
	}
	for _, j := range jobs {
		for _, id := range []int{1, 2, 3} {
			w := checkTaken(t, impl.WorkerNew(id), give(id, 4, 5, plainJobText(j)), "\x00\x00\x00")
			// It has a result: another job is for later.
			checkUnheard(t, w, give(id, 6, 7, plainJobText(countJob(t, 1))))
			checkFreed(t, w)
		}
	}
}

// longJob makes a cell of each of some 16 keys in each of so many lines.
func longJob(t *testing.T, lines int) impl.Job {
	t.Helper()
	program := ""
	for i := range 16 {
		program += fmt.Sprintf("c[%d .$%d]=$1;", i+1, i%5+1)
	}
	j := impl.Job{Code: mustCompile(t, "{"+program+"}"), Names: []string{"c"}}
	for i := range lines {
		fields := []string{}
		for range 5 {
			fields = append(fields, strings.Repeat(string(rune('a'+i)), 38))
		}
		j.Lines = append(j.Lines, strings.Join(fields, " "))
	}
	return j
}

// A result may be longer than a message may be: it is told as the words say, though no message has it.
func TestResultsThatAreTooLong(t *testing.T) {
	long, short := 0, 0
	for lines := range 21 {
		j := longJob(t, lines)
		result := plainResult(j)
		m := give(3, 20, impl.MaxNumber, plainJobText(j))
		w := checkTaken(t, impl.WorkerNew(3), m, result)
		if isRight := impl.MessageOk(impl.TickWorker(w)[0]); isRight != (len(result) <= 15000) {
			t.Errorf("what it says of a result of %d bytes is right: %v", len(result), isRight)
		}
		if len(result) > 15000 {
			long++
		} else {
			short++
		}
		checkFreed(t, w)
	}
	if long < 5 || short < 5 || len(plainResult(longJob(t, 20))) <= 20000 {
		t.Errorf("%d results are too long, %d are not", long, short)
	}
}

func TestNewWorkers(t *testing.T) {
	for _, id := range workerIds() {
		w := impl.WorkerNew(id)
		if w != (impl.Worker{Id: id, Up: true}) {
			t.Errorf("WorkerNew(%d) = %s", id, toldWorker(w))
		}
		if said := checkTick(t, w); len(said) != 1 || said[0] != (impl.Message{Kind: impl.MsAsk, Worker: id}) {
			t.Errorf("worker %d says %s", id, toldMessages(said))
		}
	}
}

func TestWhatWorkersSay(t *testing.T) {
	for _, id := range workerIds() {
		for _, task := range []int{0, 1, 20, 21, -1, math.MinInt, math.MaxInt} {
			for _, try := range []int{0, 1, impl.MaxNumber, impl.MaxNumber + 1, -1, math.MinInt, math.MaxInt} {
				for _, result := range []string{"", "\x00\x00\x00", "\x00", "r", " ", plainStoreText(impl.Store{Vars: vars("n", "1")}), strings.Repeat("r", 15001)} {
					w := impl.Worker{Id: id, Up: true, Task: task, Try: try, Result: result}
					want := impl.Message{Kind: impl.MsTell, Worker: id, Task: task, Try: try, Body: result}
					if result == "" {
						want = impl.Message{Kind: impl.MsAsk, Worker: id}
					}
					if said := checkTick(t, w); len(said) != 1 || said[0] != want {
						t.Fatalf("it says %s; want %s", toldMessages(said), toldMessage(want))
					}
					w.Up = false
					if said := checkTick(t, w); len(said) != 0 {
						t.Fatalf("it is not up, and says %s", toldMessages(said))
					}
				}
			}
		}
	}
}

// rightMessages are of every kind, to each worker, of this task and try.
func rightMessages(t *testing.T, task int, try int) []impl.Message {
	t.Helper()
	messages := []impl.Message{}
	for id := 1; id <= 3; id++ {
		for kind := impl.MsAsk; kind <= impl.MsGot; kind++ {
			m := impl.Message{Kind: kind, Worker: id, Task: task, Try: try}
			messages = append(messages, m)
			if kind == impl.MsGive || kind == impl.MsTell {
				m.Body = plainJobText(countJob(t, 5))
				messages = append(messages, m)
				m.Body = plainResult(countJob(t, 5))
				messages = append(messages, m)
			}
		}
	}
	for _, m := range messages {
		checkMessage(t, m, true)
	}
	return messages
}

func TestWorkersThatAreNotUpHearNothing(t *testing.T) {
	for _, m := range rightMessages(t, 4, 6) {
		for _, result := range []string{"", "\x00\x00\x00", "r"} {
			w := impl.Worker{Id: m.Worker, Task: 4, Try: 6, Result: result}
			checkUnheard(t, w, m)
			checkUnheard(t, checkFall(t, w), m)
			checkUnheard(t, impl.Worker{}, m)
		}
	}
}

func TestWhatWorkersDoNotHear(t *testing.T) {
	body := plainJobText(countJob(t, 5))
	for _, m := range rightMessages(t, 4, 6) {
		for id := 1; id <= 3; id++ {
			idle := impl.WorkerNew(id)
			busy := impl.Worker{Id: id, Up: true, Task: 4, Try: 6, Result: "\x00\x00\x00"}
			isFor := m.Worker == id
			if !isFor || m.Kind != impl.MsGive || m.Body != body {
				checkUnheard(t, idle, m)
			}
			if !isFor || m.Kind != impl.MsGot {
				checkUnheard(t, busy, m)
			}
		}
	}
}

// spoiltMessages are the message, each field of it by itself as no right message has it.
func spoiltMessages(m impl.Message) []impl.Message {
	messages := []impl.Message{}
	with := func(change func(*impl.Message)) {
		spoilt := m
		change(&spoilt)
		messages = append(messages, spoilt)
	}
	for _, kind := range []int{0, 5, -1, -m.Kind, m.Kind + 256, m.Kind - 256, m.Kind + 1<<32, math.MinInt, math.MaxInt} {
		with(func(s *impl.Message) { s.Kind = kind })
	}
	for _, worker := range []int{0, 4, -1, -m.Worker, m.Worker + 256, m.Worker - 256, m.Worker + 1<<32, math.MinInt, math.MaxInt} {
		with(func(s *impl.Message) { s.Worker = worker })
	}
	for _, task := range []int{21, -1, m.Task + 256, m.Task - 256, m.Task + 1<<32, math.MinInt, math.MaxInt} {
		with(func(s *impl.Message) { s.Task = task })
	}
	for _, try := range []int{impl.MaxNumber + 1, -1, m.Try + 1<<32, m.Try - 1<<32, math.MinInt, math.MaxInt} {
		with(func(s *impl.Message) { s.Try = try })
	}
	return messages
}

func TestWorkersDoNotHearWhatIsNotRight(t *testing.T) {
	body := plainJobText(countJob(t, 5))
	for _, m := range []impl.Message{give(2, 4, 6, body), got(2, 4, 6)} {
		idle, busy := impl.WorkerNew(2), impl.Worker{Id: 2, Up: true, Task: 4, Try: 6, Result: "r"}
		for _, spoilt := range spoiltMessages(m) {
			checkMessage(t, spoilt, false)
			checkUnheard(t, idle, spoilt)
			checkUnheard(t, busy, spoilt)
			// One to whom it would be, and who would have its Task and its Try.
			checkUnheard(t, impl.WorkerNew(spoilt.Worker), spoilt)
			checkUnheard(t, impl.Worker{Id: spoilt.Worker, Up: true, Task: spoilt.Task, Try: spoilt.Try}, spoilt)
			checkUnheard(t, impl.Worker{Id: spoilt.Worker, Up: true, Task: spoilt.Task, Try: spoilt.Try, Result: "r"}, spoilt)
		}
	}
	busy := impl.Worker{Id: 2, Up: true, Task: 4, Try: 6, Result: "r"}
	for _, body := range []string{"\x00", "b", "r", body} {
		checkUnheard(t, busy, impl.Message{Kind: impl.MsGot, Worker: 2, Task: 4, Try: 6, Body: body})
	}
}

// sizedJob has a text of so many bytes.
func sizedJob(t *testing.T, size int) impl.Job {
	t.Helper()
	j := countJob(t, 5)
	j.Begin = sizedStore(t, 12000)
	for len(plainJobText(j)) < size-400 {
		j.Lines = append(j.Lines, strings.Repeat("l", 200))
	}
	// A line of more than 127 bytes has two bytes ahead of it, one with fewer has one.
	j.Lines = append(j.Lines, strings.Repeat("l", 150))
	j.Lines = append(j.Lines, strings.Repeat("l", size-len(plainJobText(j))-1))
	if len(plainJobText(j)) > size {
		last := len(j.Lines) - 1
		j.Lines[last] = j.Lines[last][1:]
	}
	if !plainJobOk(j) || len(plainJobText(j)) != size {
		t.Fatalf("it has %d bytes", len(plainJobText(j)))
	}
	return j
}

// A job may be longer than a message may be.
func TestBodiesAtTheirLimit(t *testing.T) {
	for _, size := range []int{14999, 15000, 15001, 15002} {
		j := sizedJob(t, size)
		m := give(1, 2, 3, plainJobText(j))
		if _, ok := impl.ReadJob(m.Body); !ok {
			t.Fatalf("a job of %d bytes does not come back", size)
		}
		if size > 15000 {
			checkUnheard(t, impl.WorkerNew(1), m)
		} else {
			checkTaken(t, impl.WorkerNew(1), m, plainResult(j))
		}
	}
}

func TestBodiesThatAreNoJobs(t *testing.T) {
	whole := plainJobText(countJob(t, 5))
	// No other job was there, and one was and is gone.
	workers := []impl.Worker{impl.WorkerNew(1), {Id: 1, Up: true, Task: 4, Try: 6}}
	check := func(body string) {
		t.Helper()
		for _, w := range workers {
			checkUnheard(t, w, give(1, 2, 3, body))
			checkUnheard(t, w, give(1, 4, 6, body))
		}
	}
	for size := range len(whole) {
		check(whole[:size])
		check(whole[size+1:])
	}
	for b := range 256 {
		check(whole + string([]byte{byte(b)}))
	}
	check(whole + whole)
	check(strings.Repeat("\x00", 15000))
	check(plainResult(countJob(t, 5)))
	check(plainMessageText(give(1, 2, 3, whole)))
	check(plainSealed(whole))
	code, begin := plainCodeText(countJob(t, 5).Code), plainStoreText(impl.Store{})
	check(jobTextOf(code, begin, slices.Repeat([]string{"n"}, 21), nil))
	check(jobTextOf(code, begin, []string{"n1"}, nil))
	check(jobTextOf(code, begin, []string{""}, nil))
	check(jobTextOf(code, begin, nil, make([]string, 21)))
	check(jobTextOf(code, begin, nil, []string{strings.Repeat("l", 201)}))
	check(jobTextOf("", begin, nil, nil))
	check(jobTextOf(code, "", nil, nil))
	check(jobTextOf(plainCodeText(impl.Code{End: 1}), begin, nil, nil))
	check(jobTextOf(code, plainStoreText(impl.Store{Vars: vars("b", "1", "a", "2")}), nil, nil))
	check(jobTextOf(code, plainStoreText(impl.Store{Out: strings.Repeat("o", 3001)}), nil, nil))
	checkTaken(t, workers[1], give(1, 2, 3, whole), plainResult(countJob(t, 5)))
}

// With one byte turned a body may be of another job: then it is that one's delta that is told.
func TestBodiesWithOneByteTurned(t *testing.T) {
	taken, refused := 0, 0
	whole := plainJobText(countJob(t, 5))
	for place := range len(whole) {
		for b := range 256 {
			body := whole[:place] + string([]byte{byte(b)}) + whole[place+1:]
			m := give(3, 0, 1, body)
			if j, ok := plainReadJob(body); ok {
				checkTaken(t, impl.WorkerNew(3), m, plainResult(j))
				taken++
			} else {
				checkUnheard(t, impl.WorkerNew(3), m)
				refused++
			}
		}
	}
	if taken < 1000 || refused < 5000 {
		t.Errorf("%d are taken, %d are refused", taken, refused)
	}
}

func TestTasksAndTriesAtTheirLimits(t *testing.T) {
	j := countJob(t, 5)
	for _, task := range []int{0, 1, 19, 20} {
		for _, try := range []int{0, 1, 2, 127, 128, impl.MaxNumber - 1, impl.MaxNumber} {
			w := checkTaken(t, impl.WorkerNew(2), give(2, task, try, plainJobText(j)), plainResult(j))
			for _, otherTask := range []int{0, 1, 19, 20, 21, -1} {
				for _, otherTry := range []int{0, 1, 2, 127, 128, impl.MaxNumber - 1, impl.MaxNumber, impl.MaxNumber + 1, -1} {
					if otherTask != task || otherTry != try {
						checkUnheard(t, w, got(2, otherTask, otherTry))
					}
				}
			}
			checkFreed(t, w)
		}
	}
	for _, task := range []int{-1, 21} {
		checkUnheard(t, impl.WorkerNew(2), give(2, task, 1, plainJobText(j)))
	}
	for _, try := range []int{-1, impl.MaxNumber + 1} {
		checkUnheard(t, impl.WorkerNew(2), give(2, 1, try, plainJobText(j)))
	}
}

func TestGivenTwice(t *testing.T) {
	first, second := countJob(t, 5), countJob(t, 50)
	w := checkTaken(t, impl.WorkerNew(1), give(1, 2, 3, plainJobText(first)), plainResult(first))
	checkUnheard(t, w, give(1, 2, 3, plainJobText(first)))
	checkUnheard(t, w, give(1, 2, 4, plainJobText(first)))
	checkUnheard(t, w, give(1, 2, 3, plainJobText(second)))
	checkUnheard(t, w, give(1, 3, 4, plainJobText(second)))
	free := checkFreed(t, w)
	// Told late, it is a job as any other.
	w = checkTaken(t, free, give(1, 2, 3, plainJobText(first)), plainResult(first))
	checkUnheard(t, checkFreed(t, w), got(1, 2, 3))
}

func TestGotTwiceOrAhead(t *testing.T) {
	first, second := countJob(t, 5), countJob(t, 50)
	w := impl.WorkerNew(1)
	checkUnheard(t, w, got(1, 0, 0))
	checkUnheard(t, w, got(1, 2, 3))
	w = checkTaken(t, w, give(1, 2, 3, plainJobText(first)), plainResult(first))
	w = checkFreed(t, w)
	checkUnheard(t, w, got(1, 2, 3))
	// The second job is not done with when the first one is heard once more.
	w = checkTaken(t, w, give(1, 3, 4, plainJobText(second)), plainResult(second))
	checkUnheard(t, w, got(1, 2, 3))
	checkUnheard(t, w, got(1, 3, 3))
	checkUnheard(t, w, got(1, 2, 4))
	w = checkFreed(t, w)
	checkUnheard(t, w, got(1, 3, 4))
	// The same one of another try.
	w = checkTaken(t, w, give(1, 3, 5, plainJobText(second)), plainResult(second))
	checkUnheard(t, w, got(1, 3, 4))
	checkFreed(t, w)
}

func TestWorkersThatNoRunWouldMake(t *testing.T) {
	j := countJob(t, 5)
	// A Task and a Try without a Result are none.
	for _, task := range []int{0, 2, 20, 21, -1, math.MinInt, math.MaxInt} {
		for _, try := range []int{0, 3, impl.MaxNumber, -1, math.MinInt, math.MaxInt} {
			w := impl.Worker{Id: 1, Up: true, Task: task, Try: try}
			checkUnheard(t, w, got(1, task, try))
			checkUnheard(t, w, got(1, 2, 3))
			checkFreed(t, checkTaken(t, w, give(1, 2, 3, plainJobText(j)), plainResult(j)))
			checkFall(t, w)
			w.Result = "no store"
			checkUnheard(t, w, give(1, 2, 3, plainJobText(j)))
			if task >= 0 && task <= 20 && try >= 0 && try <= impl.MaxNumber {
				checkFreed(t, w)
			} else {
				// No message is of its Task and Try.
				checkUnheard(t, w, got(1, task, try))
			}
			checkFall(t, w)
		}
	}
	for _, result := range []string{"\x00", "r", "\x00\x00\x00", "\x00\x00\x00\x00", strings.Repeat("r", 15001), strings.Repeat("r", 100000)} {
		w := impl.Worker{Id: 3, Up: true, Task: 2, Try: 3, Result: result}
		checkUnheard(t, w, give(3, 2, 3, plainJobText(j)))
		checkFreed(t, w)
	}
	// No message is to these.
	for _, id := range workerIds() {
		if id >= 1 && id <= 3 {
			continue
		}
		for _, result := range []string{"", "r"} {
			w := impl.Worker{Id: id, Up: true, Task: 2, Try: 3, Result: result}
			for to := -1; to <= 5; to++ {
				checkUnheard(t, w, give(to, 2, 3, plainJobText(j)))
				checkUnheard(t, w, got(to, 2, 3))
			}
			checkUnheard(t, w, give(id, 2, 3, plainJobText(j)))
			checkUnheard(t, w, got(id, 2, 3))
			checkFall(t, w)
		}
	}
}

func TestFallenWorkers(t *testing.T) {
	j := countJob(t, 5)
	for _, id := range workerIds() {
		for _, w := range []impl.Worker{
			impl.WorkerNew(id), {Id: id}, {Id: id, Up: true, Task: 2, Try: 3, Result: "r"}, {Id: id, Task: 2, Try: 3, Result: "r"},
			{Id: id, Up: true, Task: 2}, {Id: id, Up: true, Try: 3}, {Id: id, Up: true, Task: -2, Try: math.MinInt, Result: strings.Repeat("r", 15001)},
		} {
			fallen := checkFall(t, w)
			for _, m := range rightMessages(t, w.Task&15, w.Try&15) {
				checkUnheard(t, fallen, m)
			}
			if again := checkFall(t, fallen); again != fallen {
				t.Fatalf("fallen twice, it is %s", toldWorker(again))
			}
		}
	}
	// Risen, it begins anew.
	w := checkTaken(t, impl.WorkerNew(2), give(2, 4, 6, plainJobText(j)), plainResult(j))
	w = impl.WorkerNew(checkFall(t, w).Id)
	checkUnheard(t, w, got(2, 4, 6))
	checkFreed(t, checkTaken(t, w, give(2, 4, 6, plainJobText(j)), plainResult(j)))
}

func TestDrawnWorkers(t *testing.T) {
	taken, freed, unheard := 0, 0, 0
	for k := range uint64(6000) {
		r := rand.New(rand.NewPCG(138, k))
		w := drawnWorker(r)
		checkTick(t, w)
		checkFall(t, w)
		after, said := checkHear(t, w, drawnMessageTo(r, w))
		switch {
		case len(said) > 0:
			taken++
		case after != w:
			freed++
		default:
			unheard++
		}
	}
	if taken < 200 || freed < 100 || unheard < 1000 {
		t.Errorf("%d took a job, %d were heard, %d did not hear", taken, freed, unheard)
	}
}

// In a drawn life a worker that has taken a job tells it till it is heard, or falls, whatever it is told.
func TestDrawnLivesOfAWorker(t *testing.T) {
	taken, freed, fallen := 0, 0, 0
	for k := range uint64(150) {
		r := rand.New(rand.NewPCG(139, k))
		w := impl.WorkerNew(1 + r.IntN(3))
		ask := []impl.Message{{Kind: impl.MsAsk, Worker: w.Id}}
		tells := ask
		for range 60 {
			switch r.IntN(30) {
			case 0:
				w, tells = checkFall(t, w), nil
				fallen++
			case 1:
				w, tells = impl.WorkerNew(w.Id), ask
			default:
				m := drawnMessageTo(r, w)
				after, said := checkHear(t, w, m)
				isHeard := m == got(w.Id, w.Task, w.Try) && w.Up && w.Result != ""
				switch {
				case len(said) > 0:
					j, _ := impl.ReadJob(m.Body)
					delta, _ := impl.StoreText(impl.DeltaOf(j.Code, j.Begin, j.Names, j.Lines))
					tells = []impl.Message{{Kind: impl.MsTell, Worker: w.Id, Task: m.Task, Try: m.Try, Body: delta}}
					taken++
				case isHeard:
					tells = ask
					freed++
				}
				w = after
			}
			if said := impl.TickWorker(w); !slices.Equal(said, tells) {
				t.Fatalf("it says %s; want %s", toldMessages(said), toldMessages(tells))
			}
		}
	}
	if taken < 300 || freed < 200 || fallen < 50 {
		t.Errorf("%d jobs were taken, %d were heard, %d times one fell", taken, freed, fallen)
	}
}

func TestWhatWorkersAnswerIsNew(t *testing.T) {
	for k := range uint64(1500) {
		r := rand.New(rand.NewPCG(140, k))
		w := drawnWorker(r)
		m := drawnMessageTo(r, w)
		w.Result, m.Body = strings.Clone(w.Result), strings.Clone(m.Body)
		was := toldWorker(w) + toldMessage(m)
		handedIn := []string{w.Result, m.Body}
		after, said := impl.HearWorker(w, m)
		ticked := impl.TickWorker(w)
		fallen := impl.FallWorker(w)
		answer := []string{after.Result, fallen.Result}
		for _, one := range slices.Concat(said, ticked) {
			answer = append(answer, one.Body)
		}
		checkNew(t, "a worker", answer, handedIn)
		told := toldWorker(after) + toldMessages(said) + toldMessages(ticked)
		for range 2 {
			otherAfter, otherSaid := impl.HearWorker(w, m)
			for _, list := range [][]impl.Message{otherSaid, impl.TickWorker(w), impl.TickWorker(otherAfter)} {
				for i := range list[:cap(list)] {
					list[:cap(list)][i] = impl.Message{Kind: -7, Body: "spoilt"}
				}
			}
		}
		againAfter, againSaid := impl.HearWorker(w, m)
		if toldWorker(w)+toldMessage(m) != was || toldWorker(after)+toldMessages(said)+toldMessages(ticked) != told || toldWorker(againAfter)+toldMessages(againSaid)+toldMessages(impl.TickWorker(w)) != told {
			t.Fatal("an argument or an answer is not as it was")
		}
	}
}

func TestWorkersOfNilAndEmptyLists(t *testing.T) {
	for _, j := range []impl.Job{
		{}, {Names: []string{}}, {Lines: []string{}}, {Code: impl.Code{Texts: []string{}, List: []impl.Instr{}}}, {Begin: impl.Store{Vars: []impl.Var{}, Cells: []impl.Cell{}}},
		{Names: make([]string, 0, 5), Lines: make([]string, 0, 5)},
	} {
		body, ok := impl.JobText(j)
		if !ok {
			t.Fatal("the job has no text")
		}
		checkTaken(t, impl.WorkerNew(1), give(1, 0, 0, body), "\x00\x00\x00")
	}
	// Saying nothing is a list of nothing.
	if _, said := impl.HearWorker(impl.Worker{}, impl.Message{}); len(said) != 0 || len(impl.TickWorker(impl.Worker{})) != 0 || impl.FallWorker(impl.Worker{}) != (impl.Worker{}) {
		t.Error("a worker of nothing says something")
	}
}

// One worker that is handed in by many at once answers each of them the same.
func TestWorkersAtOnce(t *testing.T) {
	j := countJob(t, 5)
	m := give(1, 2, 3, plainJobText(j))
	busy := impl.Worker{Id: 1, Up: true, Task: 2, Try: 3, Result: plainResult(j)}
	wrong := make([]string, 8)
	var all sync.WaitGroup
	for i := range wrong {
		all.Go(func() {
			for range 200 {
				after, said := impl.HearWorker(impl.WorkerNew(1), m)
				free, none := impl.HearWorker(busy, got(1, 2, 3))
				if after != busy || !slices.Equal(said, impl.TickWorker(busy)) || free != impl.WorkerNew(1) || len(none) != 0 || impl.FallWorker(busy) != (impl.Worker{Id: 1}) {
					wrong[i] = toldWorker(after) + toldMessages(said) + toldWorker(free) + toldMessages(none)
				}
			}
		})
	}
	inGoodTime(t, all.Wait)
	for _, told := range wrong {
		if told != "" {
			t.Errorf("a worker answers %s", told)
		}
	}
}

func TestWorkersDoNotHangOnEarlierOnes(t *testing.T) {
	j := countJob(t, 5)
	tell := func() string {
		w, said := impl.HearWorker(impl.WorkerNew(1), give(1, 2, 3, plainJobText(j)))
		free, none := impl.HearWorker(w, got(1, 2, 3))
		return toldWorker(w) + toldMessages(said) + toldMessages(impl.TickWorker(w)) + toldWorker(free) + toldMessages(none) + toldMessages(impl.TickWorker(free)) + toldWorker(impl.FallWorker(w))
	}
	first := tell()
	for k := range uint64(200) {
		r := rand.New(rand.NewPCG(141, k))
		w := drawnWorker(r)
		checkHear(t, w, drawnMessageTo(r, w))
		checkFall(t, w)
		if tell() != first {
			t.Fatal("an answer hangs on earlier ones")
		}
	}
}
