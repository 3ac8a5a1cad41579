package tests

import (
	"fmt"
	"math"
	"math/rand/v2"
	"slices"
	"strings"

	"loop.example/g00237/impl"
)

// What chapter 15 answers, told by what the tests tell of the chapters before.

// toldWorld tells all of a world, and takes an empty list and none for the same.
func toldWorld(w impl.World) string {
	told := []string{toldCoord(w.Coord), fmt.Sprint(len(w.Workers), len(w.Net), len(w.Codes))}
	for _, worker := range w.Workers {
		told = append(told, toldWorker(worker), worker.Result)
	}
	for _, text := range w.Net {
		told = append(told, toldNetText(text), text)
	}
	return strings.Join(append(told, fmt.Sprint(w.Codes)), "\n")
}

// toldNetText is short, and tells which message it is.
func toldNetText(text string) string {
	m, ok := plainReadMessage(text)
	return fmt.Sprintf("%v %s, of %d bytes", ok, toldMessage(m), len(text))
}

func copyOfWorld(w impl.World) impl.World {
	w.Coord, w.Workers, w.Net, w.Codes = copyOfCoord(w.Coord), slices.Clone(w.Workers), slices.Clone(w.Net), slices.Clone(w.Codes)
	return w
}

func plainEventOk(e impl.Event) bool {
	return slices.Contains([]int{1, 2, 3, 4, 5, 6, 7, 8}, e.Kind) && slices.Contains([]int{1, 2, 3}, e.Worker) && !(e.At < 0)
}

// plainSend puts on the Net what there are messages of.
func plainSend(w *impl.World, said []impl.Message) {
	for _, m := range said {
		if plainMessageOk(m) {
			w.Net = slices.Concat(w.Net, []string{plainMessageText(m)})
		}
	}
}

// plainBrought tells also whether it was taken.
func plainBrought(w *impl.World, text string) bool {
	m, ok := plainReadMessage(text)
	if !ok {
		return false
	}
	if m.Kind%2 == 1 {
		after, said := plainGathered(w.Coord, m)
		w.Coord = after
		plainSend(w, said)
		return true
	}
	for i, worker := range w.Workers {
		if worker.Id != m.Worker {
			continue
		}
		after, said := plainHeard(worker, m)
		w.Workers[i] = after
		plainSend(w, said)
		return len(said) > 0 || len(after.Result) < len(worker.Result)
	}
	return false
}

// plainOnNet is an event on what is on the Net, of which there is something.
func plainOnNet(w *impl.World, e impl.Event) bool {
	count := len(w.Net)
	place := e.At - e.At/count*count
	text := w.Net[place]
	ahead, behind := w.Net[:place:place], w.Net[place+1:]
	switch e.Kind {
	case 4:
		w.Net = slices.Concat(w.Net, []string{text})
	case 5:
		if _, ok := plainReadMessage(text); !ok {
			return false
		}
		turn := e.At - e.At/len(text)*len(text)
		w.Net = slices.Concat(ahead, []string{text[:turn] + string([]byte{text[turn] ^ 1}) + text[turn+1:]}, behind)
	default:
		w.Net = slices.Concat(ahead, behind)
	}
	return e.Kind != 2 || plainBrought(w, text)
}

// plainHappens tells whether an event comes to anything.
func plainHappens(w *impl.World, e impl.Event) bool {
	worker := &w.Workers[e.Worker-1]
	switch e.Kind {
	case 1:
		said := plainSaid(*worker)
		plainSend(w, said)
		return len(said) > 0
	case 6:
		w.Coord = plainTicked(w.Coord, e.At)
		return true
	case 7:
		*worker = impl.Worker{Id: worker.Id}
		return true
	case 8:
		wasUp := worker.Up
		if !wasUp {
			*worker = impl.Worker{Id: worker.Id, Up: true}
		}
		return !wasUp
	}
	return len(w.Net) > 0 && plainOnNet(w, e)
}

// plainBehind is a world behind an event more.
func plainBehind(w impl.World, e impl.Event) impl.World {
	w = copyOfWorld(w)
	if plainHappens(&w, e) {
		w.Codes = append(w.Codes, 0)
	} else {
		w.Codes = append(w.Codes, 1)
	}
	return w
}

func plainWorld(p impl.Program, text string, n int, events []impl.Event) (impl.World, bool) {
	c, ok := plainCoordNew(p, text, n)
	w := impl.World{Coord: c}
	for id := range 3 {
		w.Workers = append(w.Workers, impl.Worker{Id: id + 1, Up: true})
	}
	for _, e := range events {
		ok = ok && plainEventOk(e)
	}
	if !ok || len(events) >= 91 {
		return impl.World{}, false
	}
	for _, e := range events {
		w = plainBehind(w, e)
	}
	return w, true
}

// plainCalmed carries one after the other.
func plainCalmed(w impl.World, rounds int) impl.World {
	w = copyOfWorld(w)
	for round := 0; round < rounds && round < 60; round++ {
		w.Coord = plainTicked(w.Coord, 9)
		for i := range w.Workers {
			if !w.Workers[i].Up {
				w.Workers[i] = impl.Worker{Id: w.Workers[i].Id, Up: true}
			}
		}
		for _, worker := range w.Workers {
			plainSend(&w, plainSaid(worker))
		}
		for carried := 0; carried < 300 && len(w.Net) > 0; carried++ {
			text := w.Net[0]
			w.Net = w.Net[1:]
			plainBrought(&w, text)
		}
	}
	return w
}

func evWork(worker int) impl.Event { return impl.Event{Kind: impl.EvWork, Worker: worker} }

func evFall(worker int) impl.Event { return impl.Event{Kind: impl.EvFall, Worker: worker} }

func evRise(worker int) impl.Event { return impl.Event{Kind: impl.EvRise, Worker: worker} }

// evAt is an event of no worker in particular.
func evAt(kind int, at int) impl.Event { return impl.Event{Kind: kind, Worker: 1, At: at} }

func evCarry(at int) impl.Event { return evAt(impl.EvCarry, at) }

func evLose(at int) impl.Event { return evAt(impl.EvLose, at) }

func evTwice(at int) impl.Event { return evAt(impl.EvTwice, at) }

func evSpoil(at int) impl.Event { return evAt(impl.EvSpoil, at) }

func evTick(at int) impl.Event { return evAt(impl.EvTick, at) }

// drawnEvent works and carries more often than not, so that something comes of it.
func drawnEvent(r *rand.Rand) impl.Event {
	e := impl.Event{Kind: 1 + r.IntN(8), Worker: 1 + r.IntN(3), At: oneOf(r, 0, 0, r.IntN(5), r.IntN(200), math.MaxInt-r.IntN(50))}
	if r.IntN(3) > 0 {
		e.Kind = oneOf(r, impl.EvWork, impl.EvCarry, impl.EvCarry)
	}
	return e
}

func drawnEvents(r *rand.Rand, count int) []impl.Event {
	events := []impl.Event{}
	for range count {
		events = append(events, drawnEvent(r))
	}
	return events
}

// drawnLife may end within its events, or not.
func drawnLife(r *rand.Rand) (impl.Program, string, int, []impl.Event) {
	p, _ := impl.ReadProgram(oneOf(r, countingText, `{ n += $1; print $2, $0 } END { print n, NR }`, `BEGIN { c["k0"] = 5 } NF { c[$2] += $3; m += 1 } END { dump c; print m }`, `{ n += 1 } END { print n }`, `{ n = $1 }`))
	text := numbered(r.IntN(8))
	switch r.IntN(6) {
	case 0:
		p = countingProgram(r)
	case 1:
		p, text = runProgram(r), drawnLines(r)
	}
	return p, text, oneOf(r, 1, 1, 2, 3, 20, 0, -1), drawnEvents(r, oneOf(r, 0, 1, 20, 50, 89, 90))
}

// drawnNetText is of a message that may be heard, more often than not.
func drawnNetText(r *rand.Rand, w impl.World) string {
	m := drawnMessageToCoord(r, w.Coord)
	if len(w.Workers) > 0 && r.IntN(2) == 0 {
		m = drawnMessageTo(r, oneOf(r, w.Workers...))
	}
	if !plainMessageOk(m) {
		m = drawnMessage(r)
	}
	text := plainMessageText(m)
	switch r.IntN(10) {
	case 0:
		return turnedText(r, text)
	case 1:
		return oneOf(r, "", "\x00", "no message", strings.Repeat("n", 20005), text+"\x00", plainSealed(""), plainSealed("\x01"), plainSealed("\x01\x00\x00\x00"), plainSealed("\x01\x04\x00\x00"))
	}
	return text
}

// drawnWorld may be one that no life would make.
func drawnWorld(r *rand.Rand) impl.World {
	w := impl.World{Coord: drawnCoord(r)}
	for range oneOf(r, 0, 1, 3, 3, 3, 5) {
		w.Workers = append(w.Workers, drawnWorker(r))
	}
	for range oneOf(r, 0, 1, 5, 10, 30) {
		w.Net = append(w.Net, drawnNetText(r, w))
	}
	for range r.IntN(4) {
		w.Codes = append(w.Codes, oneOf(r, 0, 1, 2, -1, math.MinInt, math.MaxInt))
	}
	return w
}
