package tests

import (
	"fmt"
	"math"
	"math/rand/v2"
	"slices"
	"strings"

	"loop.example/g00237/impl"
)

// What chapter 12 answers, told in another way than the program goes: bytes are put behind one another whatever they are of, and a text is one of a store, a job or a message when what can be made of it at all is right, and has just that text.

func plainShort(out []byte, s string) []byte {
	return append(plainVar(out, len(s)), s...)
}

func plainList(out []byte, list []string) []byte {
	out = plainVar(out, len(list))
	for _, s := range list {
		out = plainShort(out, s)
	}
	return out
}

// plainStoreText is the form of any store.
func plainStoreText(s impl.Store) string {
	out := plainVar(nil, len(s.Vars))
	for _, v := range s.Vars {
		out = plainShort(plainShort(out, v.Name), v.Val)
	}
	out = plainVar(out, len(s.Cells))
	for _, c := range s.Cells {
		out = plainShort(plainShort(plainShort(out, c.Name), c.Key), c.Val)
	}
	return string(plainShort(out, s.Out))
}

func (l *looseReader) text() string {
	return string(l.bytes(l.number()))
}

func (l *looseReader) list() []string {
	list := []string{}
	for count := l.number(); count > 0 && !l.short; count-- {
		list = append(list, l.text())
	}
	return list
}

func (l *looseReader) isDone() bool {
	return !l.short && len(l.left) == 0
}

func plainReadStore(t string) (impl.Store, bool) {
	l, s := &looseReader{left: []byte(t)}, impl.Store{}
	for count := l.number(); count > 0 && !l.short; count-- {
		s.Vars = append(s.Vars, impl.Var{Name: l.text(), Val: l.text()})
	}
	for count := l.number(); count > 0 && !l.short; count-- {
		s.Cells = append(s.Cells, impl.Cell{Name: l.text(), Key: l.text(), Val: l.text()})
	}
	s.Out = l.text()
	if !l.isDone() || !plainStoreOk(s) || plainStoreText(s) != t {
		return impl.Store{}, false
	}
	return s, true
}

func plainJobOk(j impl.Job) bool {
	wrongName := func(name string) bool { return !aStoreName.MatchString(name) }
	tooLong := func(line string) bool { return len(line) > 200 }
	return plainCodeOk(j.Code) && plainStoreOk(j.Begin) && len(j.Names) <= 20 && len(j.Lines) <= 20 && !slices.ContainsFunc(j.Names, wrongName) && !slices.ContainsFunc(j.Lines, tooLong)
}

// jobTextOf is the form of a job of any texts of its code and its store.
func jobTextOf(code string, begin string, names []string, lines []string) string {
	return string(plainList(plainList(plainShort(plainShort(nil, code), begin), names), lines))
}

func plainJobText(j impl.Job) string {
	return jobTextOf(plainCodeText(j.Code), plainStoreText(j.Begin), j.Names, j.Lines)
}

// plainHasText tells whether a right job has a text: its store's is a short one.
func plainHasText(j impl.Job) bool {
	return plainJobOk(j) && len(plainStoreText(j.Begin)) <= 20000
}

func plainReadJob(t string) (impl.Job, bool) {
	l := &looseReader{left: []byte(t)}
	c, codeOk := plainReadCode(l.text())
	s, storeOk := plainReadStore(l.text())
	j := impl.Job{Code: c, Begin: s, Names: l.list(), Lines: l.list()}
	if !l.isDone() || !codeOk || !storeOk || !plainHasText(j) || plainJobText(j) != t {
		return impl.Job{}, false
	}
	return j, true
}

func plainMessageOk(m impl.Message) bool {
	hasBody := m.Kind == impl.MsGive || m.Kind == impl.MsTell
	isKind := hasBody || m.Kind == impl.MsAsk || m.Kind == impl.MsGot
	return isKind && slices.Contains([]int{1, 2, 3}, m.Worker) && m.Task >= 0 && m.Task < 21 && m.Try >= 0 && m.Try <= 1000000000 && len(m.Body) < 15001 && (hasBody || len(m.Body) == 0)
}

// plainSealed goes on where the sum of a text's beginning stopped, bit by bit.
func plainSealed(text string) string {
	sum := plainSum(math.MaxUint32, text)
	return text + string([]byte{byte(sum >> 24), byte(sum >> 16), byte(sum >> 8), byte(sum)})
}

// headOf is what stands ahead of a message's body, of any numbers that are not below 0.
func headOf(m impl.Message) string {
	return string(plainVar(plainVar([]byte{byte(m.Kind), byte(m.Worker)}, m.Task), m.Try))
}

func plainMessageText(m impl.Message) string {
	return plainSealed(headOf(m) + m.Body)
}

func plainReadMessage(t string) (impl.Message, bool) {
	if len(t) < 4 || plainSealed(t[:len(t)-4]) != t {
		return impl.Message{}, false
	}
	l := &looseReader{left: []byte(t[:len(t)-4])}
	two := l.bytes(2)
	m := impl.Message{Kind: int(two[0]), Worker: int(two[1]), Task: l.number(), Try: l.number()}
	m.Body = string(l.left)
	if l.short || !plainMessageOk(m) || plainMessageText(m) != t {
		return impl.Message{}, false
	}
	return m, true
}

// toldJob tells all of a job, and takes an empty list and none for the same.
func toldJob(j impl.Job) string {
	return toldCode(j.Code) + toldStore(j.Begin) + fmt.Sprintf("%q %q", j.Names, j.Lines)
}

func toldMessage(m impl.Message) string {
	return fmt.Sprintf("%d %d %d %d %.200q", m.Kind, m.Worker, m.Task, m.Try, m.Body)
}

func drawnJobLine(r *rand.Rand) string {
	return oneOf(r, plainCut(drawnLine(r), 200), "", "\n", "\x00", "a\nb", "\xff\xfe", strings.Repeat("l", 199), strings.Repeat("l", 200), "é")
}

func drawnRightCode(r *rand.Rand) impl.Code {
	if c, ok := impl.Compile(runProgram(r)); ok && r.IntN(2) == 0 {
		return c
	}
	return drawnCode(r)
}

func drawnJob(r *rand.Rand) impl.Job {
	j := impl.Job{Code: drawnRightCode(r), Begin: drawnRightStore(r)}
	for range oneOf(r, 0, 1, 2, r.IntN(21), 20) {
		j.Names = append(j.Names, drawnName(r))
	}
	for range oneOf(r, 0, 1, 2, r.IntN(21), 20) {
		j.Lines = append(j.Lines, drawnJobLine(r))
	}
	return j
}

func drawnBody(r *rand.Rand) string {
	switch r.IntN(4) {
	case 0:
		return ""
	case 1:
		return plainJobText(impl.Job{Names: []string{drawnName(r)}, Lines: []string{drawnJobLine(r)}})
	case 2:
		return plainStoreText(drawnRightStore(r))
	}
	body := []byte{}
	for range oneOf(r, 1, 2, 3, 20, 200) {
		body = append(body, byte(r.IntN(256)))
	}
	return string(body)
}

func drawnMessage(r *rand.Rand) impl.Message {
	m := impl.Message{Kind: 1 + r.IntN(4), Worker: 1 + r.IntN(3), Task: r.IntN(21), Try: oneOf(r, 0, 1, 127, 128, 16383, 16384, 2097151, 2097152, 268435455, 268435456, impl.MaxNumber, r.IntN(impl.MaxNumber))}
	if m.Kind == impl.MsGive || m.Kind == impl.MsTell {
		m.Body = drawnBody(r)
	}
	return m
}

// drawnWrongMessage may be right, too.
func drawnWrongMessage(r *rand.Rand) impl.Message {
	m := drawnMessage(r)
	switch r.IntN(6) {
	case 0:
		m.Kind = oneOf(r, 0, 5, -1, 255, 256, 257, math.MinInt, math.MaxInt)
	case 1:
		m.Worker = oneOf(r, 0, 4, -1, 255, 256, 257, math.MinInt, math.MaxInt)
	case 2:
		m.Task = oneOf(r, -1, 21, 127, 128, math.MinInt, math.MaxInt)
	case 3:
		m.Try = oneOf(r, -1, impl.MaxNumber+1, math.MinInt, math.MaxInt)
	case 4:
		m.Body = strings.Repeat("b", oneOf(r, 0, 1, 14999, 15000, 15001, 20001))
	default:
		m.Kind = oneOf(r, 1, 2, 3, 4)
	}
	return m
}

// turnedText has something put in, taken out or turned.
func turnedText(r *rand.Rand, s string) string {
	bytes := []byte(s)
	for range 1 + r.IntN(3) {
		place := r.IntN(len(bytes) + 1)
		switch r.IntN(4) {
		case 0:
			bytes = slices.Insert(bytes, place, byte(oneOf(r, 0, 1, 2, r.IntN(256))))
		case 1:
			bytes = bytes[:place]
		default:
			if place < len(bytes) {
				bytes[place] = byte(oneOf(r, 0, 1, 2, 127, 128, 'a', r.IntN(256)))
			}
		}
	}
	return string(bytes)
}
