package tests

import (
	"fmt"
	"math"
	"math/rand/v2"
	"slices"
	"strings"
	"testing"

	"loop.example/g00237/impl"
)

// checkStoreRead checks ReadStore, and answers whether the text is one of a store.
func checkStoreRead(t *testing.T, text string) bool {
	t.Helper()
	want, ok := plainReadStore(text)
	s, right := impl.ReadStore(text)
	if right != ok || toldStore(s) != toldStore(want) {
		t.Fatalf("ReadStore(%.500q) = %.500s, %v; want %.500s, %v", text, toldStore(s), right, toldStore(want), ok)
	}
	if again, fine := impl.StoreText(s); ok && (!fine || again != text) {
		t.Fatalf("%.500q comes back as %.500q, %v", text, again, fine)
	}
	return ok
}

// checkStoreText checks that a store comes back just when it is right, and answers its form, whether it is right or not.
func checkStoreText(t *testing.T, s impl.Store, want bool) string {
	t.Helper()
	checkStoreOk(t, s, want)
	form := plainStoreText(s)
	text, ok := impl.StoreText(s)
	if !want {
		if ok || text != "" || checkStoreRead(t, form) {
			t.Fatalf("StoreText = %.500q, %v; want none, of %.500s", text, ok, toldStore(s))
		}
		return form
	}
	if !ok || text != form {
		t.Fatalf("StoreText = %.500q, %v; want %.500q", text, ok, form)
	}
	back, right := impl.ReadStore(text)
	if !right || !checkStoreRead(t, text) {
		t.Fatalf("%.500q is not read back", text)
	}
	checkSame(t, "what comes back", back, s)
	return form
}

func checkJobRead(t *testing.T, text string) bool {
	t.Helper()
	want, ok := plainReadJob(text)
	j, right := impl.ReadJob(text)
	if right != ok || toldJob(j) != toldJob(want) {
		t.Fatalf("ReadJob(%.500q) = %.500s, %v; want %.500s, %v", text, toldJob(j), right, toldJob(want), ok)
	}
	if again, fine := impl.JobText(j); ok && (!fine || again != text) {
		t.Fatalf("%.500q comes back as %.500q, %v", text, again, fine)
	}
	return ok
}

// checkJob checks JobOk, and that a job comes back just when it is right.
func checkJob(t *testing.T, j impl.Job, want bool) {
	t.Helper()
	if plain := plainJobOk(j); plain != want {
		t.Fatalf("said to be %v, but %v: %.500s", want, plain, toldJob(j))
	}
	if got := impl.JobOk(j); got != want {
		t.Fatalf("JobOk is %v; want %v, of %.500s", got, want, toldJob(j))
	}
	if !want {
		checkNoJobText(t, j)
		return
	}
	text, ok := impl.JobText(j)
	if !ok || text != plainJobText(j) {
		t.Fatalf("JobText = %.500q, %v; want %.500q", text, ok, plainJobText(j))
	}
	back, right := impl.ReadJob(text)
	if !right || toldJob(back) != toldJob(j) || !checkJobRead(t, text) {
		t.Fatalf("from %.500q comes back %.500s, %v; want %.500s", text, toldJob(back), right, toldJob(j))
	}
}

// hasForm tells whether all of a code, right or not, can be told in bytes.
func hasForm(c impl.Code) bool {
	isByte := func(n int) bool { return n >= 0 && n <= 255 }
	return c.Begin == 0 && c.Line >= 0 && c.End >= 0 && !slices.ContainsFunc(c.List, func(in impl.Instr) bool { return !isByte(in.Op) || !isByte(in.Arg) })
}

func checkNoJobText(t *testing.T, j impl.Job) {
	t.Helper()
	if text, ok := impl.JobText(j); ok || text != "" {
		t.Fatalf("JobText = %.500q, %v; want none, of %.500s", text, ok, toldJob(j))
	}
	if hasForm(j.Code) {
		checkNoJob(t, plainJobText(j))
	}
}

func checkNoJob(t *testing.T, text string) {
	t.Helper()
	if checkJobRead(t, text) {
		t.Fatalf("%.500q is a job", text)
	}
}

func checkMessageRead(t *testing.T, text string) bool {
	t.Helper()
	want, ok := plainReadMessage(text)
	m, right := impl.ReadMessage(text)
	if right != ok || m != want {
		t.Fatalf("ReadMessage(%.500q) = %s, %v; want %s, %v", text, toldMessage(m), right, toldMessage(want), ok)
	}
	if again, fine := impl.MessageText(m); ok && (!fine || again != text) {
		t.Fatalf("%.500q comes back as %.500q, %v", text, again, fine)
	}
	return ok
}

func checkNoMessage(t *testing.T, text string) {
	t.Helper()
	if m, ok := impl.ReadMessage(text); ok || m != (impl.Message{}) {
		t.Fatalf("ReadMessage(%.500q) = %s, %v; want none", text, toldMessage(m), ok)
	}
}

// checkMessage checks MessageOk, and that a message comes back just when it is right.
func checkMessage(t *testing.T, m impl.Message, want bool) {
	t.Helper()
	if plain := plainMessageOk(m); plain != want {
		t.Fatalf("said to be %v, but %v: %s", want, plain, toldMessage(m))
	}
	if got := impl.MessageOk(m); got != want {
		t.Fatalf("MessageOk is %v; want %v, of %s", got, want, toldMessage(m))
	}
	text, ok := impl.MessageText(m)
	if !want {
		if ok || text != "" {
			t.Fatalf("MessageText = %.500q, %v; want none, of %s", text, ok, toldMessage(m))
		}
		// The form of one whose numbers can be written is refused, too.
		if m.Kind >= 0 && m.Kind < 256 && m.Worker >= 0 && m.Worker < 256 && m.Task >= 0 && m.Try >= 0 {
			checkNoMessage(t, plainMessageText(m))
		}
		return
	}
	if !ok || text != plainMessageText(m) {
		t.Fatalf("MessageText = %.500q, %v; want %.500q", text, ok, plainMessageText(m))
	}
	if back, right := impl.ReadMessage(text); !right || back != m || !checkMessageRead(t, text) {
		t.Fatalf("from %.500q comes back %s, %v; want %s", text, toldMessage(back), right, toldMessage(m))
	}
}

func TestMessageConstants(t *testing.T) {
	if got := []int{impl.MsAsk, impl.MsGive, impl.MsTell, impl.MsGot}; !slices.Equal(got, []int{1, 2, 3, 4}) {
		t.Errorf("kinds are %v", got)
	}
}

func TestStoreTextsByHand(t *testing.T) {
	for _, c := range []struct {
		s    impl.Store
		want string
	}{
		{impl.Store{}, "\x00\x00\x00"},
		{impl.Store{Out: "x\n"}, "\x00\x00\x02x\n"},
		{impl.Store{Vars: vars("n", "1")}, "\x01\x01n\x011\x00\x00"},
		{impl.Store{Vars: vars("n", "")}, "\x01\x01n\x00\x00\x00"},
		{impl.Store{Cells: cells("c", "k", "v")}, "\x00\x01\x01c\x01k\x01v\x00"},
		{impl.Store{Cells: cells("c", "", "")}, "\x00\x01\x01c\x00\x00\x00"},
		{impl.Store{Vars: vars("a", "1", "ab", "22"), Cells: cells("t", "", "x", "t", "k", "", "u", "a b", "\x00"), Out: "said\n"}, "\x02\x01a\x011\x02ab\x0222\x03\x01t\x00\x01x\x01t\x01k\x00\x01u\x03a b\x01\x00\x05said\n"},
		{impl.Store{Out: strings.Repeat("o", 300)}, "\x00\x00\xac\x02" + strings.Repeat("o", 300)},
	} {
		if got := checkStoreText(t, c.s, true); got != c.want {
			t.Errorf("the form of %s is %q; want %q", toldStore(c.s), got, c.want)
		}
		if text, ok := impl.StoreText(c.s); !ok || text != c.want {
			t.Errorf("StoreText of %s = %q, %v; want %q", toldStore(c.s), text, ok, c.want)
		}
		back, ok := impl.ReadStore(c.want)
		if !ok {
			t.Errorf("%q is not read", c.want)
		}
		checkSame(t, "ReadStore", back, c.s)
	}
}

func TestJobTextsByHand(t *testing.T) {
	next := impl.Code{List: []impl.Instr{instr(impl.CoNext, 0)}, End: 1}
	for _, c := range []struct {
		j    impl.Job
		want string
	}{
		{impl.Job{}, "\x04\x00\x00\x00\x00\x03\x00\x00\x00\x00\x00"},
		{impl.Job{Names: []string{"n"}, Lines: []string{"a"}}, "\x04\x00\x00\x00\x00\x03\x00\x00\x00\x01\x01n\x01\x01a"},
		{impl.Job{Names: []string{"n", "ab"}}, "\x04\x00\x00\x00\x00\x03\x00\x00\x00\x02\x01n\x02ab\x00"},
		{impl.Job{Lines: []string{"", "x y", "\n"}}, "\x04\x00\x00\x00\x00\x03\x00\x00\x00\x00\x03\x00\x03x y\x01\n"},
		{impl.Job{Code: next, Begin: impl.Store{Vars: vars("n", "1"), Out: "o"}, Names: []string{"n"}}, "\x06\x00\x01\x17\x00\x00\x01\x08\x01\x01n\x011\x00\x01o\x01\x01n\x00"},
	} {
		checkJob(t, c.j, true)
		if text, ok := impl.JobText(c.j); !ok || text != c.want {
			t.Errorf("JobText of %s = %q, %v; want %q", toldJob(c.j), text, ok, c.want)
		}
		if back, ok := impl.ReadJob(c.want); !ok || toldJob(back) != toldJob(c.j) {
			t.Errorf("ReadJob(%q) = %s, %v", c.want, toldJob(back), ok)
		}
	}
}

func TestMessageTextsByHand(t *testing.T) {
	for _, c := range []struct {
		m    impl.Message
		want string
	}{
		{impl.Message{Kind: impl.MsAsk, Worker: 1}, "\x01\x01\x00\x00"},
		{impl.Message{Kind: impl.MsGive, Worker: 2}, "\x02\x02\x00\x00"},
		{impl.Message{Kind: impl.MsTell, Worker: 3}, "\x03\x03\x00\x00"},
		{impl.Message{Kind: impl.MsGot, Worker: 1}, "\x04\x01\x00\x00"},
		{impl.Message{Kind: impl.MsGot, Worker: 3, Task: 20, Try: 300}, "\x04\x03\x14\xac\x02"},
		{impl.Message{Kind: impl.MsGive, Worker: 1, Task: 5, Try: 7, Body: "body"}, "\x02\x01\x05\x07body"},
		{impl.Message{Kind: impl.MsTell, Worker: 2, Task: 1, Try: impl.MaxNumber, Body: "\x00"}, "\x03\x02\x01\x80\x94\xeb\xdc\x03\x00"},
	} {
		checkMessage(t, c.m, true)
		text, ok := impl.MessageText(c.m)
		if want, _ := impl.Sealed(c.want); !ok || text != want {
			t.Errorf("MessageText of %s = %q, %v; want %q and its seal", toldMessage(c.m), text, ok, c.want)
		}
		sealedByHand := c.want + string([]byte{byte(impl.SumOf(c.want) >> 24), byte(impl.SumOf(c.want) >> 16), byte(impl.SumOf(c.want) >> 8), byte(impl.SumOf(c.want))})
		if back, ok := impl.ReadMessage(sealedByHand); !ok || back != c.m {
			t.Errorf("ReadMessage(%q) = %s, %v", sealedByHand, toldMessage(back), ok)
		}
	}
}

func TestDrawnStoresComeBack(t *testing.T) {
	for k := range uint64(3000) {
		r := rand.New(rand.NewPCG(124, k))
		checkStoreText(t, drawnRightStore(r), true)
		s := drawnWrongStore(r)
		checkStoreText(t, s, plainStoreOk(s))
	}
}

func TestDrawnJobsComeBack(t *testing.T) {
	for k := range uint64(1500) {
		checkJob(t, drawnJob(rand.New(rand.NewPCG(125, k))), true)
	}
}

func TestDrawnMessagesComeBack(t *testing.T) {
	seen := map[int]int{}
	for k := range uint64(4000) {
		m := drawnMessage(rand.New(rand.NewPCG(126, k)))
		checkMessage(t, m, true)
		if m.Body == "" {
			seen[m.Kind]++
		}
	}
	for kind := impl.MsAsk; kind <= impl.MsGot; kind++ {
		if seen[kind] < 100 {
			t.Errorf("only %d of kind %d have no body", seen[kind], kind)
		}
	}
}

func TestDrawnMessagesAreRightOrNot(t *testing.T) {
	right, wrong := 0, 0
	for k := range uint64(4000) {
		m := drawnWrongMessage(rand.New(rand.NewPCG(127, k)))
		want := plainMessageOk(m)
		checkMessage(t, m, want)
		if want {
			right++
		} else {
			wrong++
		}
	}
	if right < 500 || wrong < 1000 {
		t.Errorf("%d are right, %d are not", right, wrong)
	}
}

func TestStoresAtTheirLimits(t *testing.T) {
	forty := strings.Repeat("v", 40)
	full := impl.Store{Vars: manyVars(60), Cells: manyCells(2000), Out: strings.Repeat("o", 3000)}
	for i := range full.Vars {
		full.Vars[i].Val = forty
	}
	for i := range full.Cells {
		full.Cells[i].Val = forty
		full.Cells[i].Key += strings.Repeat("k", 35)
	}
	checkStoreText(t, full, true)
	if text, ok := impl.StoreText(full); !ok || len(text) < 100000 {
		t.Errorf("the greatest store has %d bytes, %v", len(text), ok)
	}
	for _, s := range []impl.Store{
		{Vars: manyVars(60)}, {Cells: manyCells(2000)}, {Cells: manyCells(127)}, {Cells: manyCells(128)},
		{Out: strings.Repeat("o", 127)}, {Out: strings.Repeat("o", 128)}, {Out: strings.Repeat("\xff", 3000)},
		{Vars: vars("a", forty)}, {Vars: vars("abcdefgh", "1")}, {Vars: vars("ABCDEFGZ", "")}, {Vars: vars("NF", "1", "print", "2")},
		{Cells: cells("c", forty, "")}, {Cells: cells("c", "", forty)}, {Cells: cells("abcdefgh", forty, forty)}, {Cells: cells("c", "", "1", "c", "\x00", "2", "c", "\xff", "3", "d", "", "4")},
	} {
		checkStoreText(t, s, true)
	}
	for _, s := range []impl.Store{
		{Vars: manyVars(61)}, {Cells: manyCells(2001)}, {Out: strings.Repeat("o", 3001)}, {Out: strings.Repeat("o", 20000)}, {Out: strings.Repeat("o", 20001)},
		{Vars: vars("a", forty+"1")}, {Vars: vars("abcdefghi", "1")}, {Vars: vars("", "1")}, {Vars: vars("a1", "1")}, {Vars: vars("a ", "1")}, {Vars: vars("\xff", "1")}, {Vars: vars("é", "1")},
		{Vars: vars("a", "1", "a", "1")}, {Vars: vars("b", "1", "a", "2")}, {Vars: vars("ab", "1", "a", "2")}, {Vars: vars("a", "1", "Z", "2")},
		{Cells: cells("c", forty+"1", "")}, {Cells: cells("c", "", forty+"1")}, {Cells: cells("abcdefghi", "", "")}, {Cells: cells("", "k", "v")}, {Cells: cells("c1", "k", "v")},
		{Cells: cells("c", "k", "1", "c", "k", "2")}, {Cells: cells("c", "k", "1", "c", "j", "2")}, {Cells: cells("d", "a", "1", "c", "b", "2")}, {Cells: cells("c", "kk", "1", "c", "k", "2")},
		{Vars: vars("a", strings.Repeat("v", 20000))}, {Vars: vars("a", strings.Repeat("v", 20001))}, {Cells: cells(strings.Repeat("c", 300), "", "")},
	} {
		checkStoreText(t, s, false)
	}
}

// someStoreTexts are the forms of ordinary stores.
func someStoreTexts() []string {
	texts := []string{}
	for _, s := range []impl.Store{
		{}, {Out: "x\n"}, {Vars: vars("n", "1")}, {Cells: cells("c", "k", "v")},
		{Vars: vars("a", "1", "ab", "22"), Cells: cells("t", "", "x", "t", "k", "", "u", "a b", "\x00"), Out: "said\nmore\n"},
		{Vars: vars("B", "", "b", "\x00\x01"), Out: strings.Repeat("o", 130)},
		{Cells: manyCells(6)},
	} {
		texts = append(texts, plainStoreText(s))
	}
	return texts
}

// checkEdges checks what comes of a text that is cut, or has more bytes: nothing is taken then, where it is its end.
func checkEdges(t *testing.T, text string, read func(*testing.T, string) bool) {
	t.Helper()
	if !read(t, text) {
		t.Fatalf("%q does not come back", text)
	}
	for size := range len(text) {
		if read(t, text[:size]) {
			t.Fatalf("%q, cut to %d bytes, is taken", text, size)
		}
	}
	for b := range 256 {
		one := string([]byte{byte(b)})
		if read(t, text+one) {
			t.Fatalf("%q is taken with the byte %d behind it", text, b)
		}
		read(t, one+text)
	}
	if read(t, text+text) {
		t.Fatalf("%q is taken twice", text)
	}
	for place := range len(text) {
		read(t, text[:place]+text[place+1:])
		read(t, text[:place]+text[place:place+1]+text[place:])
	}
}

func TestStoreTextsThatAreCutOrTooLong(t *testing.T) {
	if checkStoreRead(t, "") {
		t.Error("nothing is a store")
	}
	for _, text := range someStoreTexts() {
		checkEdges(t, text, checkStoreRead)
	}
	// The greatest one, cut here and there.
	text := plainStoreText(impl.Store{Vars: manyVars(60), Cells: manyCells(2000), Out: strings.Repeat("o", 3000)})
	for size := 0; size < len(text); size += 997 {
		if _, ok := impl.ReadStore(text[:size]); ok {
			t.Fatalf("cut to %d bytes it is a store", size)
		}
	}
	if _, ok := impl.ReadStore(text[:len(text)-1]); ok {
		t.Error("cut by one byte it is a store")
	}
}

func TestStoreTextsWithOneByteTurned(t *testing.T) {
	right, wrong := 0, 0
	for _, text := range someStoreTexts() {
		for place := range len(text) {
			for b := range 256 {
				if checkStoreRead(t, text[:place]+string([]byte{byte(b)})+text[place+1:]) {
					right++
				} else {
					wrong++
				}
			}
		}
	}
	if right < 3000 || wrong < 3000 {
		t.Errorf("%d are stores, %d are none", right, wrong)
	}
}

func TestStoreNumbersThatAreWrittenLonger(t *testing.T) {
	whole := func(more ...int) string {
		text := longer(1, more[0]) + longer(1, more[1]) + "n" + longer(2, more[2]) + "12"
		text += longer(1, more[3]) + longer(1, more[4]) + "c" + longer(0, more[5]) + longer(1, more[6]) + "v"
		return text + longer(3, more[7]) + "out"
	}
	if !checkStoreRead(t, whole(make([]int, 8)...)) {
		t.Fatal("it does not come back")
	}
	for more := 1; more <= 9; more++ {
		for place := range 8 {
			each := make([]int, 8)
			each[place] = more
			if checkStoreRead(t, whole(each...)) {
				t.Fatalf("with number %d written longer it is a store", place)
			}
		}
		if checkStoreRead(t, whole(slices.Repeat([]int{more}, 8)...)) {
			t.Fatal("with all numbers written longer it is a store")
		}
	}
	check := func(text string) {
		t.Helper()
		if checkStoreRead(t, text) {
			t.Fatalf("%.100q is a store", text)
		}
	}
	// Counts and lengths that are above what there is.
	for _, count := range []int{2, 60, 61, 127, 2000, 2001, 20000, 20001, impl.MaxNumber, impl.MaxNumber + 1, 1 << 34, 1 << 40} {
		check(longer(count, 0))
		check(longer(count, 0) + "\x00\x00")
		check(longer(count, 0) + "\x01a\x01b\x00\x00")
		check("\x00" + longer(count, 0))
		check("\x00" + longer(count, 0) + "\x00")
		check("\x00" + longer(count, 0) + "\x01a\x01b\x01c\x00")
		check("\x00\x00" + longer(count, 0) + "x")
		check("\x01" + longer(count, 0) + "x\x00\x00\x00")
		check("\x01\x01a" + longer(count, 0) + "x\x00\x00")
		check("\x00\x01" + longer(count, 0) + "x\x00\x00\x00")
		check("\x00\x01\x01c" + longer(count, 0) + "x\x00\x00")
		check("\x00\x01\x01c\x00" + longer(count, 0) + "x\x00")
	}
	inGoodTime(t, func() {
		zeros := strings.Repeat("\x00", 1<<20)
		for _, count := range []int{60, 61, 2000, 2001, impl.MaxNumber} {
			for _, text := range []string{longer(count, 0) + zeros, "\x00" + longer(count, 0) + zeros, "\x00\x00" + longer(count, 0) + zeros} {
				if _, ok := impl.ReadStore(text); ok {
					t.Error("noughts are a store")
				}
			}
		}
	})
}

func TestDrawnStoreTexts(t *testing.T) {
	right := 0
	for k := range uint64(20000) {
		r := rand.New(rand.NewPCG(128, k))
		if checkStoreRead(t, turnedText(r, oneOf(r, someStoreTexts()...))) {
			right++
		}
	}
	if right < 500 {
		t.Errorf("only %d are stores", right)
	}
}

// allTexts calls with each text of at most so many of these bytes, and counts what is taken.
func allTexts(most int, bytes string, take func(text string) bool) int {
	taken := 0
	texts := []string{""}
	for from := 0; from < len(texts); from++ {
		if take(texts[from]) {
			taken++
		}
		if len(texts[from]) < most {
			for place := range len(bytes) {
				texts = append(texts, texts[from]+bytes[place:place+1])
			}
		}
	}
	return taken
}

func TestAllShortStoreTexts(t *testing.T) {
	take := func(text string) bool { return checkStoreRead(t, text) }
	if taken := allTexts(7, "\x00\x01\x02a\x80", take); taken < 20 {
		t.Errorf("only %d are stores", taken)
	}
	if taken := allTexts(9, "\x00\x01c", take); taken < 20 {
		t.Errorf("only %d are stores", taken)
	}
}

func TestJobsByRules(t *testing.T) {
	name := func(names ...string) impl.Job { return impl.Job{Names: names} }
	line := func(lines ...string) impl.Job { return impl.Job{Lines: lines} }
	for _, j := range []impl.Job{
		{}, name("a"), name("Z"), name("abcdefgh"), name("ABCDEFGZ"), name("a", "a"), name("b", "a"), name("print", "NF", "BEGIN"),
		name(slices.Repeat([]string{"abcdefgh"}, 20)...), name(slices.Repeat([]string{"a"}, 20)...),
		line(""), line("", ""), line("\n"), line("\x00"), line("a\nb\n"), line("\xff\xfe"), line("b", "a", "b"), line(strings.Repeat("x", 127)), line(strings.Repeat("x", 128)), line(strings.Repeat("x", 200)), line(strings.Repeat("\n", 200)),
		line(slices.Repeat([]string{strings.Repeat("\x00", 200)}, 20)...), line(make([]string, 20)...),
		{Names: slices.Repeat([]string{"abcdefgh"}, 20), Lines: slices.Repeat([]string{strings.Repeat("x", 200)}, 20)},
		{Names: []string{"a"}}, {Lines: []string{"a"}}, {Begin: impl.Store{Vars: vars("n", "1")}}, {Code: mustCompile(t, "{ n += 1 }")},
	} {
		checkJob(t, j, true)
	}
	for _, j := range []impl.Job{
		name(""), name("abcdefghi"), name("a", ""), name("", "a"), name("a1"), name("a b"), name("_"), name("é"), name("\xff"), name("\x00"), name("a\n"), name("@"), name("["), name("`"), name("{"),
		name(slices.Repeat([]string{"a"}, 21)...), name(append(slices.Repeat([]string{"a"}, 19), "9")...), name(strings.Repeat("a", 20001)),
		line(strings.Repeat("x", 201)), line(strings.Repeat("\x00", 201)), line("", strings.Repeat("x", 201)), line(strings.Repeat("x", 201), ""), line(make([]string, 21)...), line(append(make([]string, 19), strings.Repeat("x", 201))...), line(strings.Repeat("x", 20001)),
		{Names: []string{"a"}, Lines: make([]string, 21)}, {Names: make([]string, 1), Lines: []string{"a"}},
	} {
		checkJob(t, j, false)
	}
	for b := range 256 {
		one := string([]byte{byte(b)})
		isLetter := b >= 'a' && b <= 'z' || b >= 'A' && b <= 'Z'
		checkJob(t, name(one), isLetter)
		checkJob(t, name("a"+one), isLetter)
		checkJob(t, line(one), true)
	}
}

func TestJobsOfWhatIsNotRight(t *testing.T) {
	next := instr(impl.CoNext, 0)
	for _, c := range []impl.Code{{Begin: 1}, {Begin: -1}, {Line: 1}, {End: 1}, {End: -1}, {Line: math.MinInt, End: math.MaxInt}, {List: []impl.Instr{{}}}, {List: []impl.Instr{next}, Line: 1}, {List: slices.Repeat([]impl.Instr{next}, 251)}, {Texts: slices.Repeat([]string{"x"}, 61)}, {Texts: []string{strings.Repeat("x", 31)}}, {List: []impl.Instr{instr(impl.CoPrint, 1)}}} {
		checkJob(t, impl.Job{Code: c}, false)
		checkJob(t, impl.Job{Code: c, Names: []string{"a"}, Lines: []string{"b"}}, false)
	}
	for _, s := range []impl.Store{{Vars: manyVars(61)}, {Cells: manyCells(2001)}, {Out: strings.Repeat("o", 3001)}, {Vars: vars("b", "1", "a", "2")}, {Vars: vars("", "1")}, {Vars: vars("a", strings.Repeat("v", 41))}, {Cells: cells("c", "k", "1", "c", "k", "1")}, {Cells: cells("c", strings.Repeat("k", 41), "1")}} {
		checkJob(t, impl.Job{Begin: s}, false)
		checkJob(t, impl.Job{Begin: s, Names: []string{"a"}, Lines: []string{"b"}}, false)
	}
	codes, stores := 0, 0
	for k := range uint64(1500) {
		r := rand.New(rand.NewPCG(129, k))
		j := drawnJob(r)
		switch k % 3 {
		case 0:
			j.Code = turnedCode(r, j.Code)
		case 1:
			j.Begin = drawnWrongStore(r)
		default:
			j.Code, j.Begin = turnedCode(r, j.Code), drawnWrongStore(r)
		}
		checkJob(t, j, plainJobOk(j))
		if !plainCodeOk(j.Code) {
			codes++
		}
		if !plainStoreOk(j.Begin) {
			stores++
		}
	}
	if codes < 200 || stores < 200 {
		t.Errorf("only %d codes and %d stores are wrong", codes, stores)
	}
}

// sizedStore is right, and its text has so many bytes.
func sizedStore(t *testing.T, size int) impl.Store {
	t.Helper()
	s := impl.Store{Cells: manyCells(2000)}
	for len(plainStoreText(s)) > size-200 {
		s.Cells = s.Cells[:len(s.Cells)-20]
	}
	// A length of two bytes, in the place of one.
	s.Out = strings.Repeat("o", size-len(plainStoreText(s))-1)
	if len(plainStoreText(s)) != size {
		t.Fatalf("it has %d bytes", len(plainStoreText(s)))
	}
	return s
}

// A store's text may be longer than a short text: such a job is right, but has none.
func TestJobsOfGreatStores(t *testing.T) {
	for _, size := range []int{10000, 19999, 20000} {
		checkJob(t, impl.Job{Begin: sizedStore(t, size), Names: []string{"n"}, Lines: []string{"a"}}, true)
	}
	for _, s := range []impl.Store{sizedStore(t, 20001), sizedStore(t, 20002), sizedStore(t, 25000), {Vars: manyVars(60), Cells: manyCells(2000), Out: strings.Repeat("o", 3000)}} {
		checkStoreText(t, s, true)
		j := impl.Job{Begin: s, Names: []string{"n"}, Lines: []string{"a"}}
		if !impl.JobOk(j) {
			t.Error("a job of a great store is not right")
		}
		checkNoJobText(t, j)
	}
	// As much as may be: no limit of its own.
	texts := slices.Repeat([]string{strings.Repeat("x", 30)}, 60)
	j := impl.Job{Code: impl.Code{Texts: texts, List: slices.Repeat([]impl.Instr{instr(impl.CoNext, 0)}, 250), Line: 128, End: 250}, Begin: sizedStore(t, 20000), Names: slices.Repeat([]string{"abcdefgh"}, 20), Lines: slices.Repeat([]string{strings.Repeat("x", 200)}, 20)}
	checkJob(t, j, true)
	if text, _ := impl.JobText(j); len(text) < 26000 {
		t.Errorf("the greatest job has %d bytes", len(text))
	}
}

func someJobs(t *testing.T) []impl.Job {
	t.Helper()
	c := mustCompile(t, `{ n += $1; if ($2 ~ /a+/) c[$2] += 1 } END { print n; dump c }`)
	return []impl.Job{
		{}, {Names: []string{"n", "c"}, Lines: []string{"", "1 a\n"}},
		{Begin: impl.Store{Vars: vars("n", "1"), Cells: cells("c", "k", "v"), Out: "x\n"}},
		{Code: c, Begin: impl.Store{Vars: vars("n", "1")}, Names: []string{"n", "c"}, Lines: []string{"1 a", "2 b"}},
	}
}

func TestJobTextsThatAreCutOrTooLong(t *testing.T) {
	checkNoJob(t, "")
	for _, j := range someJobs(t) {
		checkEdges(t, plainJobText(j), checkJobRead)
	}
}

func TestJobTextsWithOneByteTurned(t *testing.T) {
	right, wrong := 0, 0
	for _, j := range someJobs(t) {
		text := plainJobText(j)
		for place := range len(text) {
			for b := range 256 {
				if checkJobRead(t, text[:place]+string([]byte{byte(b)})+text[place+1:]) {
					right++
				} else {
					wrong++
				}
			}
		}
	}
	if right < 2000 || wrong < 10000 {
		t.Errorf("%d are jobs, %d are none", right, wrong)
	}
}

// What a job's text holds must be whole texts of code and of a store themselves.
func TestJobsOfTextsThatAreNone(t *testing.T) {
	names, lines := []string{"n"}, []string{"a"}
	code, _ := impl.CodeText(mustCompile(t, "{ n += 1 }"))
	begin := plainStoreText(impl.Store{Vars: vars("n", "1"), Out: "x"})
	if !checkJobRead(t, jobTextOf(code, begin, names, lines)) {
		t.Fatal("it does not come back")
	}
	for _, wrong := range []string{"", "\x00", code + "\x00", begin, code[1:], code[:len(code)-1], "\x81\x00" + code[1:], code + code} {
		checkNoJob(t, jobTextOf(wrong, begin, names, lines))
	}
	for _, wrong := range []string{"", "\x00", begin + "\x00", code, begin[1:], begin[:len(begin)-1], "\x81\x00" + begin[1:], begin + begin} {
		checkNoJob(t, jobTextOf(code, wrong, names, lines))
	}
	checkNoJob(t, jobTextOf(begin, code, names, lines))
	// One length too long, and the other too short for it: bytes of the one are not the other's.
	whole := jobTextOf(code, begin, names, lines)
	checkNoJob(t, longer(len(code)+1, 0)+whole[1:])
	checkNoJob(t, longer(len(code)-1, 0)+whole[1:])
	for size := range len(code) + len(begin) {
		both := code + begin
		if size != len(code) {
			checkNoJob(t, jobTextOf(both[:size], both[size:], names, lines))
		}
	}
	checkNoJob(t, whole[1:])
	checkNoJob(t, string(plainShort(nil, whole)))
	sealedWhole, _ := impl.Sealed(whole)
	checkNoJob(t, sealedWhole)
}

func TestJobNumbersThatAreWrittenLonger(t *testing.T) {
	whole := func(more ...int) string {
		text := longer(4, more[0]) + "\x00\x00\x00\x00" + longer(3, more[1]) + "\x00\x00\x00"
		text += longer(1, more[2]) + longer(2, more[3]) + "ab"
		return text + longer(2, more[4]) + longer(0, more[5]) + longer(3, more[6]) + "x\ny"
	}
	if !checkJobRead(t, whole(make([]int, 7)...)) {
		t.Fatal("it does not come back")
	}
	for more := 1; more <= 9; more++ {
		for place := range 7 {
			each := make([]int, 7)
			each[place] = more
			checkNoJob(t, whole(each...))
		}
		checkNoJob(t, whole(slices.Repeat([]int{more}, 7)...))
	}
	ahead := "\x04\x00\x00\x00\x00\x03\x00\x00\x00"
	if !checkJobRead(t, ahead+"\x00\x00") {
		t.Fatal("it does not come back")
	}
	// Counts and lengths that are above what there is, or may be.
	for _, count := range []int{2, 20, 21, 127, 200, 201, 20000, 20001, impl.MaxNumber, impl.MaxNumber + 1, 1 << 34, 1 << 40} {
		checkNoJob(t, longer(count, 0))
		checkNoJob(t, longer(count, 0)+ahead[1:]+"\x00\x00")
		checkNoJob(t, ahead[:5]+longer(count, 0)+"\x00\x00\x00\x00\x00")
		checkNoJob(t, ahead+longer(count, 0))
		checkNoJob(t, ahead+longer(count, 0)+"\x01a\x00")
		checkNoJob(t, ahead+"\x00"+longer(count, 0))
		checkNoJob(t, ahead+"\x00"+longer(count, 0)+"\x01a")
		checkNoJob(t, ahead+"\x01"+longer(count, 0)+"a\x00")
		checkNoJob(t, ahead+"\x00\x01"+longer(count, 0)+"a")
	}
	// As many as are told, but more than may be.
	for count, right := range map[int]bool{19: true, 20: true, 21: false, 127: false, 128: false, 2000: false} {
		if checkJobRead(t, ahead+"\x00"+longer(count, 0)+strings.Repeat("\x00", count)) != right || checkJobRead(t, ahead+longer(count, 0)+strings.Repeat("\x01a", count)+"\x00") != right {
			t.Errorf("%d names or lines: right is not %v", count, right)
		}
	}
	for size, right := range map[int]bool{1: true, 8: true, 9: false, 200: false} {
		if checkJobRead(t, ahead+"\x01"+string(plainShort(nil, strings.Repeat("a", size)))+"\x00") != right {
			t.Errorf("a name of %d letters: right is not %v", size, right)
		}
	}
	for size, right := range map[int]bool{0: true, 127: true, 128: true, 199: true, 200: true, 201: false, 20000: false, 20001: false} {
		if checkJobRead(t, ahead+"\x00\x01"+string(plainShort(nil, strings.Repeat("\n", size)))) != right {
			t.Errorf("a line of %d bytes: right is not %v", size, right)
		}
	}
	inGoodTime(t, func() {
		zeros := strings.Repeat("\x00", 1<<20)
		for _, count := range []int{20, 21, 20000, impl.MaxNumber} {
			for _, text := range []string{longer(count, 0) + zeros, ahead[:5] + longer(count, 0) + zeros, ahead + longer(count, 0) + zeros, ahead + "\x00" + longer(count, 0) + zeros} {
				if _, ok := impl.ReadJob(text); ok {
					t.Error("noughts are a job")
				}
			}
		}
	})
}

func TestDrawnJobTexts(t *testing.T) {
	right := 0
	forms := someJobs(t)
	for k := range uint64(10000) {
		r := rand.New(rand.NewPCG(130, k))
		j := oneOf(r, forms...)
		if k%20 == 0 {
			j = drawnJob(r)
		}
		if checkJobRead(t, turnedText(r, plainJobText(j))) {
			right++
		}
	}
	if right < 200 {
		t.Errorf("only %d are jobs", right)
	}
}

func TestAllShortJobTexts(t *testing.T) {
	ahead := "\x04\x00\x00\x00\x00\x03\x00\x00\x00"
	taken := allTexts(7, "\x00\x01\x02a\x80", func(text string) bool { return checkJobRead(t, ahead+text) })
	if taken < 20 {
		t.Errorf("only %d are jobs", taken)
	}
	if taken := allTexts(6, "\x00\x01\x03\x04a", func(text string) bool { return checkJobRead(t, text) }); taken != 0 {
		t.Errorf("%d are jobs", taken)
	}
}

func TestMessagesByRules(t *testing.T) {
	ok := impl.Message{Kind: impl.MsTell, Worker: 2, Task: 3, Try: 4, Body: "b"}
	checkMessage(t, ok, true)
	checkMessage(t, impl.Message{}, false)
	with := func(change func(*impl.Message), want bool) {
		t.Helper()
		m := ok
		change(&m)
		checkMessage(t, m, want)
	}
	for _, kind := range []int{math.MinInt, -1, 0, 1, 2, 3, 4, 5, 255, 256, 257, 258, 259, 260, math.MaxInt} {
		with(func(m *impl.Message) { m.Kind, m.Body = kind, "" }, kind >= 1 && kind <= 4)
		with(func(m *impl.Message) { m.Kind = kind }, kind == impl.MsGive || kind == impl.MsTell)
	}
	for _, worker := range []int{math.MinInt, -1, 0, 1, 2, 3, 4, 255, 256, 257, 258, 259, math.MaxInt} {
		with(func(m *impl.Message) { m.Worker = worker }, worker >= 1 && worker <= 3)
	}
	for _, task := range []int{math.MinInt, -1, 0, 1, 19, 20, 21, 127, 128, impl.MaxNumber, math.MaxInt} {
		with(func(m *impl.Message) { m.Task = task }, task >= 0 && task <= 20)
	}
	for _, try := range []int{math.MinInt, -1, 0, 1, 127, 128, impl.MaxNumber - 1, impl.MaxNumber, impl.MaxNumber + 1, 1 << 32, math.MaxInt} {
		with(func(m *impl.Message) { m.Try = try }, try >= 0 && try <= impl.MaxNumber)
	}
	for _, size := range []int{0, 1, 14999, 15000, 15001, 19999, 20000, 20001, 30000} {
		for kind := impl.MsAsk; kind <= impl.MsGot; kind++ {
			hasBody := kind == impl.MsGive || kind == impl.MsTell
			with(func(m *impl.Message) { m.Kind, m.Body = kind, strings.Repeat("b", size) }, size <= 15000 && (hasBody || size == 0))
		}
	}
	// All at their limits.
	for kind := impl.MsAsk; kind <= impl.MsGot; kind++ {
		m := impl.Message{Kind: kind, Worker: 3, Task: 20, Try: impl.MaxNumber}
		checkMessage(t, m, true)
		m.Worker = 1
		checkMessage(t, m, true)
		m.Task, m.Try = 0, 0
		checkMessage(t, m, true)
	}
	checkMessage(t, impl.Message{Kind: impl.MsGive, Worker: 3, Task: 20, Try: impl.MaxNumber, Body: strings.Repeat("\xff", 15000)}, true)
	// Nothing but noughts, what looks like a seal, or like another message.
	for _, body := range []string{"\x00", "\x00\x00\x00\x00", "\xff\xff\xff\xff", plainMessageText(ok), plainSealed(""), strings.Repeat("\x00", 15000)} {
		with(func(m *impl.Message) { m.Body = body }, true)
	}
}

// someMessages are of each kind, with bodies of several lengths.
func someMessages(t *testing.T) []impl.Message {
	t.Helper()
	messages := []impl.Message{}
	for kind := impl.MsAsk; kind <= impl.MsGot; kind++ {
		messages = append(messages, impl.Message{Kind: kind, Worker: kind%3 + 1, Task: kind * 5, Try: kind * 100})
	}
	for _, j := range someJobs(t) {
		messages = append(messages, impl.Message{Kind: impl.MsGive, Worker: 1, Task: 2, Try: 3, Body: plainJobText(j)})
	}
	for _, text := range someStoreTexts() {
		messages = append(messages, impl.Message{Kind: impl.MsTell, Worker: 2, Task: 20, Try: impl.MaxNumber, Body: text})
	}
	return messages
}

func TestMessagesWithOneByteTurned(t *testing.T) {
	for _, m := range someMessages(t) {
		text := plainMessageText(m)
		if !checkMessageRead(t, text) {
			t.Fatalf("%s does not come back", toldMessage(m))
		}
		turned := []byte(text)
		for place := range turned {
			for turn := 1; turn < 256; turn++ {
				turned[place] = text[place] ^ byte(turn)
				checkNoMessage(t, string(turned))
			}
			turned[place] = text[place]
		}
	}
}

func TestTheLongestMessageWithOneByteTurned(t *testing.T) {
	text, ok := impl.MessageText(impl.Message{Kind: impl.MsGive, Worker: 3, Task: 20, Try: impl.MaxNumber, Body: strings.Repeat("body\n", 3000)})
	if !ok || len(text) != 15012 || !checkMessageRead(t, text) {
		t.Fatal("the longest message does not come back")
	}
	turned := []byte(text)
	for place := 0; place < len(text); place++ {
		if place > 20 && place < len(text)-20 && place%97 != 0 {
			continue
		}
		for _, turn := range []byte{1, 2, 128, 255, byte(place)%254 + 1} {
			turned[place] = text[place] ^ turn
			checkNoMessage(t, string(turned))
		}
		turned[place] = text[place]
	}
	for size := 0; size < len(text); size += 97 {
		checkNoMessage(t, text[:size])
	}
	checkNoMessage(t, text[:len(text)-1])
	checkNoMessage(t, text+"\x00")
}

func TestMessagesThatAreCutOrTooLong(t *testing.T) {
	checkNoMessage(t, "")
	for _, m := range someMessages(t) {
		text := plainMessageText(m)
		for size := range len(text) {
			checkNoMessage(t, text[:size])
			checkNoMessage(t, text[size+1:])
			checkNoMessage(t, text[:size]+text[size+1:])
		}
		for b := range 256 {
			one := string([]byte{byte(b)})
			checkNoMessage(t, text+one)
			checkNoMessage(t, one+text)
		}
		checkNoMessage(t, text+text)
		checkNoMessage(t, text+"\x00\x00\x00\x00")
		checkNoMessage(t, text[:len(text)-4])
	}
}

// What is sealed well need not be a message.
func TestSealedTextsThatAreNoMessages(t *testing.T) {
	check := func(text string, want bool) {
		t.Helper()
		if checkMessageRead(t, plainSealed(text)) != want {
			t.Fatalf("%.100q, sealed, is a message: not %v", text, want)
		}
	}
	check("\x02\x01\x00\x00", true)
	for _, text := range []string{"", "\x02", "\x02\x01", "\x02\x01\x00", "\x02\x01\x80", "\x02\x01\x00\x80", "\x02\x01\x00\x80\x80\x80\x80"} {
		check(text, false)
	}
	for kind := range 256 {
		for worker := range 256 {
			isOk := kind >= 1 && kind <= 4 && worker >= 1 && worker <= 3
			check(string([]byte{byte(kind), byte(worker), 0, 0}), isOk)
		}
	}
	for first := range 256 {
		for second := range 256 {
			checkMessageRead(t, plainSealed(string([]byte{3, 1, byte(first), byte(second)})))
			checkMessageRead(t, plainSealed(string([]byte{4, 1, byte(first), byte(second)})))
			checkMessageRead(t, plainSealed(string([]byte{1, 2, 7, byte(first), byte(second)})))
		}
	}
	// Longer forms of the numbers, and numbers that are too great.
	for more := 1; more <= 9; more++ {
		check("\x02\x01"+longer(5, more)+"\x07", false)
		check("\x02\x01\x05"+longer(7, more), false)
		check("\x02\x01\x05"+longer(7, more)+"body", false)
		check("\x02\x01"+longer(5, more)+longer(7, more)+"body", false)
	}
	for _, task := range []int{0, 20, 21, 127, 128, 255, 256, impl.MaxNumber, impl.MaxNumber + 1, 1 << 34, 1 << 40} {
		check("\x02\x01"+longer(task, 0)+"\x00", task <= 20)
		check("\x02\x01"+longer(task, 0)+"\x00body", task <= 20)
	}
	for _, try := range []int{0, 127, 128, impl.MaxNumber, impl.MaxNumber + 1, 1 << 34, 1 << 40} {
		check("\x02\x01\x00"+longer(try, 0), try <= impl.MaxNumber)
		check("\x04\x01\x00"+longer(try, 0), try <= impl.MaxNumber)
		check("\x02\x01\x00"+longer(try, 0)+"body", try <= impl.MaxNumber)
	}
	// Bodies: behind MsAsk and MsGot none, not even a nought, and none that is too long.
	for kind := impl.MsAsk; kind <= impl.MsGot; kind++ {
		head := string([]byte{byte(kind), 1, 0, 0})
		hasBody := kind == impl.MsGive || kind == impl.MsTell
		for b := range 256 {
			check(head+string([]byte{byte(b)}), hasBody)
		}
		for _, size := range []int{14999, 15000, 15001, 19996, 19997, 30000} {
			check(head+strings.Repeat("b", size), hasBody && size <= 15000)
		}
		// A body has no length ahead of it, and a message is sealed once.
		checkMessageRead(t, plainSealed(string(plainShort([]byte(head), "body"))))
		check(plainSealed(head), hasBody)
	}
	// Another order of the seal's bytes, a seal ahead, or none.
	text := "\x02\x01\x05\x07body"
	seal := plainSealed(text)[len(text):]
	checkNoMessage(t, text+string([]byte{seal[3], seal[2], seal[1], seal[0]}))
	checkNoMessage(t, seal+text)
	checkNoMessage(t, text)
	checkNoMessage(t, text+"\x00\x00\x00\x00")
}

func TestDrawnMessageTexts(t *testing.T) {
	right := 0
	forms := someMessages(t)
	for k := range uint64(20000) {
		r := rand.New(rand.NewPCG(131, k))
		m := oneOf(r, forms...)
		text := turnedText(r, headOf(m)+plainCut(m.Body, 30))
		if checkMessageRead(t, plainSealed(text)) {
			right++
		}
		checkMessageRead(t, text)
		checkMessageRead(t, turnedText(r, plainMessageText(m)))
	}
	if right < 1000 {
		t.Errorf("only %d are messages", right)
	}
}

// What is given and told goes in bodies, and is the same behind them.
func TestJobsAndStoresGoInMessages(t *testing.T) {
	told := 0
	for k := range uint64(400) {
		r := rand.New(rand.NewPCG(132, k))
		j := drawnJob(r)
		body, _ := impl.JobText(j)
		give := impl.Message{Kind: impl.MsGive, Worker: 1 + r.IntN(3), Task: r.IntN(21), Try: 1 + r.IntN(99), Body: body}
		checkMessage(t, give, len(body) <= 15000)
		text, ok := impl.MessageText(give)
		if !ok {
			continue
		}
		heard, _ := impl.ReadMessage(text)
		back, ok := impl.ReadJob(heard.Body)
		if !ok || toldJob(back) != toldJob(j) {
			t.Fatalf("%s does not come back", toldJob(j))
		}
		delta := impl.DeltaOf(back.Code, back.Begin, back.Names, back.Lines)
		checkSame(t, "DeltaOf of what comes back", delta, impl.DeltaOf(j.Code, j.Begin, j.Names, j.Lines))
		result, _ := impl.StoreText(delta)
		tell := impl.Message{Kind: impl.MsTell, Worker: give.Worker, Task: give.Task, Try: give.Try, Body: result}
		checkMessage(t, tell, len(result) <= 15000)
		if text, ok := impl.MessageText(tell); ok {
			heard, _ := impl.ReadMessage(text)
			gathered, _ := impl.ReadStore(heard.Body)
			checkSame(t, "what is told", gathered, delta)
			told++
		}
	}
	if told < 300 {
		t.Errorf("only %d were told", told)
	}
}

// A text of one thing is none of another one.
func TestTextsOfOtherThings(t *testing.T) {
	for _, text := range someStoreTexts() {
		checkNoJob(t, text)
		checkNoMessage(t, text)
	}
	for _, j := range someJobs(t) {
		if text := plainJobText(j); checkStoreRead(t, text) {
			t.Errorf("%q is a store", text)
		} else {
			checkNoMessage(t, text)
		}
	}
	for _, m := range someMessages(t) {
		checkNoJob(t, plainMessageText(m))
		checkStoreRead(t, plainMessageText(m))
	}
}

func textsOfJob(j impl.Job) []string {
	return slices.Concat(j.Code.Texts, textsOfStore(j.Begin), j.Names, j.Lines)
}

func roomyJob(j impl.Job) impl.Job {
	return impl.Job{Code: roomyCode(j.Code), Begin: roomyStore(j.Begin), Names: roomyTexts(j.Names), Lines: roomyTexts(j.Lines)}
}

func checkJobRoom(t *testing.T, j impl.Job) {
	t.Helper()
	checkCodeRoom(t, j.Code)
	checkStoreRoom(t, j.Begin)
	checkTextsRoom(t, j.Names)
	checkTextsRoom(t, j.Lines)
}

func TestWhatIsWrittenStaysAsItIs(t *testing.T) {
	for k := range uint64(600) {
		r := rand.New(rand.NewPCG(133, k))
		j := drawnJob(r)
		switch k % 6 {
		case 1:
			j.Begin = drawnWrongStore(r)
		case 2:
			j.Names = append(j.Names, "")
		case 3:
			j.Code.Begin = 1
		}
		j = roomyJob(j)
		was := toldJob(j)
		impl.JobOk(j)
		text, _ := impl.JobText(j)
		begin, _ := impl.StoreText(j.Begin)
		checkNew(t, "JobText", []string{text}, textsOfJob(j))
		checkNew(t, "StoreText", []string{begin}, textsOfJob(j))
		for _, handedIn := range textsOfJob(j) {
			if sharesMemory(text, handedIn) || sharesMemory(begin, handedIn) {
				t.Fatal("the text of a job shares memory with it")
			}
		}
		again, _ := impl.JobText(j)
		if toldJob(j) != was || again != text {
			t.Fatal("a job is not as it was")
		}
		checkJobRoom(t, j)
		m := drawnWrongMessage(r)
		m.Body = strings.Clone(m.Body)
		impl.MessageOk(m)
		whole, _ := impl.MessageText(m)
		if sharesMemory(m.Body, whole) || sharesMemory(whole, m.Body) {
			t.Fatal("the text of a message shares memory with its body")
		}
	}
	// A store that is nothing but Out, a message that is mostly Body.
	out, body := strings.Repeat("o", 3000), strings.Repeat("b", 15000)
	text, _ := impl.StoreText(impl.Store{Out: out})
	checkNew(t, "StoreText", []string{text, text[len(text)-1:]}, []string{out})
	whole, _ := impl.MessageText(impl.Message{Kind: impl.MsGive, Worker: 1, Body: body})
	checkNew(t, "MessageText", []string{whole, whole[100:]}, []string{body})
}

func TestWhatIsReadIsNew(t *testing.T) {
	for k := range uint64(600) {
		r := rand.New(rand.NewPCG(134, k))
		form := strings.Clone(plainStoreText(drawnRightStore(r)))
		s, ok := impl.ReadStore(form)
		if !ok {
			t.Fatal("a store does not come back")
		}
		checkNew(t, "ReadStore", textsOfStore(s), []string{form})
		form = strings.Clone(plainJobText(drawnJob(r)))
		j, ok := impl.ReadJob(form)
		if !ok {
			t.Fatal("a job does not come back")
		}
		checkNew(t, "ReadJob", textsOfJob(j), []string{form})
		form = strings.Clone(plainMessageText(drawnMessage(r)))
		m, ok := impl.ReadMessage(form)
		if !ok {
			t.Fatal("a message does not come back")
		}
		checkNew(t, "ReadMessage", []string{m.Body}, []string{form})
	}
}

func spoilTexts(list []string) {
	for i := range list[:cap(list)] {
		list[:cap(list)][i] = "spoilt"
	}
}

// spoilOne writes into one of the lists of a job, and into the spare room behind it.
func spoilOne(j impl.Job, which int) {
	switch which {
	case 0:
		spoilTexts(j.Code.Texts)
	case 1:
		for i := range j.Code.List[:cap(j.Code.List)] {
			j.Code.List[:cap(j.Code.List)][i] = instr(-7, -7)
		}
	case 2:
		spoilStore(impl.Store{Vars: j.Begin.Vars})
	case 3:
		spoilStore(impl.Store{Cells: j.Begin.Cells})
	case 4:
		spoilTexts(j.Names)
	default:
		spoilTexts(j.Lines)
	}
}

// withoutOne has none of one of the lists of a job.
func withoutOne(j impl.Job, which int) impl.Job {
	switch which {
	case 0:
		j.Code.Texts = nil
	case 1:
		j.Code.List = nil
	case 2:
		j.Begin.Vars = nil
	case 3:
		j.Begin.Cells = nil
	case 4:
		j.Names = nil
	default:
		j.Lines = nil
	}
	return j
}

func TestListsOfAJobShareNothing(t *testing.T) {
	for k := range uint64(300) {
		r := rand.New(rand.NewPCG(135, k))
		form := plainJobText(drawnJob(r))
		first, _ := impl.ReadJob(form)
		told := toldJob(first)
		for which := range 6 {
			other, _ := impl.ReadJob(form)
			spoilOne(other, which)
			if toldJob(withoutOne(other, which)) != toldJob(withoutOne(first, which)) {
				t.Fatalf("list %d of a job shares memory with another one", which)
			}
			if again, ok := impl.ReadJob(form); !ok || toldJob(again) != told || toldJob(first) != told {
				t.Fatalf("an answer hangs on one that was written into, list %d", which)
			}
		}
		form = plainStoreText(drawnRightStore(r))
		s, _ := impl.ReadStore(form)
		was := toldStore(s)
		for range 2 {
			other, _ := impl.ReadStore(form)
			spoilStore(impl.Store{Vars: other.Vars})
			if !slices.Equal(other.Cells, s.Cells) {
				t.Fatal("Vars and Cells share memory")
			}
			spoilStore(other)
			if again, ok := impl.ReadStore(form); !ok || toldStore(again) != was || toldStore(s) != was {
				t.Fatal("an answer hangs on one that was written into")
			}
		}
	}
}

func TestMessagesOfNilAndEmptyLists(t *testing.T) {
	rows := [][]string{nil, {}, make([]string, 0, 5)}
	codes := []impl.Code{{}, {Texts: []string{}}, {List: []impl.Instr{}}, {Texts: make([]string, 0, 5), List: make([]impl.Instr, 0, 5)}}
	for _, s := range []impl.Store{{}, {Vars: []impl.Var{}}, {Cells: []impl.Cell{}}, {Vars: make([]impl.Var, 0, 5), Cells: make([]impl.Cell, 0, 5)}} {
		if text, ok := impl.StoreText(s); !ok || text != "\x00\x00\x00" {
			t.Errorf("StoreText of no store = %q, %v", text, ok)
		}
		for _, c := range codes {
			for _, names := range rows {
				for _, lines := range rows {
					j := impl.Job{Code: c, Begin: s, Names: names, Lines: lines}
					if text, ok := impl.JobText(j); !ok || !impl.JobOk(j) || text != "\x04\x00\x00\x00\x00\x03\x00\x00\x00\x00\x00" {
						t.Errorf("JobText of no job = %q, %v", text, ok)
					}
				}
			}
		}
	}
	s, ok := impl.ReadStore("\x00\x00\x00")
	j, right := impl.ReadJob("\x04\x00\x00\x00\x00\x03\x00\x00\x00\x00\x00")
	if !ok || !right || toldStore(s) != toldStore(impl.Store{}) || toldJob(j) != toldJob(impl.Job{}) || len(j.Names) != 0 || len(j.Lines) != 0 {
		t.Errorf("of nothing come %s, %v and %s, %v", toldStore(s), ok, toldJob(j), right)
	}
}

// What is refused is told by nothing but zero values.
func TestWhatIsRefusedIsNothing(t *testing.T) {
	for _, text := range []string{"", "\x00", "\x01\x01n\x011\x00\x01", "\x01\x01n\x011\x00\x00x", "\x02\x01b\x00\x01a\x00\x00\x00"} {
		if s, ok := impl.ReadStore(text); ok || s.Vars != nil || s.Cells != nil || s.Out != "" {
			t.Errorf("ReadStore(%q) = %#v, %v", text, s, ok)
		}
	}
	whole := plainJobText(someJobs(t)[3])
	for _, text := range []string{"", whole[:len(whole)-1], whole + "x", whole[1:]} {
		j, ok := impl.ReadJob(text)
		if ok || j.Code.Texts != nil || j.Code.List != nil || j.Code.Line != 0 || j.Code.End != 0 || j.Begin.Vars != nil || j.Begin.Cells != nil || j.Begin.Out != "" || j.Names != nil || j.Lines != nil {
			t.Errorf("ReadJob(%q) = %#v, %v", text, j, ok)
		}
	}
}

func TestMessagesDoNotHangOnEarlierOnes(t *testing.T) {
	j := someJobs(t)[3]
	m := impl.Message{Kind: impl.MsGive, Worker: 1, Task: 2, Try: 3, Body: plainJobText(j)}
	tell := func() string {
		text, ok := impl.MessageText(m)
		heard, right := impl.ReadMessage(text)
		back, well := impl.ReadJob(heard.Body)
		begin, fine := impl.StoreText(back.Begin)
		return fmt.Sprintf("%q %v %s %v %s %v %q %v", text, ok, toldMessage(heard), right, toldJob(back), well, begin, fine)
	}
	first := tell()
	for k := range uint64(200) {
		r := rand.New(rand.NewPCG(136, k))
		checkMessage(t, drawnMessage(r), true)
		impl.ReadJob(turnedText(r, plainJobText(drawnJob(r))))
		impl.ReadStore(turnedText(r, plainStoreText(drawnRightStore(r))))
		impl.ReadMessage(turnedText(r, plainMessageText(drawnMessage(r))))
		impl.JobText(impl.Job{Begin: drawnWrongStore(r)})
		if tell() != first {
			t.Fatal("an answer hangs on earlier ones")
		}
	}
}
