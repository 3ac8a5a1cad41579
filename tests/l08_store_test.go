package tests

import (
	"fmt"
	"math/rand/v2"
	"slices"
	"strings"
	"testing"

	"loop.example/g00237/impl"
)

func checkSame(t *testing.T, what string, got impl.Store, want impl.Store) {
	t.Helper()
	if !slices.Equal(got.Vars, want.Vars) || !slices.Equal(got.Cells, want.Cells) || got.Out != want.Out {
		t.Fatalf("%s is\n%.2000s\nwant\n%.2000s", what, toldStore(got), toldStore(want))
	}
}

// checkSetVar checks what SetVar and VarOf answer of any store, and of a right one that what is set is there and all else stays.
func checkSetVar(t *testing.T, s impl.Store, name string, val string) impl.Store {
	t.Helper()
	what := fmt.Sprintf("SetVar of %.50q, %.50q", name, val)
	set := impl.SetVar(s, name, val)
	checkSame(t, what, set, plainSetVar(s, name, val))
	if got, want := impl.VarOf(set, name), plainValue(asCells(set.Vars), name, ""); got != want {
		t.Fatalf("behind %s VarOf is %q; want %q", what, got, want)
	}
	if !plainStoreOk(s) {
		return set
	}
	for _, v := range s.Vars {
		if v.Name != name && impl.VarOf(set, v.Name) != v.Val {
			t.Fatalf("%s changes %q", what, v.Name)
		}
	}
	isThere := slices.ContainsFunc(s.Vars, func(v impl.Var) bool { return v.Name == name })
	if fits := isThere || len(s.Vars) < 60; fits && impl.VarOf(set, name) != plainCut(val, 40) {
		t.Fatalf("behind %s it is %q", what, impl.VarOf(set, name))
	} else if !fits {
		checkSame(t, what, set, s)
	}
	if !slices.Equal(set.Cells, s.Cells) || set.Out != s.Out {
		t.Fatalf("%s changes cells, or Out", what)
	}
	if aStoreName.MatchString(name) && !impl.StoreOk(set) {
		t.Fatalf("behind %s the store is not right", what)
	}
	return set
}

// checkSetCell is checkSetVar of cells.
func checkSetCell(t *testing.T, s impl.Store, name string, key string, val string) impl.Store {
	t.Helper()
	what := fmt.Sprintf("SetCell of %.50q, %.50q, %.50q", name, key, val)
	cut := plainCut(key, 40)
	set := impl.SetCell(s, name, key, val)
	checkSame(t, what, set, plainSetCell(s, name, key, val))
	if got, want := impl.CellOf(set, name, key), plainValue(set.Cells, name, cut); got != want {
		t.Fatalf("behind %s CellOf is %q; want %q", what, got, want)
	}
	if !plainStoreOk(s) {
		return set
	}
	for _, c := range s.Cells {
		if !isCell(c, name, cut) && impl.CellOf(set, c.Name, c.Key) != c.Val {
			t.Fatalf("%s changes %q, %q", what, c.Name, c.Key)
		}
	}
	isThere := slices.ContainsFunc(s.Cells, func(c impl.Cell) bool { return isCell(c, name, cut) })
	if fits := isThere || len(s.Cells) < 2000; fits && impl.CellOf(set, name, key) != plainCut(val, 40) {
		t.Fatalf("behind %s it is %q", what, impl.CellOf(set, name, key))
	} else if !fits {
		checkSame(t, what, set, s)
	}
	if !slices.Equal(set.Vars, s.Vars) || set.Out != s.Out {
		t.Fatalf("%s changes names, or Out", what)
	}
	if aStoreName.MatchString(name) && !impl.StoreOk(set) {
		t.Fatalf("behind %s the store is not right", what)
	}
	return set
}

func checkSay(t *testing.T, s impl.Store, line string) impl.Store {
	t.Helper()
	said := impl.Say(s, line)
	checkSame(t, fmt.Sprintf("Say of %.50q", line), said, plainSay(s, line))
	return said
}

func checkDump(t *testing.T, s impl.Store, name string) impl.Store {
	t.Helper()
	dumped := impl.Dump(s, name)
	checkSame(t, fmt.Sprintf("Dump of %.50q", name), dumped, plainDump(s, name))
	return dumped
}

func checkStoreOk(t *testing.T, s impl.Store, want bool) {
	t.Helper()
	if plain := plainStoreOk(s); plain != want {
		t.Fatalf("said to be %v, but %v: %.500s", want, plain, toldStore(s))
	}
	if got := impl.StoreOk(s); got != want {
		t.Fatalf("StoreOk is %v; want %v, of %.500s", got, want, toldStore(s))
	}
}

func vars(pairs ...string) []impl.Var {
	list := []impl.Var{}
	for pair := range slices.Chunk(pairs, 2) {
		list = append(list, impl.Var{Name: pair[0], Val: pair[1]})
	}
	return list
}

func cells(threes ...string) []impl.Cell {
	list := []impl.Cell{}
	for three := range slices.Chunk(threes, 3) {
		list = append(list, impl.Cell{Name: three[0], Key: three[1], Val: three[2]})
	}
	return list
}

func TestStoreLimits(t *testing.T) {
	if impl.MaxOut != 3000 {
		t.Error("a limit is not the document's")
	}
}

func TestNamesByHand(t *testing.T) {
	s := checkSetVar(t, impl.Store{}, "m", "1")
	checkSame(t, "of nothing", s, impl.Store{Vars: vars("m", "1")})
	s = checkSetVar(t, s, "c", "2")
	checkSame(t, "ahead of all", s, impl.Store{Vars: vars("c", "2", "m", "1")})
	s = checkSetVar(t, s, "x", "3")
	checkSame(t, "behind all", s, impl.Store{Vars: vars("c", "2", "m", "1", "x", "3")})
	s = checkSetVar(t, s, "d", "4")
	checkSame(t, "between two", s, impl.Store{Vars: vars("c", "2", "d", "4", "m", "1", "x", "3")})
	// Texts are compared byte by byte, and a beginning is less.
	s = checkSetVar(t, s, "cc", "5")
	s = checkSetVar(t, s, "X", "6")
	checkSame(t, "by bytes", s, impl.Store{Vars: vars("X", "6", "c", "2", "cc", "5", "d", "4", "m", "1", "x", "3")})
	for i, name := range []string{"X", "c", "cc", "d", "m", "x"} {
		set := checkSetVar(t, s, name, "new")
		if len(set.Vars) != 6 || set.Vars[i] != (impl.Var{Name: name, Val: "new"}) {
			t.Errorf("%q is not set in its place: %q", name, set.Vars)
		}
	}
}

func TestCellsByHand(t *testing.T) {
	s := checkSetCell(t, impl.Store{}, "m", "k", "1")
	checkSame(t, "of nothing", s, impl.Store{Cells: cells("m", "k", "1")})
	s = checkSetCell(t, s, "m", "c", "2")
	s = checkSetCell(t, s, "c", "z", "3")
	checkSame(t, "ahead of all", s, impl.Store{Cells: cells("c", "z", "3", "m", "c", "2", "m", "k", "1")})
	s = checkSetCell(t, s, "m", "q", "4")
	s = checkSetCell(t, s, "x", "", "5")
	checkSame(t, "behind all", s, impl.Store{Cells: cells("c", "z", "3", "m", "c", "2", "m", "k", "1", "m", "q", "4", "x", "", "5")})
	s = checkSetCell(t, s, "m", "d", "6")
	s = checkSetCell(t, s, "d", "zz", "7")
	checkSame(t, "between two", s, impl.Store{Cells: cells("c", "z", "3", "d", "zz", "7", "m", "c", "2", "m", "d", "6", "m", "k", "1", "m", "q", "4", "x", "", "5")})
	for i, c := range s.Cells {
		set := checkSetCell(t, s, c.Name, c.Key, "new")
		if len(set.Cells) != 7 || set.Cells[i] != (impl.Cell{Name: c.Name, Key: c.Key, Val: "new"}) {
			t.Errorf("%q is not set in its place: %q", c, set.Cells)
		}
	}
}

func TestWhatIsSetIsThere(t *testing.T) {
	for k := range uint64(20000) {
		r := rand.New(rand.NewPCG(81, k))
		s := drawnRightStore(r)
		checkStoreOk(t, s, true)
		checkSetVar(t, s, drawnWrongName(r), drawnVal(r))
		checkSetCell(t, s, drawnWrongName(r), drawnKey(r), drawnVal(r))
	}
}

// drawnStep does one thing to a store, and checks what comes of it.
func drawnStep(t *testing.T, r *rand.Rand, s impl.Store, name string) impl.Store {
	switch r.IntN(6) {
	case 0, 1:
		return checkSetVar(t, s, name, drawnVal(r))
	case 2, 3:
		return checkSetCell(t, s, name, drawnKey(r), drawnVal(r))
	case 4:
		return checkSay(t, s, strings.Repeat(drawnVal(r), r.IntN(9)))
	}
	return checkDump(t, s, name)
}

func TestDrawnStores(t *testing.T) {
	for k := range uint64(500) {
		r := rand.New(rand.NewPCG(82, k))
		s := impl.Store{}
		for range 60 {
			s = drawnStep(t, r, s, drawnName(r))
			checkStoreOk(t, s, true)
		}
	}
}

func TestNoMemoryOfOrder(t *testing.T) {
	names := []string{"a", "A", "ab", "b", "Zz", "zzzzzzzz", "m", "M"}
	for k := range uint64(200) {
		r := rand.New(rand.NewPCG(83, k))
		s := impl.Store{}
		for _, i := range r.Perm(len(names)) {
			s = impl.SetVar(s, names[i], names[i])
			for _, j := range r.Perm(len(names)) {
				s = impl.SetCell(s, names[i], names[j], names[j])
			}
		}
		slices.Sort(names)
		for i, name := range names {
			if s.Vars[i] != (impl.Var{Name: name, Val: name}) {
				t.Fatalf("at %d stands %q", i, s.Vars[i])
			}
			for j, key := range names {
				if place := i*len(names) + j; s.Cells[place] != (impl.Cell{Name: name, Key: key, Val: key}) {
					t.Fatalf("at %d stands %q", place, s.Cells[place])
				}
			}
		}
	}
}

func TestKeysThatAreCut(t *testing.T) {
	long := strings.Repeat("abcdefghij", 10000)
	for _, size := range []int{0, 1, 39, 40, 41, 42, 79, 80, 81, 3000, 20001, 100000} {
		key := long[:size]
		for _, ground := range []impl.Store{{}, {Cells: cells("t", "a", "1", "t", "abcdefghijz", "2", "u", "", "3")}, {Cells: cells("t", plainCut(key, 40), "old")}} {
			s := checkSetCell(t, ground, "t", key, "new")
			if !slices.Contains(s.Cells, impl.Cell{Name: "t", Key: plainCut(key, 40), Val: "new"}) {
				t.Fatalf("a key of %d bytes stands in %.300q", size, s.Cells)
			}
			for _, other := range []string{key, plainCut(key, 40)} {
				if got := impl.CellOf(s, "t", other); got != "new" {
					t.Fatalf("CellOf of a key of %d bytes is %q", len(other), got)
				}
			}
		}
	}
	// Two keys that are the same when they are cut are one cell.
	forty := long[:40]
	s := checkSetCell(t, impl.Store{}, "t", forty+"x", "1")
	s = checkSetCell(t, s, "t", forty+"y", "2")
	s = checkSetCell(t, s, "t", forty, "3")
	checkSame(t, "one cell", s, impl.Store{Cells: cells("t", forty, "3")})
	for _, key := range []string{forty, forty + "x", forty + "y", forty + "\x00", forty + forty} {
		if got := impl.CellOf(s, "t", key); got != "3" {
			t.Errorf("CellOf of %q is %q", key, got)
		}
	}
	// Two that are not the same when they are cut are two.
	s = checkSetCell(t, s, "t", forty[:39], "4")
	s = checkSetCell(t, s, "t", forty[:39]+"zz", "5")
	checkSame(t, "three cells", s, impl.Store{Cells: cells("t", forty[:39], "4", "t", forty, "3", "t", forty[:39]+"z", "5")})
	for key, want := range map[string]string{forty[:38]: "", forty[:39]: "4", forty: "3", forty + "!": "3", forty[:39] + "z": "5", forty[:39] + "zzz": "5", forty[:39] + "y": ""} {
		if got := impl.CellOf(s, "t", key); got != want {
			t.Errorf("CellOf of %q is %q; want %q", key, got, want)
		}
	}
}

func TestValuesThatAreCut(t *testing.T) {
	long := strings.Repeat("0123456789", 10000)
	for _, size := range []int{0, 1, 39, 40, 41, 42, 80, 3000, 100000} {
		want := plainCut(long[:size], 40)
		s := checkSetVar(t, impl.Store{Vars: vars("n", "old")}, "n", long[:size])
		s = checkSetVar(t, s, "m", long[:size])
		s = checkSetCell(t, s, "n", "k", long[:size])
		s = checkSetCell(t, s, "n", "k", long[:size])
		checkSame(t, "cut", s, impl.Store{Vars: vars("m", want, "n", want), Cells: cells("n", "k", want)})
	}
}

func TestNamesAreNotCut(t *testing.T) {
	long := strings.Repeat("n", 100)
	s := impl.Store{}
	for _, size := range []int{100, 8, 41, 9, 40, 0} {
		s = checkSetVar(t, s, long[:size], fmt.Sprint(size))
		s = checkSetCell(t, s, long[:size], "k", fmt.Sprint(size))
	}
	if len(s.Vars) != 6 || len(s.Cells) != 6 {
		t.Fatalf("there are %d names and %d cells", len(s.Vars), len(s.Cells))
	}
	for i, size := range []int{0, 8, 9, 40, 41, 100} {
		name, want := long[:size], fmt.Sprint(size)
		if s.Vars[i].Name != name || impl.VarOf(s, name) != want || s.Cells[i].Name != name || impl.CellOf(s, name, "k") != want {
			t.Errorf("a name of %d bytes has %q and %q", size, impl.VarOf(s, name), impl.CellOf(s, name, "k"))
		}
		if d := checkDump(t, s, name); d.Out != "k "+want+"\n" {
			t.Errorf("of a name of %d bytes %q is told", size, d.Out)
		}
	}
	if impl.VarOf(s, long[:42]) != "" || impl.CellOf(s, long[:42], "k") != "" {
		t.Error("a name is cut")
	}
	checkStoreOk(t, s, false)
}

func TestNumberOfNames(t *testing.T) {
	for _, count := range []int{0, 1, 58, 59, 60, 61, 62, 100} {
		s := impl.Store{Vars: manyVars(count), Cells: manyCells(3), Out: "out"}
		checkStoreOk(t, s, count <= 60)
		for i := range count {
			set := checkSetVar(t, s, lettered(2*i+1), "new")
			if isSet := impl.VarOf(set, lettered(2*i+1)) == "new"; isSet != (count <= 60) {
				t.Fatalf("of %d names, one that is there is set: %v", count, isSet)
			}
		}
		for i := range count + 1 {
			set := checkSetVar(t, s, lettered(2*i), "new")
			if isSet := impl.VarOf(set, lettered(2*i)) == "new"; isSet != (count < 60) || len(set.Vars) != count && !isSet {
				t.Fatalf("of %d names, one that is not there is set: %v", count, isSet)
			}
			checkStoreOk(t, set, count <= 60)
		}
		// Names do not take the room of cells.
		checkSetCell(t, s, "t", "k", "1")
	}
}

func TestNumberOfCells(t *testing.T) {
	for _, count := range []int{0, 1, 61, 1999, 2000, 2001, 2500} {
		s := impl.Store{Vars: manyVars(60), Cells: manyCells(count)}
		checkStoreOk(t, s, count <= 2000)
		for place := 0; place < count; place += 1 + count/9 {
			c := s.Cells[place]
			set := checkSetCell(t, s, c.Name, c.Key, "new")
			if isSet := set.Cells[place].Val == "new"; isSet != (count <= 2000) || len(set.Cells) != count {
				t.Fatalf("of %d cells, one that is there is set: %v", count, isSet)
			}
		}
		for place := 0; place <= count; place += 1 + count/9 {
			key := fmt.Sprintf("%05d", 2*place)
			for _, name := range []string{"a", "x", "y", "z", "zz"} {
				set := checkSetCell(t, s, name, key, "new")
				if isSet := impl.CellOf(set, name, key) == "new"; isSet != (count < 2000) || isSet != (len(set.Cells) == count+1) {
					t.Fatalf("of %d cells, one that is not there is set: %v", count, isSet)
				}
				checkStoreOk(t, set, count <= 2000)
			}
		}
		// Cells do not take the room of names.
		checkSetVar(t, s, lettered(1), "new")
	}
}

func TestStoresFillUp(t *testing.T) {
	s := impl.Store{}
	for i := range 70 {
		s = impl.SetVar(s, lettered(i*37%70), fmt.Sprint(i))
		if len(s.Vars) != min(i+1, 60) || !impl.StoreOk(s) {
			t.Fatalf("%d names are set, %d stand there", i+1, len(s.Vars))
		}
	}
	for i := range 2010 {
		s = impl.SetCell(s, "t", fmt.Sprintf("%04d", i*7%2010), fmt.Sprint(i))
		if len(s.Cells) != min(i+1, 2000) {
			t.Fatalf("%d cells are set, %d stand there", i+1, len(s.Cells))
		}
	}
	checkStoreOk(t, s, true)
	// Those that came first stand there.
	for i := range 70 {
		if got := impl.VarOf(s, lettered(i*37%70)) == fmt.Sprint(i); got != (i < 60) {
			t.Errorf("name %d stands there: %v", i, got)
		}
	}
	for i := range 2010 {
		if got := impl.CellOf(s, "t", fmt.Sprintf("%04d", i*7%2010)) == fmt.Sprint(i); got != (i < 2000) {
			t.Errorf("cell %d stands there: %v", i, got)
		}
	}
}

func TestCellsAreOfNameAndKey(t *testing.T) {
	s := impl.Store{}
	// What is the same put together is not the same.
	all := cells("a", "bc", "1", "ab", "c", "2", "abc", "", "3", "a", "b", "4", "b", "a", "5", "a", "", "6", "b", "", "7", "b", "b", "8", "a", "a", "9", "a", " b", "10")
	for _, c := range all {
		s = checkSetCell(t, s, c.Name, c.Key, c.Val)
	}
	if len(s.Cells) != len(all) {
		t.Fatalf("there are %d cells: %q", len(s.Cells), s.Cells)
	}
	for _, c := range all {
		if got := impl.CellOf(s, c.Name, c.Key); got != c.Val {
			t.Errorf("CellOf of %q, %q is %q; want %q", c.Name, c.Key, got, c.Val)
		}
	}
	if impl.CellOf(s, "c", "") != "" || impl.CellOf(s, "", "") != "" || impl.CellOf(s, "a", "c") != "" || impl.CellOf(s, "bc", "a") != "" || impl.CellOf(s, "A", "b") != "" {
		t.Error("CellOf answers where there is none")
	}
	// A cell without a key is no name, and a name is no cell.
	if impl.VarOf(s, "a") != "" || impl.CellOf(impl.Store{Vars: vars("a", "1")}, "a", "") != "" {
		t.Error("a name and a cell are taken for each other")
	}
	s = checkSetVar(t, s, "a", "name")
	if impl.VarOf(s, "a") != "name" || impl.CellOf(s, "a", "") != "6" {
		t.Error("a name and a cell are set for each other")
	}
}

func TestEmptyTexts(t *testing.T) {
	s := checkSetVar(t, impl.Store{}, "a", "")
	s = checkSetCell(t, s, "t", "", "")
	checkSame(t, "empty", s, impl.Store{Vars: vars("a", ""), Cells: cells("t", "", "")})
	if impl.VarOf(s, "a") != "" || impl.VarOf(s, "b") != "" || impl.CellOf(s, "t", "") != "" || impl.CellOf(s, "t", "x") != "" {
		t.Error("what is empty is something")
	}
	if impl.SameStore(s, impl.Store{}) {
		t.Error("an empty Val is not there")
	}
	if d := checkDump(t, s, "t"); d.Out != " \n" {
		t.Errorf("%q is told", d.Out)
	}
	s = checkSetVar(t, s, "a", "1")
	s = checkSetVar(t, s, "a", "")
	s = checkSetCell(t, s, "t", "", "1")
	s = checkSetCell(t, s, "t", "", "")
	checkSame(t, "empty again", s, impl.Store{Vars: vars("a", ""), Cells: cells("t", "", "")})
	// What is set to the empty text takes room, too.
	full := impl.Store{Vars: manyVars(59)}
	full = checkSetVar(t, full, "zz", "")
	if len(full.Vars) != 60 {
		t.Fatal("an empty Val takes no room")
	}
	checkSame(t, "full", checkSetVar(t, full, "zzz", "1"), full)
	checkSame(t, "full", checkSetVar(t, full, "zzz", ""), full)
}

func TestValuesOfNothing(t *testing.T) {
	for _, s := range []impl.Store{{}, {Vars: vars("b", "1", "d", "2"), Cells: cells("b", "b", "1", "d", "d", "2"), Out: "b"}} {
		for _, name := range []string{"", "a", "c", "e", "B", "bb", "b ", strings.Repeat("b", 41)} {
			if got := impl.VarOf(s, name); got != "" {
				t.Errorf("VarOf of %q is %q", name, got)
			}
			for _, other := range []string{"b", "d", name} {
				if impl.CellOf(s, name, other) != "" || impl.CellOf(s, other, name) != "" {
					t.Errorf("CellOf of %q, %q is something", name, other)
				}
			}
		}
	}
}

func TestSay(t *testing.T) {
	ground := impl.Store{Vars: vars("a", "1"), Cells: cells("t", "k", "2")}
	s := checkSay(t, ground, "one")
	s = checkSay(t, s, "")
	s = checkSay(t, s, "two\nthree")
	s = checkSay(t, s, "\n")
	s = checkSay(t, s, "\x00\xff\"")
	if s.Out != "one\n\ntwo\nthree\n\n\n\x00\xff\"\n" {
		t.Errorf("Out is %q", s.Out)
	}
	if !slices.Equal(s.Vars, ground.Vars) || !slices.Equal(s.Cells, ground.Cells) {
		t.Error("Say changes something else")
	}
	// Lines are not cut as values are.
	if got := impl.Say(impl.Store{}, strings.Repeat("l", 2000)).Out; got != strings.Repeat("l", 2000)+"\n" {
		t.Errorf("of a line of 2000 bytes %d stand there", len(got))
	}
}

func TestSayUpToTheEnd(t *testing.T) {
	long := strings.Repeat("0123456789", 10000)
	for _, before := range []int{0, 1, 1500, 2997, 2998, 2999, 3000, 3001, 3002, 4000, 100000} {
		for _, size := range []int{0, 1, 2, 3, 40, 41, 1498, 1499, 1500, 1501, 2997, 2998, 2999, 3000, 3001, 3002, 6000, 100000} {
			s := checkSay(t, impl.Store{Out: strings.Repeat("o", before)}, long[:size])
			if want := min(before+size+1, 3000); len(s.Out) != want {
				t.Fatalf("%d and a line of %d make %d; want %d", before, size, len(s.Out), want)
			}
			if endsLine := strings.HasSuffix(s.Out, "\n"); endsLine != (before+size+1 <= 3000) {
				t.Fatalf("%d and a line of %d end a line: %v", before, size, endsLine)
			}
			checkStoreOk(t, s, true)
			// What is full stays full.
			if len(s.Out) == 3000 {
				checkSame(t, "full", checkSay(t, s, "more"), s)
			}
		}
	}
}

func TestDumpByHand(t *testing.T) {
	s := impl.Store{
		Vars:  vars("t", "no cell", "u", "nor this"),
		Cells: cells("s", "z", "0", "t", "", "1", "t", "10", "two words", "t", "9", "", "t", "a b", "3", "tt", "a", "4", "u", "k", "x\ny"),
		Out:   "before\n",
	}
	checkStoreOk(t, s, true)
	for name, want := range map[string]string{"t": " 1\n10 two words\n9 \na b 3\n", "s": "z 0\n", "tt": "a 4\n", "u": "k x\ny\n", "v": "", "": "", "T": "", "ttt": "", "a": ""} {
		d := checkDump(t, s, name)
		if d.Out != "before\n"+want {
			t.Errorf("of %q is told %q", name, d.Out)
		}
		if !slices.Equal(d.Vars, s.Vars) || !slices.Equal(d.Cells, s.Cells) {
			t.Errorf("Dump of %q changes something else", name)
		}
	}
	if d := checkDump(t, checkDump(t, s, "s"), "tt"); d.Out != "before\nz 0\na 4\n" {
		t.Errorf("one behind the other tell %q", d.Out)
	}
}

func TestDumpIsSayOfEachCell(t *testing.T) {
	for k := range uint64(5000) {
		r := rand.New(rand.NewPCG(84, k))
		s := drawnRightStore(r)
		if k%2 == 1 {
			s = drawnWrongStore(r)
		}
		name := drawnWrongName(r)
		want := copyOfStore(s)
		for _, c := range s.Cells {
			if c.Name == name {
				want = impl.Say(want, c.Key+" "+c.Val)
			}
		}
		checkSame(t, "Dump", checkDump(t, s, name), want)
	}
}

func TestDumpOfMoreThanFits(t *testing.T) {
	s := impl.Store{Vars: vars("x", "1")}
	for i := range 2000 {
		s.Cells = append(s.Cells, impl.Cell{Name: string("xy"[i/1000]), Key: fmt.Sprintf("%04d", i), Val: "v"})
	}
	checkStoreOk(t, s, true)
	for before := range 20 {
		s.Out = strings.Repeat("o", before)
		// Each line has seven bytes.
		d := checkDump(t, s, "x")
		if len(d.Out) != 3000 || !strings.HasPrefix(d.Out, s.Out+"0000 v\n0001 v\n") || strings.HasSuffix(d.Out, "\n") != ((3000-before)%7 == 0) {
			t.Errorf("behind %d bytes %d are told, at the end %q", before, len(d.Out), d.Out[len(d.Out)-9:])
		}
		checkStoreOk(t, d, true)
	}
	for before := 2980; before <= 3020; before++ {
		s.Out = strings.Repeat("o", before)
		if d := checkDump(t, s, "y"); len(d.Out) != 3000 {
			t.Errorf("behind %d bytes %d are told", before, len(d.Out))
		}
		// None is said, so that nothing is cut.
		if d := checkDump(t, s, "z"); d.Out != s.Out {
			t.Errorf("behind %d bytes of nothing %d are told", before, len(d.Out))
		}
	}
}

func TestDumpOfJustWhatFits(t *testing.T) {
	// What the first 37 cells say is as long as told, behind which there is one more.
	for said := 2994; said < 3006; said++ {
		list := []impl.Cell{}
		for i := range 36 {
			list = append(list, impl.Cell{Name: "t", Key: fmt.Sprintf("%040d", i), Val: strings.Repeat("v", 40)})
		}
		list = append(list, impl.Cell{Name: "t", Key: "1", Val: strings.Repeat("w", said-36*82-3)}, impl.Cell{Name: "t", Key: "2", Val: "x"})
		for _, out := range []string{"", "o", strings.Repeat("o", 10)} {
			s := impl.Store{Cells: list, Out: out}
			if d := checkDump(t, s, "t"); len(d.Out) != min(said+4+len(out), 3000) {
				t.Errorf("of %d bytes behind %d it says %d", said, len(out), len(d.Out))
			}
		}
	}
}

func TestStoresThatAreRight(t *testing.T) {
	forty := strings.Repeat("v", 40)
	for _, s := range []impl.Store{
		{}, {Vars: []impl.Var{}, Cells: []impl.Cell{}},
		{Vars: manyVars(60), Cells: manyCells(2000), Out: strings.Repeat("o", 3000)},
		{Vars: vars("a", "", "abcdefgh", forty, "z", "\x00\xff\n")}, {Vars: vars("A", "1", "Z", "2", "a", "3", "aa", "4", "z", "5")},
		{Vars: vars("BEGIN", "", "NF", "", "if", "", "print", "")},
		{Cells: cells("a", "", "", "a", "\x00", "", "a", "a", "", "a", "aa", "", "a", forty, forty, "a", "\xff", "")},
		{Cells: cells("a", "z", "", "b", "a", "", "c", "", "")}, {Cells: cells("a", "k", "1", "b", "k", "1")}, {Cells: cells("if", "", "", "next", "", "")},
		{Vars: vars("t", "1"), Cells: cells("t", "", "1"), Out: "\x00\xff"},
	} {
		checkStoreOk(t, s, true)
	}
}

func TestStoresThatAreNotRight(t *testing.T) {
	more := strings.Repeat("v", 41)
	for _, s := range []impl.Store{
		{Vars: manyVars(61)}, {Cells: manyCells(2001)}, {Out: strings.Repeat("o", 3001)},
		{Vars: vars("a", more)}, {Cells: cells("a", more, "")}, {Cells: cells("a", "", more)},
		{Vars: vars("b", "1", "a", "2")}, {Vars: vars("a", "1", "c", "2", "b", "3")}, {Vars: vars("b", "1", "a", "2", "c", "3")}, {Vars: vars("aa", "", "a", "")}, {Vars: vars("a", "", "A", "")},
		{Vars: vars("a", "1", "a", "2")}, {Vars: vars("a", "1", "a", "1")}, {Vars: vars("a", "1", "b", "2", "b", "3", "c", "4")}, {Vars: vars("a", "1", "b", "2", "a", "1")},
		{Cells: cells("b", "k", "", "a", "k", "")}, {Cells: cells("b", "k", "", "a", "l", "")}, {Cells: cells("b", "", "", "a", "z", "")},
		{Cells: cells("a", "l", "", "a", "k", "")}, {Cells: cells("a", "k", "1", "a", "k", "1")}, {Cells: cells("a", "k", "1", "a", "k", "2")},
		{Cells: cells("a", "", "1", "a", "", "2")}, {Cells: cells("a", "a", "", "a", "", "")}, {Cells: cells("a", "9", "", "a", "10", "")}, {Cells: cells("ab", "a", "", "a", "ba", "")},
		{Cells: cells("a", "k", "", "b", "k", "", "a", "l", "")},
		{Vars: vars("", "")}, {Cells: cells("", "", "")}, {Vars: vars("", "", "a", "")}, {Cells: cells("", "a", "", "a", "a", "")},
	} {
		checkStoreOk(t, s, false)
	}
}

func TestNamesOfStores(t *testing.T) {
	for size := range 50 {
		name := strings.Repeat("n", size)
		checkStoreOk(t, impl.Store{Vars: vars(name, "")}, size >= 1 && size <= 8)
		checkStoreOk(t, impl.Store{Cells: cells(name, "", "")}, size >= 1 && size <= 8)
	}
	for b := range 256 {
		sign := string([]byte{byte(b)})
		isLetter := b >= 'a' && b <= 'z' || b >= 'A' && b <= 'Z'
		for _, name := range []string{sign, "a" + sign, sign + "a", "a" + sign + "a", "abcdefg" + sign} {
			checkStoreOk(t, impl.Store{Vars: vars(name, "")}, isLetter)
			checkStoreOk(t, impl.Store{Cells: cells(name, "", "")}, isLetter)
		}
	}
	for _, name := range []string{"é", "a1", "1", "a_", "a b", " a", "a ", "a\n", "ａ"} {
		checkStoreOk(t, impl.Store{Vars: vars(name, "")}, false)
		checkStoreOk(t, impl.Store{Cells: cells(name, "", "")}, false)
	}
}

func TestLengthsInStores(t *testing.T) {
	for size := 36; size < 45; size++ {
		text := strings.Repeat("t", size)
		checkStoreOk(t, impl.Store{Vars: vars("a", "", "b", text, "c", "")}, size <= 40)
		checkStoreOk(t, impl.Store{Cells: cells("a", "", "", "a", text, "", "b", "", "")}, size <= 40)
		checkStoreOk(t, impl.Store{Cells: cells("a", "", "", "a", "k", text, "b", "", "")}, size <= 40)
	}
	for size := 2995; size < 3006; size++ {
		checkStoreOk(t, impl.Store{Out: strings.Repeat("\n", size)}, size <= 3000)
	}
	for count := 57; count < 65; count++ {
		checkStoreOk(t, impl.Store{Vars: manyVars(count)}, count <= 60)
	}
	for count := 1997; count < 2005; count++ {
		checkStoreOk(t, impl.Store{Cells: manyCells(count)}, count <= 2000)
	}
}

func TestOneWrongThingAnywhere(t *testing.T) {
	right := impl.Store{Vars: manyVars(60), Cells: manyCells(30)}
	checkStoreOk(t, right, true)
	for place := range right.Vars {
		for _, wrong := range []impl.Var{{Name: "", Val: "1"}, {Name: right.Vars[place].Name + "1"}, {Name: right.Vars[place].Name, Val: strings.Repeat("v", 41)}, right.Vars[(place+59)%60]} {
			s := copyOfStore(right)
			s.Vars[place] = wrong
			checkStoreOk(t, s, false)
		}
	}
	for place, c := range right.Cells {
		for _, wrong := range []impl.Cell{{Key: c.Key}, {Name: c.Name + "1", Key: c.Key}, {Name: c.Name, Key: c.Key + strings.Repeat("k", 36)}, {Name: c.Name, Key: c.Key, Val: strings.Repeat("v", 41)}, right.Cells[(place+29)%30]} {
			s := copyOfStore(right)
			s.Cells[place] = wrong
			checkStoreOk(t, s, false)
		}
	}
}

func TestDrawnStoresAreRightOrNot(t *testing.T) {
	right, wrong := 0, 0
	for k := range uint64(20000) {
		r := rand.New(rand.NewPCG(85, k))
		s := drawnRightStore(r)
		if len(s.Cells) > 0 && k%2 == 1 {
			place := r.IntN(len(s.Cells))
			s.Cells[place] = impl.Cell{Name: drawnName(r), Key: drawnKey(r), Val: drawnVal(r)}
		}
		if len(s.Vars) > 0 && k%4 > 1 {
			s.Vars[r.IntN(len(s.Vars))].Name = drawnName(r)
		}
		if plainStoreOk(s) {
			right++
		} else {
			wrong++
		}
		checkStoreOk(t, s, plainStoreOk(s))
	}
	if right < 3000 || wrong < 3000 {
		t.Errorf("%d are right, %d are not", right, wrong)
	}
}

func checkSameStore(t *testing.T, a impl.Store, b impl.Store, want bool) {
	t.Helper()
	if impl.SameStore(a, b) != want || impl.SameStore(b, a) != want {
		t.Fatalf("SameStore is not %v of\n%.1000s\n%.1000s", want, toldStore(a), toldStore(b))
	}
}

// othersOfStore differ from it by one thing each.
func othersOfStore(s impl.Store) []impl.Store {
	var list []impl.Store
	other := func(change func(o *impl.Store)) {
		o := copyOfStore(s)
		change(&o)
		list = append(list, o)
	}
	for place := range s.Vars {
		other(func(o *impl.Store) { o.Vars[place].Name += "x" })
		other(func(o *impl.Store) { o.Vars[place].Val += "x" })
		other(func(o *impl.Store) { o.Vars = slices.Delete(o.Vars, place, place+1) })
		other(func(o *impl.Store) { o.Vars = slices.Insert(o.Vars, place, o.Vars[place]) })
	}
	for place := range s.Cells {
		other(func(o *impl.Store) { o.Cells[place].Name += "x" })
		other(func(o *impl.Store) { o.Cells[place].Key += "x" })
		other(func(o *impl.Store) { o.Cells[place].Val += "x" })
		other(func(o *impl.Store) { o.Cells = slices.Delete(o.Cells, place, place+1) })
		other(func(o *impl.Store) { o.Cells = slices.Insert(o.Cells, place, o.Cells[place]) })
	}
	other(func(o *impl.Store) { o.Vars = append(o.Vars, impl.Var{}) })
	other(func(o *impl.Store) { o.Cells = append(o.Cells, impl.Cell{}) })
	other(func(o *impl.Store) { o.Out += "\n" })
	other(func(o *impl.Store) { o.Out = "x" + o.Out })
	if len(s.Vars) > 1 && s.Vars[0] != s.Vars[1] {
		other(func(o *impl.Store) { o.Vars[0], o.Vars[1] = o.Vars[1], o.Vars[0] })
	}
	if len(s.Cells) > 1 && s.Cells[0] != s.Cells[1] {
		other(func(o *impl.Store) { o.Cells[0], o.Cells[1] = o.Cells[1], o.Cells[0] })
	}
	return list
}

func TestSameStore(t *testing.T) {
	for k := range uint64(300) {
		r := rand.New(rand.NewPCG(86, k))
		for _, s := range []impl.Store{drawnRightStore(r), drawnWrongStore(r)} {
			checkSameStore(t, s, s, true)
			checkSameStore(t, s, copyOfStore(s), true)
			for _, other := range othersOfStore(s) {
				checkSameStore(t, s, other, false)
			}
		}
	}
	big := impl.Store{Vars: manyVars(60), Cells: manyCells(2000), Out: strings.Repeat("o", 3000)}
	checkSameStore(t, big, copyOfStore(big), true)
	checkSameStore(t, big, impl.SetCell(big, "z", big.Cells[1999].Key, "new"), false)
	// Numbers are told as texts here: what is worth the same is not the same.
	checkSameStore(t, impl.Store{Vars: vars("a", "1")}, impl.Store{Vars: vars("a", "01")}, false)
	checkSameStore(t, impl.Store{Vars: vars("a", "")}, impl.Store{}, false)
	checkSameStore(t, impl.Store{Vars: vars("a", "1")}, impl.Store{Cells: cells("a", "", "1")}, false)
}

func TestSameStoreOfNilAndEmpty(t *testing.T) {
	empty := []impl.Store{{}, {Vars: []impl.Var{}}, {Cells: []impl.Cell{}}, {Vars: []impl.Var{}, Cells: []impl.Cell{}}, {Vars: make([]impl.Var, 0, 5), Cells: make([]impl.Cell, 0, 5)}}
	for _, a := range empty {
		for _, b := range empty {
			checkSameStore(t, a, b, true)
			checkSameStore(t, impl.SetVar(a, "n", "1"), impl.SetVar(b, "n", "1"), true)
			checkSameStore(t, impl.SetCell(a, "n", "k", "1"), impl.SetCell(b, "n", "k", "1"), true)
			checkSameStore(t, impl.Say(a, "line"), impl.Say(b, "line"), true)
			checkSameStore(t, impl.Dump(a, "n"), b, true)
			checkSameStore(t, a, impl.Store{Out: "\n"}, false)
			checkSameStore(t, a, impl.Store{Vars: []impl.Var{{}}}, false)
			checkSameStore(t, a, impl.Store{Cells: []impl.Cell{{}}}, false)
		}
		checkStoreOk(t, a, true)
		if impl.VarOf(a, "") != "" || impl.CellOf(a, "", "") != "" {
			t.Error("there is something in a store without anything")
		}
	}
}

func TestWrongStoresByHand(t *testing.T) {
	falling := impl.Store{Vars: vars("d", "1", "b", "2", "c", "3"), Cells: cells("d", "k", "1", "b", "k", "2", "b", "a", "3"), Out: "out"}
	for name, want := range map[string][]impl.Var{
		"d": vars("d", "new", "b", "2", "c", "3"), "b": vars("d", "1", "b", "new", "c", "3"), "c": vars("d", "1", "b", "2", "c", "new"),
		"a": vars("a", "new", "d", "1", "b", "2", "c", "3"), "e": vars("d", "1", "b", "2", "c", "3", "e", "new"),
	} {
		checkSame(t, "falling", checkSetVar(t, falling, name, "new"), impl.Store{Vars: want, Cells: falling.Cells, Out: "out"})
	}
	checkSame(t, "falling", checkSetCell(t, falling, "b", "a", "new"), impl.Store{Vars: falling.Vars, Cells: cells("d", "k", "1", "b", "k", "2", "b", "a", "new"), Out: "out"})
	if d := checkDump(t, falling, "b"); d.Out != "outk 2\na 3\n" {
		t.Errorf("%q is told", d.Out)
	}
	if impl.VarOf(falling, "b") != "2" || impl.VarOf(falling, "c") != "3" || impl.CellOf(falling, "b", "a") != "3" {
		t.Error("what stands out of its order is not found")
	}
	alike := impl.Store{Vars: vars("a", "1", "b", "2", "b", "3", "b", "4"), Cells: cells("t", "k", "1", "t", "k", "2"), Out: "out"}
	checkSame(t, "alike", checkSetVar(t, alike, "b", "new"), impl.Store{Vars: vars("a", "1", "b", "new", "b", "3", "b", "4"), Cells: alike.Cells, Out: "out"})
	checkSame(t, "alike", checkSetCell(t, alike, "t", "k", "new"), impl.Store{Vars: alike.Vars, Cells: cells("t", "k", "new", "t", "k", "2"), Out: "out"})
	checkSame(t, "alike", checkSetVar(t, alike, "a", "new"), impl.Store{Vars: vars("a", "new", "b", "2", "b", "3", "b", "4"), Cells: alike.Cells, Out: "out"})
	if impl.VarOf(alike, "b") != "2" || impl.CellOf(alike, "t", "k") != "1" {
		t.Error("of two alike the first one is taken")
	}
	if d := checkDump(t, alike, "t"); d.Out != "outk 1\nk 2\n" {
		t.Errorf("%q is told", d.Out)
	}
}

func TestWrongStoresWithTooMuch(t *testing.T) {
	// Of the name there are two, so that there are but 59, or 1999, others.
	s := impl.Store{Vars: append(manyVars(59), vars("zz", "1", "zz", "2")...), Cells: append(manyCells(1999), cells("zz", "k", "1", "zz", "k", "2")...)}
	if set := checkSetVar(t, s, "zz", "new"); impl.VarOf(set, "zz") != "new" || len(set.Vars) != 61 {
		t.Error("59 others are taken for 60")
	}
	if set := checkSetCell(t, s, "zz", "k", "new"); impl.CellOf(set, "zz", "k") != "new" || len(set.Cells) != 2001 {
		t.Error("1999 others are taken for 2000")
	}
	checkSame(t, "too many names", checkSetVar(t, s, lettered(1), "new"), s)
	checkSame(t, "too many cells", checkSetCell(t, s, "x", "00001", "new"), s)
	// Sixty alike are sixty others.
	s = impl.Store{Vars: slices.Repeat(vars("b", "1"), 60), Cells: slices.Repeat(cells("b", "k", "1"), 2000)}
	for _, name := range []string{"a", "c"} {
		checkSame(t, "sixty alike", checkSetVar(t, s, name, "new"), s)
		checkSame(t, "2000 alike", checkSetCell(t, s, name, "k", "new"), s)
	}
	s = impl.Store{Vars: s.Vars[:59], Cells: s.Cells[:1999]}
	if len(checkSetVar(t, s, "a", "new").Vars) != 60 || len(checkSetCell(t, s, "a", "k", "new").Cells) != 2000 {
		t.Error("59, or 1999, alike are taken for more")
	}
	// Values and keys that are too long are not found by a key that is cut, and are not cut.
	long := strings.Repeat("l", 50)
	s = impl.Store{Vars: vars("a", long), Cells: cells("a", "k", long, "a", long, "1")}
	if impl.VarOf(s, "a") != long || impl.CellOf(s, "a", "k") != long || impl.CellOf(s, "a", long) != "" {
		t.Error("a value that is too long is not as it is")
	}
	set := checkSetCell(t, checkSetVar(t, s, "b", long), "a", long, "2")
	checkSame(t, "too long", set, impl.Store{Vars: vars("a", long, "b", long[:40]), Cells: cells("a", "k", long, "a", long[:40], "2", "a", long, "1")})
	if d := checkDump(t, s, "a"); d.Out != "k "+long+"\n"+long+" 1\n" {
		t.Errorf("%q is told", d.Out)
	}
}

func TestDrawnWrongStores(t *testing.T) {
	for k := range uint64(3000) {
		r := rand.New(rand.NewPCG(87, k))
		s := drawnWrongStore(r)
		for range 6 {
			s = drawnStep(t, r, s, drawnWrongName(r))
			checkStoreOk(t, s, plainStoreOk(s))
			name, key := drawnWrongName(r), drawnKey(r)
			if got := impl.VarOf(s, name); got != plainValue(asCells(s.Vars), name, "") {
				t.Fatalf("VarOf of %q is %q, of %s", name, got, toldStore(s))
			}
			if got := impl.CellOf(s, name, key); got != plainValue(s.Cells, name, plainCut(key, 40)) {
				t.Fatalf("CellOf of %q, %q is %q, of %s", name, key, got, toldStore(s))
			}
		}
	}
}

func TestStoresThatAreFarTooBig(t *testing.T) {
	inGoodTime(t, func() {
		s := impl.Store{Vars: slices.Repeat(manyVars(300), 300), Cells: slices.Repeat(manyCells(1000), 100), Out: strings.Repeat("o", 1<<20)}
		for name, same := range map[string]impl.Store{"SetVar": impl.SetVar(s, "new", "1"), "SetCell": impl.SetCell(s, "x", "k", "1"), "Dump": impl.Dump(s, "none")} {
			if !impl.SameStore(s, same) {
				t.Errorf("%s changes a store that is far too big", name)
			}
		}
		for name, said := range map[string]impl.Store{"Say": impl.Say(s, "line"), "Dump": impl.Dump(s, "x")} {
			if said.Out != s.Out[:3000] || len(said.Vars) != len(s.Vars) || len(said.Cells) != len(s.Cells) {
				t.Errorf("%s is wrong of a store that is far too big", name)
			}
		}
		if impl.StoreOk(s) || impl.VarOf(s, "none") != "" || impl.CellOf(s, "none", s.Out) != "" {
			t.Error("a store that is far too big is right")
		}
	})
}

// roomyStore has memory of its own, and spare room behind its lists, filled with what must stay.
func roomyStore(s impl.Store) impl.Store {
	q := impl.Store{Vars: make([]impl.Var, 0, len(s.Vars)+2), Cells: make([]impl.Cell, 0, len(s.Cells)+2), Out: strings.Clone(s.Out)}
	for _, v := range s.Vars {
		q.Vars = append(q.Vars, impl.Var{Name: strings.Clone(v.Name), Val: strings.Clone(v.Val)})
	}
	for _, c := range s.Cells {
		q.Cells = append(q.Cells, impl.Cell{Name: strings.Clone(c.Name), Key: strings.Clone(c.Key), Val: strings.Clone(c.Val)})
	}
	q.Vars = append(q.Vars, vars("spare", "1", "spare", "2")...)[:len(s.Vars)]
	q.Cells = append(q.Cells, cells("spare", "k", "1", "spare", "k", "2")...)[:len(s.Cells)]
	return q
}

func checkStoreRoom(t *testing.T, s impl.Store) {
	t.Helper()
	if !slices.Equal(s.Vars[len(s.Vars):][:2], vars("spare", "1", "spare", "2")) || !slices.Equal(s.Cells[len(s.Cells):][:2], cells("spare", "k", "1", "spare", "k", "2")) {
		t.Fatal("something was written into the spare room behind a list")
	}
}

func textsOfStore(s impl.Store) []string {
	list := []string{s.Out}
	for _, v := range s.Vars {
		list = append(list, v.Name, v.Val)
	}
	for _, c := range s.Cells {
		list = append(list, c.Name, c.Key, c.Val)
	}
	return list
}

// checkNew checks that an answer shares no memory with what was handed in.
func checkNew(t *testing.T, what string, answer []string, handedIn []string) {
	t.Helper()
	for _, text := range answer {
		for _, whole := range handedIn {
			if sharesMemory(whole, text) {
				t.Fatalf("%s hands out its argument's memory: %q", what, text)
			}
		}
	}
}

// spoilStore writes into a store's lists, and into the spare room behind them.
func spoilStore(s impl.Store) {
	for i := range s.Vars[:cap(s.Vars)] {
		s.Vars[:cap(s.Vars)][i] = impl.Var{Name: "spoilt", Val: "spoilt"}
	}
	for i := range s.Cells[:cap(s.Cells)] {
		s.Cells[:cap(s.Cells)][i] = impl.Cell{Name: "spoilt", Key: "spoilt", Val: "spoilt"}
	}
}

func TestStoresStayAsTheyAre(t *testing.T) {
	for k := range uint64(1500) {
		r := rand.New(rand.NewPCG(88, k))
		s := drawnRightStore(r)
		switch k % 4 {
		case 1:
			s = drawnWrongStore(r)
		case 2:
			s.Vars = manyVars(oneOf(r, 59, 60, 61))
		}
		s = roomyStore(s)
		was := toldStore(s)
		name, key, val := strings.Clone(drawnWrongName(r)), strings.Clone(drawnKey(r)), strings.Clone(drawnVal(r))
		if len(s.Cells) > 0 && k%3 == 0 {
			name, key = strings.Clone(s.Cells[0].Name), strings.Clone(s.Cells[0].Key)
		}
		handedIn := append(textsOfStore(s), name, key, val)
		checkNew(t, "VarOf", []string{impl.VarOf(s, name)}, handedIn)
		checkNew(t, "CellOf", []string{impl.CellOf(s, name, key)}, handedIn)
		calls := map[string]func() impl.Store{
			"SetVar": func() impl.Store { return impl.SetVar(s, name, val) }, "SetCell": func() impl.Store { return impl.SetCell(s, name, key, val) },
			"Say": func() impl.Store { return impl.Say(s, val) }, "Dump": func() impl.Store { return impl.Dump(s, name) },
		}
		for what, call := range calls {
			answer, other := call(), call()
			told := toldStore(answer)
			checkNew(t, what, textsOfStore(answer), handedIn)
			spoilStore(other)
			if toldStore(s) != was || toldStore(answer) != told || toldStore(call()) != told {
				t.Fatalf("%s: an argument or an answer is not as it was", what)
			}
			checkStoreRoom(t, s)
		}
		impl.StoreOk(s)
		impl.SameStore(s, roomyStore(s))
		if toldStore(s) != was {
			t.Fatal("a store is not as it was")
		}
		checkStoreRoom(t, s)
	}
}

func TestListsAreNewMemory(t *testing.T) {
	// Where nothing is changed, too: the room is full, or nothing is said.
	s := roomyStore(impl.Store{Vars: manyVars(60), Cells: manyCells(2000), Out: "out"})
	for what, answer := range map[string]impl.Store{
		"SetVar": impl.SetVar(s, "new", "1"), "SetCell": impl.SetCell(s, "new", "k", "1"), "Say": impl.Say(s, ""), "Dump": impl.Dump(s, "none"),
	} {
		if &answer.Vars[0] == &s.Vars[0] || &answer.Cells[0] == &s.Cells[0] || sharesMemory(s.Out, answer.Out) {
			t.Errorf("%s hands out its argument's lists", what)
		}
		for i := range answer.Vars {
			checkNew(t, what, []string{answer.Vars[i].Name, answer.Vars[i].Val}, []string{s.Vars[i].Name, s.Vars[i].Val})
		}
		for i := range answer.Cells {
			checkNew(t, what, []string{answer.Cells[i].Name, answer.Cells[i].Key, answer.Cells[i].Val}, []string{s.Cells[i].Name, s.Cells[i].Key, s.Cells[i].Val})
		}
	}
}

func TestStoresDoNotHangOnEarlierOnes(t *testing.T) {
	s := impl.Store{Vars: vars("b", "1"), Cells: cells("t", "k", "1"), Out: "out\n"}
	tell := func() string {
		return toldStore(impl.SetVar(s, "a", "2")) + toldStore(impl.SetCell(s, "t", "j", "2")) + toldStore(impl.Say(s, "x")) + toldStore(impl.Dump(s, "t")) + impl.VarOf(s, "b") + impl.CellOf(s, "t", "k")
	}
	first := tell()
	for k := range uint64(200) {
		r := rand.New(rand.NewPCG(89, k))
		drawnStep(t, r, drawnWrongStore(r), drawnWrongName(r))
		if tell() != first {
			t.Fatal("an answer hangs on earlier ones")
		}
	}
}
