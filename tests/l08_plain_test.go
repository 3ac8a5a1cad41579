package tests

import (
	"fmt"
	"math/rand/v2"
	"regexp"
	"slices"
	"strings"

	"loop.example/g00237/impl"
)

// What chapter 8 answers, told in another way than the program goes: a Var is a Cell without a key, all is found by going through the lists, and what is new is put at the end and moved ahead step by step.

const (
	maxVars  = 60
	maxCells = 2000
)

var aStoreName = regexp.MustCompile(`\A[a-zA-Z]{1,8}\z`)

// toldStore tells all of a store, and takes an empty list and none for the same.
func toldStore(s impl.Store) string {
	return fmt.Sprintf("%q %q %q", s.Vars, s.Cells, s.Out)
}

func copyOfStore(s impl.Store) impl.Store {
	return impl.Store{Vars: slices.Clone(s.Vars), Cells: slices.Clone(s.Cells), Out: s.Out}
}

func asCells(vars []impl.Var) []impl.Cell {
	cells := []impl.Cell{}
	for _, v := range vars {
		cells = append(cells, impl.Cell{Name: v.Name, Val: v.Val})
	}
	return cells
}

func asVars(cells []impl.Cell) []impl.Var {
	vars := []impl.Var{}
	for _, c := range cells {
		vars = append(vars, impl.Var{Name: c.Name, Val: c.Val})
	}
	return vars
}

func plainCut(s string, most int) string {
	if len(s) > most {
		return s[:most]
	}
	return s
}

func isCell(c impl.Cell, name string, key string) bool {
	return c.Name == name && c.Key == key
}

// isBehind tells whether a stands behind b in a list that ascends.
func isBehind(a impl.Cell, b impl.Cell) bool {
	if a.Name != b.Name {
		return a.Name > b.Name
	}
	return a.Key > b.Key
}

func plainValue(cells []impl.Cell, name string, key string) string {
	for _, c := range cells {
		if isCell(c, name, key) {
			return c.Val
		}
	}
	return ""
}

func plainSet(cells []impl.Cell, set impl.Cell, most int) []impl.Cell {
	cells = slices.Clone(cells)
	others, first := 0, -1
	for place, c := range cells {
		if !isCell(c, set.Name, set.Key) {
			others++
		} else if first < 0 {
			first = place
		}
	}
	if others >= most {
		return cells
	}
	if first >= 0 {
		cells[first] = set
		return cells
	}
	ahead := 0
	for ahead < len(cells) && !isBehind(cells[ahead], set) {
		ahead++
	}
	cells = append(cells, set)
	for place := len(cells) - 1; place > ahead; place-- {
		cells[place], cells[place-1] = cells[place-1], cells[place]
	}
	return cells
}

func plainSetVar(s impl.Store, name string, val string) impl.Store {
	s.Vars = asVars(plainSet(asCells(s.Vars), impl.Cell{Name: name, Val: plainCut(val, 40)}, maxVars))
	return s
}

func plainSetCell(s impl.Store, name string, key string, val string) impl.Store {
	s.Cells = plainSet(s.Cells, impl.Cell{Name: name, Key: plainCut(key, 40), Val: plainCut(val, 40)}, maxCells)
	return s
}

func plainSay(s impl.Store, line string) impl.Store {
	s.Out = plainCut(s.Out+line+"\n", 3000)
	return s
}

func plainDump(s impl.Store, name string) impl.Store {
	for _, c := range s.Cells {
		if c.Name == name {
			s = plainSay(s, c.Key+" "+c.Val)
		}
	}
	return s
}

func plainListOk(cells []impl.Cell, most int) bool {
	for place, c := range cells {
		if !aStoreName.MatchString(c.Name) || len(c.Key) > 40 || len(c.Val) > 40 {
			return false
		}
		if place > 0 && !isBehind(c, cells[place-1]) {
			return false
		}
	}
	return len(cells) <= most
}

func plainStoreOk(s impl.Store) bool {
	return plainListOk(asCells(s.Vars), maxVars) && plainListOk(s.Cells, maxCells) && len(s.Out) <= 3000
}

// manyVars has names that ascend, of two letters.
func manyVars(count int) []impl.Var {
	vars := []impl.Var{}
	for i := range count {
		vars = append(vars, impl.Var{Name: lettered(2*i + 1), Val: fmt.Sprint(i)})
	}
	return vars
}

// manyCells has the names x, y and z, whose keys ascend.
func manyCells(count int) []impl.Cell {
	cells := []impl.Cell{}
	for i := range count {
		cells = append(cells, impl.Cell{Name: string("xyz"[3*i/count]), Key: fmt.Sprintf("%05d", 2*i+1), Val: fmt.Sprint(i)})
	}
	return cells
}

func drawnName(r *rand.Rand) string {
	return oneOf(r, "a", "b", "ab", "B", "ba", "abc", "z", "abcdefgh", "ZZ", "NF", "c", "bc")
}

func drawnKey(r *rand.Rand) string {
	forty := strings.Repeat("k", 40)
	return oneOf(r, "", "", "a", "b", "ab", "bc", "c", "\x00", "\xff", " ", "a b", "\n", "10", "9", forty, forty[:39], forty+"1", forty+"2", forty+forty, "a"+forty)
}

func drawnVal(r *rand.Rand) string {
	forty := strings.Repeat("v", 40)
	return oneOf(r, "", "0", "1", "999999", "x y", "\n", "\xff\x00", forty, forty[:39], forty+"1", forty+forty, "é")
}

// drawnCells are not right, most of them.
func drawnCells(r *rand.Rand, name func(*rand.Rand) string, key func(*rand.Rand) string) []impl.Cell {
	cells := []impl.Cell{}
	for range r.IntN(12) {
		cells = append(cells, impl.Cell{Name: name(r), Key: key(r), Val: drawnVal(r)})
	}
	return cells
}

func drawnWrongName(r *rand.Rand) string {
	return oneOf(r, drawnName(r), drawnName(r), "", "abcdefghi", "a1", " ", "\xff", strings.Repeat("n", 41))
}

func noKey(*rand.Rand) string {
	return ""
}

// drawnRightStore puts lists in order, and takes out what is alike or too long.
func drawnRightStore(r *rand.Rand) impl.Store {
	s := impl.Store{Vars: asVars(inOrder(drawnCells(r, drawnName, noKey))), Cells: inOrder(drawnCells(r, drawnName, drawnKey))}
	s.Out = strings.Repeat("out\n", oneOf(r, 0, 1, 700, 749, 750))
	return s
}

func inOrder(cells []impl.Cell) []impl.Cell {
	out := []impl.Cell{}
	for _, c := range cells {
		c.Key, c.Val = plainCut(c.Key, 40), plainCut(c.Val, 40)
		if !slices.ContainsFunc(out, func(o impl.Cell) bool { return isCell(o, c.Name, c.Key) }) {
			out = append(out, c)
		}
	}
	slices.SortFunc(out, func(a impl.Cell, b impl.Cell) int {
		if isBehind(a, b) {
			return 1
		}
		return -1
	})
	return out
}

func drawnWrongStore(r *rand.Rand) impl.Store {
	s := impl.Store{Vars: asVars(drawnCells(r, drawnWrongName, noKey)), Cells: drawnCells(r, drawnWrongName, drawnKey)}
	s.Out = strings.Repeat("o", oneOf(r, 0, 5, 2990, 3000, 3001, 3500))
	return s
}
