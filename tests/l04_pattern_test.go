package tests

import (
	"fmt"
	"math"
	"math/rand/v2"
	"reflect"
	"regexp"
	"slices"
	"strings"
	"testing"

	"loop.example/g00237/impl"
)

const (
	signs     = `*+?|()[].^$\`
	maxPieces = 60
)

// one is a piece without kids, with a text or none.
func one(op int, text string) impl.Piece {
	return impl.Piece{Op: op, Text: text}
}

func over(op int, kids ...int) impl.Piece {
	return impl.Piece{Op: op, Kids: kids}
}

func patternOf(pieces ...impl.Piece) impl.Pattern {
	return impl.Pattern{Pieces: pieces}
}

func mustRead(t *testing.T, s string) impl.Pattern {
	t.Helper()
	p, ok := impl.ReadPattern(s)
	if !ok || !impl.PatternOk(p) {
		t.Fatalf("ReadPattern(%q) = %#v, %v; PatternOk %v", s, p, ok, impl.PatternOk(p))
	}
	return p
}

// samePattern takes an empty list and none for the same, as the document does.
func samePattern(p impl.Pattern, q impl.Pattern) bool {
	return slices.EqualFunc(p.Pieces, q.Pieces, func(a impl.Piece, b impl.Piece) bool {
		return a.Op == b.Op && a.Text == b.Text && slices.Equal(a.Kids, b.Kids)
	})
}

func copyOf(p impl.Pattern) impl.Pattern {
	q := impl.Pattern{Pieces: slices.Clone(p.Pieces)}
	for i := range q.Pieces {
		q.Pieces[i].Kids = slices.Clone(q.Pieces[i].Kids)
	}
	return q
}

// grid tells for a piece from which place of a text to which it may go.
type grid [][]bool

func gridOf(size int, may func(from int, to int) bool) grid {
	g := make(grid, size)
	for from := range g {
		for to := range size {
			g[from] = append(g[from], may(from, to))
		}
	}
	return g
}

// oneGrid is the grid of a piece without kids.
func oneGrid(piece impl.Piece, s string) grid {
	return gridOf(len(s)+1, func(from int, to int) bool {
		switch piece.Op {
		case impl.PaBegin:
			return from == 0 && to == 0
		case impl.PaEnd:
			return from == len(s) && to == len(s)
		case impl.PaNone:
			return from == to
		}
		if to != from+1 {
			return false
		}
		in := slices.Contains([]byte(piece.Text), s[from])
		return piece.Op == impl.PaAny || in && piece.Op != impl.PaNot || !in && piece.Op == impl.PaNot
	})
}

func behind(a grid, b grid) grid {
	return gridOf(len(a), func(from int, to int) bool {
		for middle := range a {
			if a[from][middle] && b[middle][to] {
				return true
			}
		}
		return false
	})
}

func either(a grid, b grid) grid {
	return gridOf(len(a), func(from int, to int) bool { return a[from][to] || b[from][to] })
}

// grids has the grid of each piece of a right pattern, reckoned in their order; again and again is as often as there are places, or less.
func grids(p impl.Pattern, s string) []grid {
	all := []grid{}
	nothing := oneGrid(one(impl.PaNone, ""), s)
	for _, piece := range p.Pieces {
		kids := []grid{}
		for _, kid := range piece.Kids {
			kids = append(kids, all[kid])
		}
		switch piece.Op {
		case impl.PaCat:
			all = append(all, behind(kids[0], kids[1]))
		case impl.PaAlt:
			all = append(all, either(kids[0], kids[1]))
		case impl.PaOpt:
			all = append(all, either(nothing, kids[0]))
		case impl.PaStar, impl.PaPlus:
			g := nothing
			for range len(s) + 1 {
				g = either(g, behind(g, kids[0]))
			}
			if piece.Op == impl.PaPlus {
				g = behind(kids[0], g)
			}
			all = append(all, g)
		default:
			all = append(all, oneGrid(piece, s))
		}
	}
	return all
}

func wantEnds(g grid, at int) []int {
	ends := []int{}
	for end, may := range g[at] {
		if may {
			ends = append(ends, end)
		}
	}
	return ends
}

func checkEnds(t *testing.T, p impl.Pattern, piece int, s string, at int, want []int) {
	t.Helper()
	if got := impl.EndsAt(p, piece, s, at); !slices.Equal(got, want) {
		t.Fatalf("EndsAt(%#v, %d, %q, %d) = %v; want %v", p, piece, s, at, got, want)
	}
}

// checkFind asks FindIn for the first row of the whole's grid that has an end, and for the last end there.
func checkFind(t *testing.T, p impl.Pattern, s string, whole grid) {
	t.Helper()
	begin, end, found := 0, 0, false
	for at := 0; at < len(whole) && !found; at++ {
		if ends := wantEnds(whole, at); len(ends) > 0 {
			begin, end, found = at, ends[len(ends)-1], true
		}
	}
	b, e, ok := impl.FindIn(p, s)
	if b != begin || e != end || ok != found {
		t.Fatalf("FindIn(%#v, %q) = %d, %d, %v; want %d, %d, %v", p, s, b, e, ok, begin, end, found)
	}
}

// drawnPattern is a right pattern; kids may be shared, and pieces may be the kid of none.
func drawnPattern(r *rand.Rand, pieces int) impl.Pattern {
	p := impl.Pattern{}
	texts := []string{"a", "b", "ab", "\x00", "\xff", "a\x00", "\xffb]"}
	for i := range pieces {
		ops := []int{impl.PaByte, impl.PaAny, impl.PaSet, impl.PaNot, impl.PaBegin, impl.PaEnd, impl.PaNone}
		if i > 0 && r.IntN(3) > 0 {
			ops = []int{impl.PaCat, impl.PaAlt, impl.PaStar, impl.PaPlus, impl.PaOpt, impl.PaCat, impl.PaCat}
		}
		piece := one(ops[r.IntN(len(ops))], "")
		switch piece.Op {
		case impl.PaByte:
			piece.Text = []string{"a", "b", "\x00", "\xff"}[r.IntN(4)]
		case impl.PaSet, impl.PaNot:
			piece.Text = texts[r.IntN(len(texts))]
		case impl.PaCat, impl.PaAlt:
			piece.Kids = []int{r.IntN(i), r.IntN(i)}
		case impl.PaStar, impl.PaPlus, impl.PaOpt:
			piece.Kids = []int{r.IntN(i)}
		}
		p.Pieces = append(p.Pieces, piece)
	}
	return p
}

func drawnText(r *rand.Rand, length int) string {
	text := make([]byte, length)
	for i := range text {
		text[i] = "aaabb\x00\xff]"[r.IntN(8)]
	}
	return string(text)
}

func TestPatternConstants(t *testing.T) {
	ops := []int{impl.PaByte, impl.PaAny, impl.PaSet, impl.PaNot, impl.PaCat, impl.PaAlt, impl.PaStar, impl.PaPlus, impl.PaOpt,
		impl.PaBegin, impl.PaEnd, impl.PaNone}
	for i, op := range ops {
		if op != i+1 {
			t.Errorf("the kind at %d is %d", i, op)
		}
	}
	if impl.MaxPattern != 24 {
		t.Error("a limit is not the document's")
	}
}

func TestEndsOfDrawnPatterns(t *testing.T) {
	r := rand.New(rand.NewPCG(4, 1))
	for round := range 3000 {
		p := drawnPattern(r, 1+round%20)
		s := drawnText(r, r.IntN(9))
		if !impl.PatternOk(p) {
			t.Fatalf("PatternOk(%#v) = false", p)
		}
		all := grids(p, s)
		for piece := range p.Pieces {
			for at := range len(s) + 1 {
				checkEnds(t, p, piece, s, at, wantEnds(all[piece], at))
			}
			checkEnds(t, p, piece, s, -1, nil)
			checkEnds(t, p, piece, s, len(s)+1, nil)
		}
		checkFind(t, p, s, all[len(all)-1])
	}
}

func TestEndsAreAscending(t *testing.T) {
	r := rand.New(rand.NewPCG(4, 2))
	for range 300 {
		p := drawnPattern(r, 12)
		s := drawnText(r, 30)
		ends := impl.EndsAt(p, 11, s, r.IntN(31))
		for i := 1; i < len(ends); i++ {
			if ends[i] <= ends[i-1] {
				t.Fatalf("%v of %#v are not ascending", ends, p)
			}
		}
	}
}

func TestAlternativesTakeWhatEitherDoes(t *testing.T) {
	r := rand.New(rand.NewPCG(4, 3))
	for range 1000 {
		p := drawnPattern(r, 8)
		a, b := r.IntN(8), r.IntN(8)
		p.Pieces = append(p.Pieces, over(impl.PaAlt, a, b))
		s := drawnText(r, 6)
		for at := range len(s) + 1 {
			want := slices.Concat(impl.EndsAt(p, a, s, at), impl.EndsAt(p, b, s, at))
			slices.Sort(want)
			checkEnds(t, p, 8, s, at, slices.Compact(want))
		}
	}
	a, b := one(impl.PaByte, "a"), one(impl.PaByte, "b")
	checkEnds(t, patternOf(a, a, over(impl.PaAlt, 0, 1)), 2, "aa", 0, []int{1})
	checkEnds(t, patternOf(a, over(impl.PaAlt, 0, 0)), 1, "aa", 1, []int{2})
	checkEnds(t, patternOf(a, b, over(impl.PaAlt, 0, 1)), 2, "ab", 1, []int{2})
	checkEnds(t, patternOf(a, b, over(impl.PaAlt, 0, 1)), 2, "c", 0, nil)
	checkEnds(t, patternOf(a, over(impl.PaCat, 0, 0), over(impl.PaAlt, 1, 0)), 2, "aa", 0, []int{1, 2})
	checkEnds(t, patternOf(a, one(impl.PaNone, ""), over(impl.PaAlt, 0, 1)), 2, "aa", 0, []int{0, 1})
}

func TestRowsTakeOneBehindTheOther(t *testing.T) {
	r := rand.New(rand.NewPCG(4, 4))
	for range 1000 {
		p := drawnPattern(r, 8)
		a, b := r.IntN(8), r.IntN(8)
		p.Pieces = append(p.Pieces, over(impl.PaCat, a, b))
		s := drawnText(r, 6)
		for at := range len(s) + 1 {
			want := []int{}
			for _, end := range impl.EndsAt(p, a, s, at) {
				want = append(want, impl.EndsAt(p, b, s, end)...)
			}
			slices.Sort(want)
			checkEnds(t, p, 8, s, at, slices.Compact(want))
		}
	}
	a, b, dot := one(impl.PaByte, "a"), one(impl.PaByte, "b"), one(impl.PaAny, "")
	checkEnds(t, patternOf(a, b, over(impl.PaCat, 0, 1)), 2, "ab", 0, []int{2})
	checkEnds(t, patternOf(a, b, over(impl.PaCat, 1, 0)), 2, "ab", 0, nil)
	checkEnds(t, patternOf(a, b, over(impl.PaCat, 0, 1)), 2, "a", 0, nil)
	stars := patternOf(dot, over(impl.PaStar, 0), over(impl.PaCat, 1, 1))
	checkEnds(t, stars, 2, "xyz", 1, []int{1, 2, 3})
	maybes := patternOf(dot, over(impl.PaOpt, 0), over(impl.PaCat, 1, 1))
	checkEnds(t, maybes, 2, "xyz", 0, []int{0, 1, 2})
}

func TestWhatIsFoundByHand(t *testing.T) {
	for _, c := range []struct {
		pattern, text string
		begin, end    int
		found         bool
	}{
		{"a", "", 0, 0, false}, {"a", "b", 0, 0, false}, {"a", "a", 0, 1, true}, {"a", "ba", 1, 2, true}, {"a", "baaa", 1, 2, true},
		{"a*", "", 0, 0, true}, {"a*", "baa", 0, 0, true}, {"a*", "aab", 0, 2, true}, {"a+", "baab", 1, 3, true}, {"a+", "", 0, 0, false},
		{"a?", "aa", 0, 1, true}, {"a?", "ba", 0, 0, true}, {"|", "", 0, 0, true}, {"()", "abc", 0, 0, true},
		{"a|", "ba", 0, 0, true}, {"|a", "ab", 0, 1, true}, {"a|aa|aaa", "xaaaa", 1, 4, true}, {"aaa|aa|a", "xaaaa", 1, 4, true},
		{"ab|b", "bab", 0, 1, true}, {"abc|b", "abd", 1, 2, true}, {"b|abc", "abcd", 0, 3, true},
		{"^", "", 0, 0, true}, {"^", "abc", 0, 0, true}, {"$", "", 0, 0, true}, {"$", "abc", 3, 3, true}, {"^$", "", 0, 0, true},
		{"^$", "a", 0, 0, false}, {"$^", "", 0, 0, true}, {"^a", "ba", 0, 0, false}, {"^b", "ba", 0, 1, true}, {"a$", "aba", 2, 3, true},
		{"a$", "ab", 0, 0, false}, {"a^", "aa", 0, 0, false}, {"$a", "aa", 0, 0, false}, {"^*a", "ba", 1, 2, true}, {"a$*", "ab", 0, 1, true},
		{"(a|$)", "b", 1, 1, true}, {".", "", 0, 0, false}, {".", "\n", 0, 1, true}, {"..", "abc", 0, 2, true}, {".*b", "abab", 0, 4, true},
		{".*b", "aaaa", 0, 0, false}, {"[ab]+", "xabx", 1, 3, true}, {"[^ab]+", "axyb", 1, 3, true}, {"[^a]", "aaa", 0, 0, false},
		{"[^a]", "", 0, 0, false}, {"a(b|c)*$", "xabcb", 1, 5, true}, {"(a*)*b", "aaac", 0, 0, false}, {"(a*)*", "aaac", 0, 3, true},
		{"\xff", "a\xff", 1, 2, true}, {"\x00+", "a\x00\x00", 1, 3, true},
	} {
		b, e, ok := impl.FindIn(mustRead(t, c.pattern), c.text)
		if b != c.begin || e != c.end || ok != c.found {
			t.Errorf("FindIn of %q in %q = %d, %d, %v; want %d, %d, %v", c.pattern, c.text, b, e, ok, c.begin, c.end, c.found)
		}
	}
}

// libraryText tells a piece as the library's patterns do, in which one repeat behind another needs brackets.
func libraryText(p impl.Pattern, place int) string {
	piece := p.Pieces[place]
	kids := []string{}
	for _, kid := range piece.Kids {
		kids = append(kids, "(?:"+libraryText(p, kid)+")")
	}
	set := ""
	for _, b := range []byte(piece.Text) {
		set += fmt.Sprintf(`\x{%02x}`, b)
	}
	switch piece.Op {
	case impl.PaByte:
		return set
	case impl.PaAny:
		return `(?s:.)`
	case impl.PaSet:
		return "[" + set + "]"
	case impl.PaNot:
		return "[^" + set + "]"
	case impl.PaCat:
		return kids[0] + kids[1]
	case impl.PaAlt:
		return kids[0] + "|" + kids[1]
	case impl.PaStar:
		return kids[0] + "*"
	case impl.PaPlus:
		return kids[0] + "+"
	case impl.PaOpt:
		return kids[0] + "?"
	case impl.PaBegin:
		return `\A`
	case impl.PaEnd:
		return `\z`
	}
	return ""
}

func TestWhatIsFoundIsWhatTheLibraryFinds(t *testing.T) {
	r := rand.New(rand.NewPCG(4, 5))
	read := 0
	for range 60000 {
		s := make([]byte, 1+r.IntN(12))
		for i := range s {
			s[i] = `aaabb.*+?|()^$[]\`[r.IntN(17)]
		}
		p, ok := impl.ReadPattern(string(s))
		if !ok {
			continue
		}
		read++
		library := regexp.MustCompile(libraryText(p, len(p.Pieces)-1))
		library.Longest()
		for _, text := range []string{"", "a", "b", "ab", "ba", "aab", "abab", "bbaab", "x", "xaxbx", "\n", "a.b*", "(^$)"} {
			want := library.FindStringIndex(text)
			b, e, found := impl.FindIn(p, text)
			if found != (want != nil) || found && (b != want[0] || e != want[1]) {
				t.Fatalf("FindIn of %q in %q = %d, %d, %v; the library finds %v", s, text, b, e, found, want)
			}
		}
	}
	if read < 3000 {
		t.Errorf("only %d of the drawn texts are patterns", read)
	}
}

func TestNothingAgainAndAgain(t *testing.T) {
	all := []int{0, 1, 2, 3}
	for _, c := range []struct {
		pattern, text string
		at            int
		want          []int
	}{
		{"(a*)*", "aaa", 0, all}, {"a**", "aaa", 0, all}, {"a***", "aaa", 1, []int{1, 2, 3}}, {"(a*)+", "aaa", 0, all}, {"a*+", "b", 0, []int{0}},
		{"(a?)*", "aaa", 0, all}, {"a?*", "aab", 0, []int{0, 1, 2}}, {"a?+", "aaa", 0, all}, {"a?+", "", 0, []int{0}},
		{"(|a)*", "aaa", 0, all}, {"(a|)*", "aaa", 0, all}, {"(|a)+", "aaa", 0, all}, {"()*", "aaa", 1, []int{1}}, {"()+", "aaa", 1, []int{1}},
		{"(|)*", "", 0, []int{0}}, {"(|)+", "", 0, []int{0}}, {"^*", "aaa", 0, []int{0}}, {"^*", "aaa", 2, []int{2}}, {"^+", "aaa", 0, []int{0}},
		{"^+", "aaa", 2, nil}, {"$*", "aaa", 3, []int{3}}, {"$*", "aaa", 1, []int{1}}, {"$+", "aaa", 3, []int{3}}, {"$+", "aaa", 1, nil},
		{"(^|a)*", "aaa", 0, all}, {"(^|a)+", "aaa", 1, []int{2, 3}}, {"(a|$)*", "aaa", 0, all}, {"(a|$)+", "aaa", 0, []int{1, 2, 3}},
		{"(a|$)+", "aaa", 3, []int{3}}, {"(^|$)*", "", 0, []int{0}}, {"(a*|b)*", "aba", 0, all}, {"(a*b*)*", "aba", 0, all},
		{"(a*b*)+", "cba", 0, []int{0}}, {"((a*)*)*", "aab", 0, []int{0, 1, 2}}, {"(a+)+", "aab", 0, []int{1, 2}}, {"(a+)*", "aab", 2, []int{2}},
		{"a+*", "aaa", 0, all}, {"a+?", "aab", 0, []int{0, 1, 2}}, {"a++", "aab", 0, []int{1, 2}}, {"a++", "b", 0, nil},
		{"(aa)*", "aaaaa", 0, []int{0, 2, 4}}, {"(aa)+", "aaaaa", 0, []int{2, 4}}, {"(aa|aaa)*", "aaaaaa", 0, []int{0, 2, 3, 4, 5, 6}},
		{"(aa|aaa)+", "aaaaaa", 1, []int{3, 4, 5, 6}}, {"a??", "aa", 0, []int{0, 1}}, {"^?", "aa", 1, []int{1}},
	} {
		p := mustRead(t, c.pattern)
		checkEnds(t, p, len(p.Pieces)-1, c.text, c.at, c.want)
	}
}

// chain is as many pieces as may be, the first one given, and each other one over the one ahead of it.
func chain(first impl.Piece, op int, kids int) impl.Pattern {
	p := patternOf(first)
	for i := range maxPieces - 1 {
		p.Pieces = append(p.Pieces, over(op, slices.Repeat([]int{i}, kids)...))
	}
	return p
}

// Work that doubled with each of 60 pieces would not come to an end here.
func TestDeepPatternsComeToAnEnd(t *testing.T) {
	text := strings.Repeat("a", 40)
	last := maxPieces - 1
	upTo := func(from int) []int {
		ends := []int{}
		for at := from; at <= len(text); at++ {
			ends = append(ends, at)
		}
		return ends
	}
	a := one(impl.PaByte, "a")
	checkEnds(t, chain(a, impl.PaStar, 1), last, text, 0, upTo(0))
	checkEnds(t, chain(a, impl.PaPlus, 1), last, text, 0, upTo(1))
	checkEnds(t, chain(a, impl.PaOpt, 1), last, text, 0, []int{0, 1})
	checkEnds(t, chain(a, impl.PaAlt, 2), last, text, 3, []int{4})
	checkEnds(t, chain(a, impl.PaCat, 2), last, text, 0, nil)
	for _, first := range []impl.Piece{one(impl.PaNone, ""), one(impl.PaBegin, "")} {
		checkEnds(t, chain(first, impl.PaCat, 2), last, text, 0, []int{0})
		checkEnds(t, chain(first, impl.PaPlus, 1), last, text, 0, []int{0})
	}
	mixed := patternOf(a, over(impl.PaOpt, 0))
	for i := 1; i+2 < maxPieces; i += 2 {
		mixed.Pieces = append(mixed.Pieces, over(impl.PaCat, i, i), over(impl.PaStar, i+1))
	}
	checkEnds(t, mixed, len(mixed.Pieces)-1, text, 5, upTo(5))
	none := copyOf(mixed)
	none.Pieces = append(none.Pieces[:57], one(impl.PaByte, "b"), over(impl.PaCat, 56, 57))
	if b, e, ok := impl.FindIn(none, text); b != 0 || e != 0 || ok {
		t.Errorf("FindIn = %d, %d, %v where there is nothing", b, e, ok)
	}
	if b, e, ok := impl.FindIn(none, text+"b"); b != 0 || e != 41 || !ok {
		t.Errorf("FindIn = %d, %d, %v; want 0, 41, true", b, e, ok)
	}
}

func TestLongTexts(t *testing.T) {
	text := strings.Repeat("a", 20000)
	for pattern, want := range map[string]int{"a*": 20001, "a+": 20000, "a": 1, "b*": 1, "b": 0, "a*$": 1, "^a+$": 1} {
		p := mustRead(t, pattern)
		if got := len(impl.EndsAt(p, len(p.Pieces)-1, text, 0)); got != want {
			t.Errorf("EndsAt of %q has %d ends; want %d", pattern, got, want)
		}
	}
	if b, e, ok := impl.FindIn(mustRead(t, "ab+"), text+"bbb"); b != 19999 || e != 20003 || !ok {
		t.Errorf("FindIn = %d, %d, %v; want 19999, 20003, true", b, e, ok)
	}
}

// As what is known may be kept from place to place up to some length, texts on both sides of it are asked.
func TestFindInTextsOfAboutMaxVal(t *testing.T) {
	for k := range uint64(300) {
		r := rand.New(rand.NewPCG(4, k))
		p := drawnPattern(r, 1+r.IntN(6))
		for _, length := range []int{39, 40, 41, 42} {
			s := strings.Repeat("b", r.IntN(length)) + drawnText(r, length)
			s = s[:length]
			all := grids(p, s)
			checkFind(t, p, s, all[len(all)-1])
		}
	}
	for pattern, want := range map[string]int{"((a*)*(a*)*)*(a|a)*b": -1, "((a*)*(a*)*)*(a|a)*": 0, "a$": 1} {
		for _, length := range []int{39, 40, 41, 60} {
			p, s := mustRead(t, pattern), strings.Repeat("a", length)
			begin, end, ok := impl.FindIn(p, s)
			if wantBegin := (length - 1) * want; ok != (want >= 0) || ok && (begin != wantBegin || end != length) {
				t.Errorf("FindIn of %q in %d bytes = %d, %d, %v", pattern, length, begin, end, ok)
			}
		}
	}
}

func TestBeginAndEnd(t *testing.T) {
	p := patternOf(one(impl.PaBegin, ""), one(impl.PaEnd, ""), one(impl.PaNone, ""))
	checkEnds(t, p, 0, "", 0, []int{0})
	checkEnds(t, p, 1, "", 0, []int{0})
	checkEnds(t, p, 2, "", 0, []int{0})
	for at := range 4 {
		begin, end := []int{}, []int{}
		if at == 0 {
			begin = []int{0}
		}
		if at == 3 {
			end = []int{3}
		}
		checkEnds(t, p, 0, "a\nb", at, begin)
		checkEnds(t, p, 1, "a\nb", at, end)
		checkEnds(t, p, 2, "a\nb", at, []int{at})
	}
}

func TestOneByteIsTaken(t *testing.T) {
	for n := range 256 {
		b, other := string([]byte{byte(n)}), string([]byte{byte(n + 1)})
		p := patternOf(one(impl.PaByte, b), one(impl.PaAny, ""), one(impl.PaSet, b), one(impl.PaNot, b),
			one(impl.PaSet, "\x01ab"+b+b), one(impl.PaNot, "\x02ab"+b))
		for piece, takes := range []bool{true, true, true, false, true, false} {
			for at, s := range []string{b, other + b, b + b + b} {
				want := []int{}
				if takes {
					want = []int{at + 1}
				}
				checkEnds(t, p, piece, s, at, want)
				checkEnds(t, p, piece, s, len(s), nil)
			}
		}
		for piece, want := range [][]int{nil, {1}, nil, {1}} {
			checkEnds(t, p, piece, other+b, 0, want)
			checkEnds(t, p, piece, "", 0, nil)
		}
		for _, sure := range []string{"\x01", "a", "b"} {
			checkEnds(t, p, 4, sure, 0, []int{1})
		}
	}
	checkEnds(t, patternOf(one(impl.PaNot, "ab")), 0, "abc", 1, nil)
	checkEnds(t, patternOf(one(impl.PaNot, "ab")), 0, "abc", 2, []int{3})
	checkEnds(t, patternOf(one(impl.PaSet, "a-c")), 0, "b", 0, nil)
	checkEnds(t, patternOf(one(impl.PaSet, "^a")), 0, "^", 0, []int{1})
	checkEnds(t, patternOf(one(impl.PaSet, "\u00e9")), 0, "\xa9", 0, []int{1})
}

func TestReadPatternByHand(t *testing.T) {
	a, b, c := one(impl.PaByte, "a"), one(impl.PaByte, "b"), one(impl.PaByte, "c")
	none, dot, begin, end := one(impl.PaNone, ""), one(impl.PaAny, ""), one(impl.PaBegin, ""), one(impl.PaEnd, "")
	for s, want := range map[string]impl.Pattern{
		"a": patternOf(a), ".": patternOf(dot), "^": patternOf(begin), "$": patternOf(end), "()": patternOf(none), "(())": patternOf(none),
		"(a)": patternOf(a), "((a))": patternOf(a), "ab": patternOf(a, b, over(impl.PaCat, 0, 1)),
		"abc":             patternOf(a, b, over(impl.PaCat, 0, 1), c, over(impl.PaCat, 2, 3)),
		"a(bc)":           patternOf(a, b, c, over(impl.PaCat, 1, 2), over(impl.PaCat, 0, 3)),
		"a|b":             patternOf(a, b, over(impl.PaAlt, 0, 1)),
		"a|b|c":           patternOf(a, b, over(impl.PaAlt, 0, 1), c, over(impl.PaAlt, 2, 3)),
		"a|(b|c)":         patternOf(a, b, c, over(impl.PaAlt, 1, 2), over(impl.PaAlt, 0, 3)),
		"ab|c":            patternOf(a, b, over(impl.PaCat, 0, 1), c, over(impl.PaAlt, 2, 3)),
		"a|bc":            patternOf(a, b, c, over(impl.PaCat, 1, 2), over(impl.PaAlt, 0, 3)),
		"(a|b)c":          patternOf(a, b, over(impl.PaAlt, 0, 1), c, over(impl.PaCat, 2, 3)),
		"|":               patternOf(none, none, over(impl.PaAlt, 0, 1)),
		"||":              patternOf(none, none, over(impl.PaAlt, 0, 1), none, over(impl.PaAlt, 2, 3)),
		"a|":              patternOf(a, none, over(impl.PaAlt, 0, 1)),
		"|a":              patternOf(none, a, over(impl.PaAlt, 0, 1)),
		"a||b":            patternOf(a, none, over(impl.PaAlt, 0, 1), b, over(impl.PaAlt, 2, 3)),
		"(|a)b":           patternOf(none, a, over(impl.PaAlt, 0, 1), b, over(impl.PaCat, 2, 3)),
		"a()":             patternOf(a, none, over(impl.PaCat, 0, 1)),
		"a*":              patternOf(a, over(impl.PaStar, 0)),
		"a+":              patternOf(a, over(impl.PaPlus, 0)),
		"a?":              patternOf(a, over(impl.PaOpt, 0)),
		"a*+?":            patternOf(a, over(impl.PaStar, 0), over(impl.PaPlus, 1), over(impl.PaOpt, 2)),
		"a??":             patternOf(a, over(impl.PaOpt, 0), over(impl.PaOpt, 1)),
		"ab*":             patternOf(a, b, over(impl.PaStar, 1), over(impl.PaCat, 0, 2)),
		"a*b":             patternOf(a, over(impl.PaStar, 0), b, over(impl.PaCat, 1, 2)),
		"(ab)*":           patternOf(a, b, over(impl.PaCat, 0, 1), over(impl.PaStar, 2)),
		"()*":             patternOf(none, over(impl.PaStar, 0)),
		"^*$+":            patternOf(begin, over(impl.PaStar, 0), end, over(impl.PaPlus, 2), over(impl.PaCat, 1, 3)),
		"[a]":             patternOf(one(impl.PaSet, "a")),
		"[ba-b]?":         patternOf(one(impl.PaSet, "ba-b"), over(impl.PaOpt, 0)),
		"[^a]":            patternOf(one(impl.PaNot, "a")),
		"[^^]":            patternOf(one(impl.PaNot, "^")),
		"[a^]":            patternOf(one(impl.PaSet, "a^")),
		"[[]":             patternOf(one(impl.PaSet, "[")),
		`[\]`:             patternOf(one(impl.PaSet, `\`)),
		`[\n]`:            patternOf(one(impl.PaSet, `\n`)),
		`\\`:              patternOf(one(impl.PaByte, `\`)),
		`\*+`:             patternOf(one(impl.PaByte, `*`), over(impl.PaPlus, 0)),
		"\x00":            patternOf(one(impl.PaByte, "\x00")),
		"\u00e9":          patternOf(one(impl.PaByte, "\xc3"), one(impl.PaByte, "\xa9"), over(impl.PaCat, 0, 1)),
		"\u00e9*":         patternOf(one(impl.PaByte, "\xc3"), one(impl.PaByte, "\xa9"), over(impl.PaStar, 1), over(impl.PaCat, 0, 2)),
		"[*+?|()[.^$\\]":  patternOf(one(impl.PaSet, "*+?|()[.^$\\")),
		"[^*+?|()[.^$\\]": patternOf(one(impl.PaNot, "*+?|()[.^$\\")),
		"a(b|c)*$":        patternOf(a, b, c, over(impl.PaAlt, 1, 2), over(impl.PaStar, 3), over(impl.PaCat, 0, 4), end, over(impl.PaCat, 5, 6)),
	} {
		p, ok := impl.ReadPattern(s)
		if !ok || !samePattern(p, want) || !impl.PatternOk(p) {
			t.Errorf("ReadPattern(%q) = %#v, %v; want %#v", s, p, ok, want)
		}
	}
}

func checkUnread(t *testing.T, s string) {
	t.Helper()
	if p, ok := impl.ReadPattern(s); ok || !reflect.DeepEqual(p, impl.Pattern{}) {
		t.Errorf("ReadPattern(%q) = %#v, %v; want nothing", s, p, ok)
	}
}

func TestWhatIsNoPattern(t *testing.T) {
	for _, s := range []string{"", "*", "+", "?", "*a", "|*", "a|*", "a|+b", "(*)", "(?a)", "(+", "a|?", "(", ")", "(a", "a)", "())", "(()", ")(", "a(b", "(a|b", "a|b)",
		"[", "[a", "[^", "[^a", "[]", "[^]", "[]a]", "[^]a]", "a[]", "a[b", "[a]]", "]", "a]", "[a]b]", `\`, `a\`, `(\`, `(\)`, `\\\`, `[a\`, "a|\\"} {
		checkUnread(t, s)
	}
}

func TestEveryByteAsAPattern(t *testing.T) {
	for n := range 256 {
		b := string([]byte{byte(n)})
		isSign := strings.Contains(signs, b)
		if p, ok := impl.ReadPattern(`\` + b); ok != isSign || ok && !samePattern(p, patternOf(one(impl.PaByte, b))) {
			t.Errorf("ReadPattern of %q behind a backslash = %#v, %v", b, p, ok)
		}
		if p, ok := impl.ReadPattern("x" + b); !isSign && (!ok || len(p.Pieces) != 3 || p.Pieces[1].Text != b || p.Pieces[1].Op != impl.PaByte) {
			t.Errorf("ReadPattern of %q behind another one = %#v, %v", b, p, ok)
		}
		if !isSign {
			for sign, op := range map[string]int{"*": impl.PaStar, "+": impl.PaPlus, "?": impl.PaOpt} {
				want := patternOf(one(impl.PaByte, b), over(op, 0), over(op, 1))
				if p, ok := impl.ReadPattern(b + sign + sign); !ok || !samePattern(p, want) {
					t.Errorf("ReadPattern(%q) = %#v, %v", b+sign+sign, p, ok)
				}
			}
		}
		if p, ok := impl.ReadPattern("[" + b + "z]"); b != "]" && b != "^" && (!ok || !samePattern(p, patternOf(one(impl.PaSet, b+"z")))) {
			t.Errorf("ReadPattern of a set with %q = %#v, %v", b, p, ok)
		}
		if p, ok := impl.ReadPattern("[^" + b + "z]"); b != "]" && (!ok || !samePattern(p, patternOf(one(impl.PaNot, b+"z")))) {
			t.Errorf("ReadPattern of a set without %q = %#v, %v", b, p, ok)
		}
	}
}

var (
	aWord       = regexp.MustCompile(`(?s)\\[*+?|()\[\].^$\\]|\[(?:\^[^\]]+|[^^\]][^\]]*)\]|.`)
	aBracket    = regexp.MustCompile(`\((?:a\**|\|)*\)`)
	aWholeThing = regexp.MustCompile(`\A(?:a\**|\|)*\z`)
)

// wordsOf cuts a text of ASCII bytes into what stands together.
func wordsOf(s string) []string {
	return aWord.FindAllString(s, -1)
}

// isPattern takes every thing for an `a`, then every bracket that has nothing in it but these.
func isPattern(s string) bool {
	plain := ""
	for _, word := range wordsOf(s) {
		switch {
		case len(word) > 1 || strings.Contains("^$.", word):
			plain += "a"
		case strings.Contains("*+?", word):
			plain += "*"
		case strings.Contains("|()", word):
			plain += word
		case strings.Contains(signs, word):
			plain += "X"
		default:
			plain += "a"
		}
	}
	for aBracket.MatchString(plain) {
		plain = aBracket.ReplaceAllString(plain, "a")
	}
	return aWholeThing.MatchString(plain)
}

// yard puts pieces in their order with a stack of what still waits for its second one.
type yard struct {
	pieces  []impl.Piece
	places  []int
	waiting []int
}

const openBracket = 0

func (y *yard) put(piece impl.Piece) {
	y.pieces = append(y.pieces, piece)
	y.places = append(y.places, len(y.pieces)-1)
}

func (y *yard) putOver(op int, kids int) {
	from := len(y.places) - kids
	piece := over(op, slices.Clone(y.places[from:])...)
	y.places = y.places[:from]
	y.put(piece)
}

// settle puts what waits and is to be put ahead of an op (an op of 0: up to the last bracket).
func (y *yard) settle(op int) {
	for len(y.waiting) > 0 {
		last := y.waiting[len(y.waiting)-1]
		if last == openBracket || op == impl.PaCat && last == impl.PaAlt {
			return
		}
		y.waiting = y.waiting[:len(y.waiting)-1]
		y.putOver(last, 2)
	}
}

func wordPiece(word string) impl.Piece {
	switch {
	case len(word) > 1 && word[0] == '\\':
		return one(impl.PaByte, word[1:])
	case strings.HasPrefix(word, "[^"):
		return one(impl.PaNot, word[2:len(word)-1])
	case len(word) > 1:
		return one(impl.PaSet, word[1:len(word)-1])
	case word == "^":
		return one(impl.PaBegin, "")
	case word == "$":
		return one(impl.PaEnd, "")
	case word == ".":
		return one(impl.PaAny, "")
	}
	return one(impl.PaByte, word)
}

// yardPattern reads a text that is a pattern, going through it once from the left.
func yardPattern(s string) impl.Pattern {
	y := &yard{}
	fresh := true
	finish := func() {
		if fresh {
			y.put(one(impl.PaNone, ""))
		}
		y.settle(openBracket)
	}
	for _, word := range wordsOf(s) {
		repeat := map[string]int{"*": impl.PaStar, "+": impl.PaPlus, "?": impl.PaOpt}[word]
		switch {
		case repeat != 0:
			y.putOver(repeat, 1)
		case word == "|":
			finish()
			y.waiting = append(y.waiting, impl.PaAlt)
			fresh = true
		case word == ")":
			finish()
			y.waiting = y.waiting[:len(y.waiting)-1]
			fresh = false
		default:
			if !fresh {
				y.settle(impl.PaCat)
				y.waiting = append(y.waiting, impl.PaCat)
			}
			fresh = word == "("
			if fresh {
				y.waiting = append(y.waiting, openBracket)
			} else {
				y.put(wordPiece(word))
			}
		}
	}
	finish()
	return impl.Pattern{Pieces: y.pieces}
}

func checkRead(t *testing.T, s string) {
	t.Helper()
	p, ok := impl.ReadPattern(s)
	if want := isPattern(s); ok != want {
		t.Fatalf("ReadPattern(%q) = %#v, %v; want %v", s, p, ok, want)
	}
	if !ok && !reflect.DeepEqual(p, impl.Pattern{}) {
		t.Fatalf("ReadPattern(%q) = %#v beside false", s, p)
	}
	if ok && (!impl.PatternOk(p) || !samePattern(p, yardPattern(s))) {
		t.Fatalf("ReadPattern(%q) = %#v; want %#v", s, p, yardPattern(s))
	}
}

func TestReadPatternOfAllShortTexts(t *testing.T) {
	const letters = `a*?|()[]^\`
	texts := []string{""}
	for range 5 {
		longer := []string{}
		for _, s := range texts {
			for _, letter := range letters {
				longer = append(longer, s+string(letter))
			}
		}
		for _, s := range longer {
			checkRead(t, s)
		}
		texts = longer
	}
}

func TestReadPatternOfDrawnTexts(t *testing.T) {
	r := rand.New(rand.NewPCG(4, 6))
	for range 100000 {
		s := make([]byte, 1+r.IntN(impl.MaxPattern))
		for i := range s {
			s[i] = `aaaaabbcc.^$*+?||(())[]\`[r.IntN(24)]
		}
		checkRead(t, string(s))
	}
	for range 20000 {
		checkRead(t, drawnBrackets(r))
	}
}

// drawnBrackets is a text whose brackets are opened and closed.
func drawnBrackets(r *rand.Rand) string {
	s := "a"
	for {
		next := ""
		switch r.IntN(6) {
		case 0:
			next = "(" + s + ")"
		case 1:
			next = s + "|"
		case 2:
			next = "|" + s
		case 3:
			next = "(" + s + ")" + string("*+?"[r.IntN(3)])
		case 4:
			next = s + "(b|[^c])"
		case 5:
			next = ".$" + s
		}
		if len(next) > impl.MaxPattern {
			return s
		}
		s = next
	}
}

func TestLengthsOfPatterns(t *testing.T) {
	checkUnread(t, "")
	for _, sign := range []string{"a", "|", ".", "\\*", "()", "(", "a*"} {
		for count := 1; count*len(sign) <= impl.MaxPattern; count++ {
			checkRead(t, strings.Repeat(sign, count))
		}
	}
	for _, s := range []string{strings.Repeat("a", 24), strings.Repeat("|", 24), "a" + strings.Repeat("*", 23), "[" + strings.Repeat("a", 22) + "]",
		"[^" + strings.Repeat("a", 21) + "]", strings.Repeat("(", 12) + strings.Repeat(")", 12), strings.Repeat("\xff", 24)} {
		mustRead(t, s)
		checkUnread(t, s+"a")
		checkUnread(t, s+strings.Repeat("a", 1000))
	}
	if p := mustRead(t, strings.Repeat("|", 24)); len(p.Pieces) != 49 {
		t.Errorf("24 bars tell %d pieces", len(p.Pieces))
	}
}

func TestNumberOfPieces(t *testing.T) {
	for _, n := range []int{0, 1, 2, 59, 60, 61, 62, 200} {
		p := impl.Pattern{Pieces: slices.Repeat([]impl.Piece{one(impl.PaNone, "")}, n)}
		want := n >= 1 && n <= maxPieces
		if impl.PatternOk(p) != want {
			t.Errorf("PatternOk of %d pieces is %v", n, !want)
		}
		ends := impl.EndsAt(p, n-1, "ab", 1)
		b, e, found := impl.FindIn(p, "ab")
		if (len(ends) == 1) != want || found != want || b != 0 || e != 0 {
			t.Errorf("%d pieces: EndsAt %v, FindIn %d, %d, %v", n, ends, b, e, found)
		}
	}
	if impl.PatternOk(impl.Pattern{Pieces: []impl.Piece{}}) {
		t.Error("an empty list of pieces is taken")
	}
}

// checkOk asks for a pattern with one more piece as the last one, and with a right one behind it.
func checkOk(t *testing.T, piece impl.Piece, want bool) {
	t.Helper()
	for _, behind := range [][]impl.Piece{nil, {one(impl.PaNone, "")}} {
		p := patternOf(one(impl.PaNone, ""), one(impl.PaByte, "a"), one(impl.PaAny, ""), piece)
		p.Pieces = append(p.Pieces, behind...)
		if impl.PatternOk(p) != want {
			t.Errorf("PatternOk of %#v is %v", p, !want)
		}
		if !want {
			checkEnds(t, p, 0, "a", 0, nil)
			if b, e, ok := impl.FindIn(p, "a"); b != 0 || e != 0 || ok {
				t.Errorf("FindIn(%#v) = %d, %d, %v", p, b, e, ok)
			}
		}
	}
}

func TestOpsThatAreNone(t *testing.T) {
	for _, op := range []int{math.MinInt, -12, -1, 0, 13, 14, 255, 256 + impl.PaNone, math.MaxInt} {
		for _, kids := range [][]int{nil, {0}, {0, 1}} {
			checkOk(t, over(op, kids...), false)
		}
		checkOk(t, one(op, "a"), false)
	}
}

func TestKidsAndTexts(t *testing.T) {
	kidsOf := []int{0, 0, 0, 0, 0, 2, 2, 1, 1, 1, 0, 0, 0}
	leastText := []int{0, 1, 0, 1, 1, 0, 0, 0, 0, 0, 0, 0, 0}
	mostText := []int{0, 1, 0, 24, 24, 0, 0, 0, 0, 0, 0, 0, 0}
	for op := impl.PaByte; op <= impl.PaNone; op++ {
		for _, length := range []int{0, 1, 2, 23, 24, 25, 100} {
			for kids := range 5 {
				piece := impl.Piece{Op: op, Text: strings.Repeat("\xff", length), Kids: []int{0, 1, 2, 0}[:kids]}
				checkOk(t, piece, kids == kidsOf[op] && length >= leastText[op] && length <= mostText[op])
			}
		}
	}
}

func TestKidsAreAhead(t *testing.T) {
	for _, kid := range []int{math.MinInt, -2, -1, 0, 1, 2, 3, 4, 59, 60, math.MaxInt} {
		want := kid >= 0 && kid <= 2
		for _, op := range []int{impl.PaStar, impl.PaPlus, impl.PaOpt} {
			checkOk(t, over(op, kid), want)
		}
		for _, op := range []int{impl.PaCat, impl.PaAlt} {
			checkOk(t, over(op, kid, 1), want)
			checkOk(t, over(op, 1, kid), want)
			checkOk(t, over(op, kid, kid), want)
		}
	}
	if impl.PatternOk(patternOf(over(impl.PaStar, 0))) || impl.PatternOk(patternOf(over(impl.PaCat, 0, 0))) {
		t.Error("a piece is its own kid")
	}
}

// A piece that the whole does not reach, or that stands behind the one asked for, makes the pattern wrong all the same.
func TestWrongPiecesAnywhere(t *testing.T) {
	right := patternOf(one(impl.PaByte, "a"), one(impl.PaByte, "b"), one(impl.PaAny, ""))
	checkEnds(t, right, 0, "a", 0, []int{1})
	for place := range right.Pieces {
		p := copyOf(right)
		p.Pieces[place].Op = 0
		for piece := range p.Pieces {
			checkEnds(t, p, piece, "ab", 0, nil)
		}
	}
}

func TestPlacesThatAreNone(t *testing.T) {
	p := patternOf(one(impl.PaNone, ""), over(impl.PaStar, 0))
	for _, s := range []string{"", "a", "abc"} {
		for piece := range 2 {
			for at := range len(s) + 1 {
				checkEnds(t, p, piece, s, at, []int{at})
			}
			for _, at := range []int{math.MinInt, -2, -1, len(s) + 1, len(s) + 2, math.MaxInt} {
				checkEnds(t, p, piece, s, at, nil)
			}
		}
		for _, piece := range []int{math.MinInt, -2, -1, 2, 3, math.MaxInt} {
			checkEnds(t, p, piece, s, 0, nil)
		}
	}
}

// The whole is the last piece, whatever stands ahead of it.
func TestTheWholeIsTheLastPiece(t *testing.T) {
	p := patternOf(one(impl.PaByte, "a"), one(impl.PaByte, "b"), over(impl.PaCat, 0, 1), one(impl.PaByte, "c"))
	if b, e, ok := impl.FindIn(p, "abc"); b != 2 || e != 3 || !ok {
		t.Errorf("FindIn = %d, %d, %v; want 2, 3, true", b, e, ok)
	}
}

func TestPatternsStayAsTheyAre(t *testing.T) {
	p := mustRead(t, "(a*|b)+[^x]?$")
	room := append(make([]impl.Piece, 0, len(p.Pieces)+3), p.Pieces...)
	spare := room[:cap(room)]
	kids := append(make([]int, 0, 9), room[len(room)-1].Kids...)
	room[len(room)-1].Kids = kids
	p.Pieces = room
	was := copyOf(p)
	first := impl.EndsAt(p, 3, "aabx", 0)
	impl.FindIn(p, "aabx")
	impl.PatternOk(p)
	if !samePattern(p, was) || !reflect.DeepEqual(spare[len(room):], make([]impl.Piece, 3)) || !slices.Equal(kids[2:9], make([]int, 7)) {
		t.Error("a pattern that was handed in is not as it was")
	}
	for i := range first {
		first[i] = -1
	}
	if !samePattern(p, was) || slices.Contains(impl.EndsAt(p, 3, "aabx", 0), -1) {
		t.Error("an answer hangs on one that was written into")
	}
}

func TestPatternsThatAreReadAreNew(t *testing.T) {
	s := strings.Clone("a[bc](d|\\*)[^ef]+")
	p := mustRead(t, s)
	for i, piece := range p.Pieces {
		if piece.Text != "" && sharesMemory(s, piece.Text) {
			t.Errorf("piece %d shares its text with what was read", i)
		}
	}
	for i := range p.Pieces {
		q := mustRead(t, s)
		was := copyOf(q)
		kids := q.Pieces[i].Kids
		for k := range kids[:cap(kids)] {
			kids[:cap(kids)][k] = -7
		}
		was.Pieces[i].Kids = kids
		if !samePattern(q, was) || !samePattern(p, mustRead(t, s)) {
			t.Errorf("piece %d shares its kids with another one", i)
		}
	}
}
