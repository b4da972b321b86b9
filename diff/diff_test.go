package diff

import (
	"errors"
	"math"
	"math/rand"
	"runtime"
	"slices"
	"strings"
	"testing"

	"leafbinder/api"
)

// farNumbers are no Keep and no Strike of any text; some of them are in fewer
// bits, or when they are added.
var farNumbers = []int{
	-1, -2, -200, math.MinInt, math.MinInt + 1, math.MinInt + 200,
	201, 1 << 31, 1 << 32, 1<<32 + 1, 1 << 62, math.MaxInt - 200, math.MaxInt - 1, math.MaxInt,
}

func edit(keep, strike int, write string) api.Edit {
	return api.Edit{Keep: keep, Strike: strike, Write: write}
}

func edits(l ...api.Edit) []api.Edit { return l }

// long gives a text of so many letters, of which those side by side differ.
func long(n int) string {
	text := make([]byte, n)
	for i := range text {
		text[i] = byte('a' + i%26)
	}
	return string(text)
}

// allBytes gives so many bytes, from one on; behind 255 comes 0.
func allBytes(from, n int) string {
	text := make([]byte, n)
	for i := range text {
		text[i] = byte(from + i)
	}
	return string(text)
}

func wantErrno(t *testing.T, err error, want api.Errno, why ...any) {
	t.Helper()
	var got api.Errno
	if !errors.As(err, &got) || got != want {
		t.Errorf("%v: error %v, want %v", why, err, want)
	}
}

// plainApply goes letter by letter: what comes, or what is wrong.
func plainApply(a string, l []api.Edit) (string, api.Errno) {
	if len(a) > 200 || len(l) > 200 {
		return "", api.ErrFull
	}
	left, text := []byte(a), ""
	for _, e := range l {
		if e.Keep < 0 || e.Strike < 0 {
			return "", api.ErrRange
		}
		for n := e.Keep; n > 0; n-- {
			if len(left) == 0 {
				return "", api.ErrRange
			}
			text, left = text+string(left[:1]), left[1:]
		}
		for n := e.Strike; n > 0; n-- {
			if len(left) == 0 {
				return "", api.ErrRange
			}
			left = left[1:]
		}
		text += e.Write
	}
	text += string(left)
	if len(text) > 200 {
		return "", api.ErrFull
	}
	return text, api.OK
}

// plainCost counts the letters one by one.
func plainCost(l []api.Edit) int {
	n := 0
	for _, e := range l {
		for i := 0; i < e.Strike && e.Strike <= 200; i++ {
			n++
		}
		for range []byte(e.Write) {
			n++
		}
	}
	return n
}

// isWithin tells whether the letters of part stand in a text in their order.
func isWithin(part, text string) bool {
	for i := range len(text) {
		if part != "" && part[0] == text[i] {
			part = part[1:]
		}
	}
	return part == ""
}

// leastByChoice tries each choice of letters of a short a to keep.
func leastByChoice(a, b string) int {
	least := len(a) + len(b)
	for choice := range 1 << len(a) {
		kept := ""
		for i := range len(a) {
			if choice>>i&1 == 1 {
				kept += a[i : i+1]
			}
		}
		if isWithin(kept, b) {
			least = min(least, len(a)+len(b)-2*len(kept))
		}
	}
	return least
}

// leastBySteps goes, cost by cost, to all pairs of beginnings of a and b that
// can be come to by that cost, till it comes to both texts.
func leastBySteps(a, b string) int {
	type pair struct{ i, j int }
	seen := map[pair]bool{}
	now := []pair{{0, 0}}
	for cost := 0; ; cost++ {
		var next []pair
		for _, p := range now {
			for p.i < len(a) && p.j < len(b) && a[p.i] == b[p.j] && !seen[p] {
				seen[p] = true
				next = append(next, pair{p.i + 1, p.j}, pair{p.i, p.j + 1})
				p = pair{p.i + 1, p.j + 1}
			}
			if p == (pair{len(a), len(b)}) {
				return cost
			}
			if !seen[p] {
				seen[p] = true
				next = append(next, pair{p.i + 1, p.j}, pair{p.i, p.j + 1})
			}
		}
		now = slices.DeleteFunc(next, func(p pair) bool { return p.i > len(a) || p.j > len(b) })
	}
}

// textsOf gives all texts of at most so many of some letters.
func textsOf(letters string, most int) []string {
	all, last := []string{""}, []string{""}
	for range most {
		var next []string
		for _, text := range last {
			for i := range len(letters) {
				next = append(next, text+letters[i:i+1])
			}
		}
		all, last = append(all, next...), next
	}
	return all
}

// randomText has so many letters, of so many kinds.
func randomText(r *rand.Rand, n, kinds int) string {
	text := make([]byte, n)
	for i := range text {
		text[i] = byte(r.Intn(kinds) * 255 / max(kinds-1, 1))
	}
	return string(text)
}

// randomEdits gives Edits that Apply takes of a text, with empty ones among
// them, and such as write what they strike.
func randomEdits(r *rand.Rand, a string) []api.Edit {
	var l []api.Edit
	left, room := a, 200-len(a)
	for range r.Intn(30) {
		keep := r.Intn(min(len(left), 9) + 1)
		strike := r.Intn(min(len(left)-keep, 9) + 1)
		write := randomText(r, r.Intn(min(room+strike, 9)+1), 3)
		switch r.Intn(4) {
		case 0:
			keep, strike, write = 0, 0, ""
		case 1:
			write = left[keep : keep+strike]
		}
		l = append(l, edit(keep, strike, write))
		left, room = left[keep+strike:], room+strike-len(write)
	}
	return l
}

// wantDiff: Edits of that cost that make b of a.
func wantDiff(t *testing.T, a, b string, want int) []api.Edit {
	t.Helper()
	l, err := Diff(a, b)
	if err != nil {
		t.Fatalf("Diff(%q, %q): %v", a, b, err)
	}
	if got := plainCost(l); got != want {
		t.Errorf("Diff(%q, %q): %v costs %d, want %d", a, b, l, got, want)
	}
	if got, e := plainApply(a, l); e != api.OK || got != b {
		t.Errorf("Diff(%q, %q): %v makes %q, %v", a, b, l, got, e)
	}
	if got, err := Apply(a, l); err != nil || got != b {
		t.Errorf("Diff(%q, %q): Apply of %v gives %q, %v", a, b, l, got, err)
	}
	if got := Cost(l); got != want {
		t.Errorf("Diff(%q, %q): Cost of %v is %d, want %d", a, b, l, got, want)
	}
	return l
}

// wantApply: this text, of Edits that stay as they are.
func wantApply(t *testing.T, a string, l []api.Edit, want string) {
	t.Helper()
	ahead := slices.Clone(l)
	if got, err := Apply(a, l); err != nil || got != want {
		t.Errorf("Apply(%q, %v): got %q, %v, want %q", a, l, got, err, want)
	}
	if !slices.Equal(l, ahead) {
		t.Errorf("Apply(%q, %v): changed them to %v", a, ahead, l)
	}
}

// wantTurned: what Turn gives goes back, with the same cost.
func wantTurned(t *testing.T, a string, l []api.Edit) {
	t.Helper()
	ahead := slices.Clone(l)
	there, e := plainApply(a, l)
	if e != api.OK {
		t.Fatalf("%v of %q: %v", l, a, e)
	}
	u, err := Turn(a, l)
	if err != nil {
		t.Fatalf("Turn(%q, %v): %v", a, l, err)
	}
	if back, e := plainApply(there, u); e != api.OK || back != a {
		t.Errorf("Turn(%q, %v): %v makes of %q %q, %v", a, l, u, there, back, e)
	}
	if back, err := Apply(there, u); err != nil || back != a {
		t.Errorf("Turn(%q, %v): Apply(%q, %v) gives %q, %v", a, l, there, u, back, err)
	}
	if plainCost(u) != plainCost(l) || Cost(u) != Cost(l) {
		t.Errorf("Turn(%q, %v): %v costs %d, want %d", a, l, u, plainCost(u), plainCost(l))
	}
	if !slices.Equal(l, ahead) {
		t.Errorf("Turn(%q, %v): changed them to %v", a, ahead, l)
	}
}

// wantRefused: Apply and Turn have this error, and nothing else.
func wantRefused(t *testing.T, a string, l []api.Edit, want api.Errno) {
	t.Helper()
	ahead := slices.Clone(l)
	text, err := Apply(a, l)
	wantErrno(t, err, want, "Apply", a, l)
	if text != "" {
		t.Errorf("Apply(%q, %v): got %q with an error", a, l, text)
	}
	u, err := Turn(a, l)
	wantErrno(t, err, want, "Turn", a, l)
	if len(u) != 0 {
		t.Errorf("Turn(%q, %v): got %v with an error", a, l, u)
	}
	if !slices.Equal(l, ahead) {
		t.Errorf("Apply or Turn of %v: changed them to %v", ahead, l)
	}
}

func TestDiffCosts(t *testing.T) {
	for _, c := range []struct {
		a, b string
		want int
	}{
		{"", "", 0},
		{"", "a", 1}, {"a", "", 1}, {"", "hello", 5}, {"hello", "", 5},
		{"a", "a", 0}, {"hello", "hello", 0}, {"xyz xyz", "xyz xyz", 0},
		{"a", "b", 2}, {"abc", "xyz", 6}, {"hello", "bc", 7}, {"aaaa", "bb", 6},
		{"ab", "ba", 2}, {"abc", "cab", 2}, {"abcd", "bcda", 2}, {"abc", "cba", 4},
		{"abc", "ac", 1}, {"abc", "bc", 1}, {"abc", "ab", 1},
		{"ac", "abc", 1}, {"bc", "abc", 1}, {"ab", "abc", 1},
		{"abc", "axc", 2}, {"abc", "xbc", 2}, {"abc", "abx", 2},
		{"aaa", "aa", 1}, {"aa", "aaa", 1}, {"abab", "baba", 2},
		{"a b", "hello", 8}, {"hello", "help", 3}, {"kitten", "sitting", 5},
		{"xaxbxcx", "abc", 4}, {"abc", "xaxbxcx", 4}, {"xaxb", "aybz", 4},
		// To keep the first letter that could be kept would cost more.
		{"abbb", "bbba", 2}, {"bbba", "abbb", 2}, {"abcdef", "cdefab", 4}, {"xab", "abx", 2},
	} {
		wantDiff(t, c.a, c.b, c.want)
		wantDiff(t, c.b, c.a, c.want)
	}
}

// TestDiffOfTheSame: what is kept to the end has no cost, also of bytes that are
// no texts.
func TestDiffOfTheSame(t *testing.T) {
	for _, a := range []string{"", "a", " ", "\x00", "\xff", "aaaa", long(200), strings.Repeat("a", 200), allBytes(0, 200), allBytes(100, 200)} {
		wantDiff(t, a, a, 0)
		wantDiff(t, a, "", len(a))
		wantDiff(t, "", a, len(a))
	}
}

func TestDiffOfAnyBytes(t *testing.T) {
	for _, c := range []struct {
		a, b string
		want int
	}{
		{"\x00", "", 1}, {"\x00", "\x00\x00", 1}, {"\x00", "0", 2}, {"a\x00b", "ab", 1},
		{"\xff", "\x7f", 2}, {"\x80", "\x00", 2}, {"\xff\xfe", "\xfe\xff", 2},
		// Letters are bytes: these have their first one in common.
		{"é", "è", 2}, {"é", "\xc3", 1}, {"日本", "本日", 6}, {"é", "\u0301e", 5},
		{"\xff", "\ufffd", 4}, {"a\n", "a\r\n", 1}, {"A", "a", 2},
		{allBytes(0, 200), allBytes(56, 200), 112}, {allBytes(0, 100), allBytes(100, 100), 200},
	} {
		wantDiff(t, c.a, c.b, c.want)
		wantDiff(t, c.b, c.a, c.want)
	}
}

// TestDiffLengths: texts of 199 and 200 letters are taken, and no longer ones.
func TestDiffLengths(t *testing.T) {
	for _, n := range []int{198, 199, 200} {
		other := strings.ToUpper(long(n))
		wantDiff(t, long(n), "", n)
		wantDiff(t, "", long(n), n)
		wantDiff(t, long(n), long(n), 0)
		wantDiff(t, long(n), long(200), 200-n)
		wantDiff(t, long(200), long(n), 200-n)
		wantDiff(t, long(n), other, 2*n)
		wantDiff(t, other, long(200), n+200)
	}
	for _, n := range []int{201, 202, 256, 400, 1000, 1 << 20} {
		for _, pair := range [][2]string{
			{long(n), ""}, {"", long(n)}, {long(n), "a"}, {"a", long(n)},
			{long(n), long(n)}, {long(n), long(200)}, {long(200), long(n)}, {long(n), long(201)},
		} {
			l, err := Diff(pair[0], pair[1])
			wantErrno(t, err, api.ErrFull, "Diff of", len(pair[0]), "and", len(pair[1]))
			if len(l) != 0 {
				t.Errorf("Diff of %d and %d letters: got %v with an error", len(pair[0]), len(pair[1]), l)
			}
		}
	}
}

// TestDiffOfAllShortOnes: no choice of what is kept costs less.
func TestDiffOfAllShortOnes(t *testing.T) {
	for _, texts := range [][]string{textsOf("ab", 6), textsOf("abc", 4), textsOf("\x00\x80\xff", 3)} {
		for _, a := range texts {
			for _, b := range texts {
				least := leastByChoice(a, b)
				if steps := leastBySteps(a, b); steps != least {
					t.Fatalf("%q, %q: the plain counts are %d and %d", a, b, least, steps)
				}
				wantDiff(t, a, b, least)
			}
		}
	}
}

func TestDiffOfLongOnes(t *testing.T) {
	r := rand.New(rand.NewSource(16))
	for i := range 240 {
		kinds := []int{1, 2, 3, 4, 26, 256}[i%6]
		a, b := randomText(r, r.Intn(201), kinds), randomText(r, r.Intn(201), kinds)
		if i%5 == 0 {
			a, b = randomText(r, 200, kinds), randomText(r, 200, kinds)
		}
		wantDiff(t, a, b, leastBySteps(a, b))
	}
}

// TestDiffOfWhatWasEdited: it costs at most what the Edits did.
func TestDiffOfWhatWasEdited(t *testing.T) {
	r := rand.New(rand.NewSource(61))
	for range 300 {
		a := randomText(r, r.Intn(201), 3)
		l := randomEdits(r, a)
		b, e := plainApply(a, l)
		if e != api.OK {
			t.Fatalf("%v of %q: %v", l, a, e)
		}
		least := leastBySteps(a, b)
		if least > plainCost(l) {
			t.Fatalf("%q, %q: the plain count is %d, but %v costs less", a, b, least, l)
		}
		wantTurned(t, a, wantDiff(t, a, b, least))
	}
}

// TestDiffInManyPieces: however often they differ, Apply takes the Edits.
func TestDiffInManyPieces(t *testing.T) {
	for _, c := range []struct {
		a, b string
		want int
	}{
		{strings.Repeat("ax", 100), strings.Repeat("ay", 100), 200},
		{strings.Repeat("xa", 100), strings.Repeat("ya", 100), 200},
		{strings.Repeat("ax", 100), strings.Repeat("a", 100), 100},
		{strings.Repeat("a", 100), strings.Repeat("ax", 100), 100},
		{strings.Repeat("xa", 100), strings.Repeat("a", 200), 200},
		{strings.Repeat("aax", 66), strings.Repeat("aya", 66), 132},
		{strings.Repeat("aaxaaa", 33), strings.Repeat("aaaaya", 33), 66},
	} {
		wantDiff(t, c.a, c.b, c.want)
		wantDiff(t, c.b, c.a, c.want)
	}
}

// TestDiffIsTheCallers: what came out may be written into, and the same comes
// again.
func TestDiffIsTheCallers(t *testing.T) {
	first, _ := Diff("xaxbxc", "aybyc")
	kept := slices.Clone(first)
	second, _ := Diff("xaxbxc", "aybyc")
	for i := range first {
		first[i] = edit(-1, -1, "?")
	}
	third, _ := Diff("xaxbxc", "aybyc")
	if len(kept) == 0 || !slices.Equal(second, kept) || !slices.Equal(third, kept) {
		t.Errorf("Diff: got %v, then %v, then %v", kept, second, third)
	}
}

func TestApply(t *testing.T) {
	for _, c := range []struct {
		a    string
		l    []api.Edit
		want string
	}{
		// No Edits: all is left, and kept.
		{"", nil, ""}, {"", edits(), ""}, {"hello", nil, "hello"}, {"hello", edits(), "hello"},
		// Empty ones do nothing.
		{"", edits(edit(0, 0, "")), ""}, {"abc", edits(edit(0, 0, "")), "abc"},
		{"abc", edits(edit(1, 0, ""), edit(0, 0, ""), edit(2, 0, ""), edit(0, 0, "")), "abc"},
		// One of a kind, at the ends and between.
		{"abc", edits(edit(0, 1, "")), "bc"}, {"abc", edits(edit(1, 1, "")), "ac"}, {"abc", edits(edit(2, 1, "")), "ab"},
		{"abc", edits(edit(0, 0, "x")), "xabc"}, {"abc", edits(edit(1, 0, "x")), "axbc"}, {"abc", edits(edit(3, 0, "x")), "abcx"},
		// As many as are left.
		{"abc", edits(edit(3, 0, "")), "abc"}, {"abc", edits(edit(0, 3, "")), ""}, {"abc", edits(edit(1, 2, "")), "a"},
		{"abc", edits(edit(1, 0, ""), edit(2, 0, "")), "abc"}, {"abc", edits(edit(0, 1, ""), edit(0, 2, "")), ""},
		{"abc", edits(edit(1, 1, "x"), edit(1, 0, "y")), "axcy"}, {"abc", edits(edit(1, 1, "x"), edit(0, 1, "y")), "axy"},
		// What is kept, then struck, then written; what is left is kept.
		{"abcdef", edits(edit(1, 2, "xyz")), "axyzdef"}, {"abcdef", edits(edit(1, 2, "x"), edit(1, 1, "y")), "axdyf"},
		{"abcdef", edits(edit(0, 1, "x"), edit(0, 1, "y"), edit(0, 0, "z")), "xyzcdef"},
		// What is written is not there for later Edits.
		{"", edits(edit(0, 0, "ab"), edit(0, 0, "cd")), "abcd"}, {"ab", edits(edit(0, 0, "xy"), edit(2, 0, "z")), "xyabz"},
		{"ab", edits(edit(0, 0, "xy"), edit(0, 2, "")), "xy"}, {"ab", edits(edit(0, 2, "ab")), "ab"},
		// Any bytes.
		{"\x00\xff", edits(edit(1, 0, "\x80\n")), "\x00\x80\n\xff"}, {"é", edits(edit(1, 1, "\xa8")), "è"},
		{allBytes(0, 100), edits(edit(100, 0, allBytes(100, 100))), allBytes(0, 200)},
	} {
		wantApply(t, c.a, c.l, c.want)
		wantTurned(t, c.a, c.l)
	}
}

// TestApplyNumbers: there must be as many letters as are kept and struck.
func TestApplyNumbers(t *testing.T) {
	for _, n := range []int{0, 1, 3, 199, 200} {
		a := long(n)
		wantApply(t, a, edits(edit(n, 0, "")), a)
		wantApply(t, a, edits(edit(0, n, "")), "")
		wantApply(t, a, edits(edit(n/2, n-n/2, "")), a[:n/2])
		for _, l := range [][]api.Edit{
			edits(edit(n+1, 0, "")), edits(edit(0, n+1, "")),
			edits(edit(n, 1, "")), edits(edit(1, n, "")), edits(edit(n/2, n-n/2+1, "")), edits(edit(n/2+1, n-n/2, "")),
			edits(edit(n, 0, ""), edit(1, 0, "")), edits(edit(0, n, ""), edit(0, 1, "")),
			edits(edit(n, 0, ""), edit(0, 1, "")), edits(edit(0, n, ""), edit(1, 0, "")),
			edits(edit(n/2, n-n/2, "x"), edit(1, 0, "")), edits(edit(0, 0, "x"), edit(n+1, 0, "")),
			edits(edit(n, 0, "x"), edit(0, 1, "")), edits(edit(0, n, "x"), edit(1, 0, "")),
		} {
			wantRefused(t, a, l, api.ErrRange)
		}
	}
}

func TestApplyFarNumbers(t *testing.T) {
	for _, a := range []string{"", "a", "abc", long(200)} {
		for _, far := range farNumbers {
			for _, other := range append([]int{0, 1, len(a)}, farNumbers...) {
				for _, wrong := range []api.Edit{edit(far, other, "x"), edit(other, far, "x"), edit(far, other, "")} {
					wantRefused(t, a, edits(wrong), api.ErrRange)
					wantRefused(t, a, edits(edit(0, 0, ""), wrong), api.ErrRange)
					wantRefused(t, a, edits(edit(len(a), 0, ""), wrong, edit(0, 0, "")), api.ErrRange)
				}
			}
		}
	}
}

// TestApplyBounds: 200 letters and 200 Edits are taken, and no more, and what
// comes has at most 200 letters.
func TestApplyBounds(t *testing.T) {
	nothing := slices.Repeat(edits(edit(0, 0, "")), 201)
	byLetters := slices.Repeat(edits(edit(0, 0, "x")), 201)
	wantApply(t, long(199), nil, long(199))
	wantApply(t, long(200), nil, long(200))
	wantApply(t, long(200), nothing[:200], long(200))
	wantApply(t, "", nothing[:200], "")
	wantApply(t, "", byLetters[:200], strings.Repeat("x", 200))
	wantApply(t, long(200), slices.Repeat(edits(edit(0, 1, "x")), 200), strings.Repeat("x", 200))
	wantApply(t, "", edits(edit(0, 0, long(200))), long(200))
	wantApply(t, long(200), edits(edit(0, 200, long(200))), long(200))
	wantApply(t, long(200), edits(edit(199, 1, "x")), long(199)+"x")
	wantApply(t, long(100), edits(edit(100, 0, long(100))), long(100)+long(100))
	// Only what comes at last is counted: what is struck later makes room, too.
	wantApply(t, long(200), edits(edit(0, 0, "x"), edit(199, 1, "")), "x"+long(199))
	wantApply(t, long(200), edits(edit(0, 0, long(200)), edit(0, 200, "")), long(200))

	for _, c := range []struct {
		a string
		l []api.Edit
	}{
		{long(201), nil}, {long(201), edits(edit(0, 1, ""))}, {long(201), edits(edit(0, 201, ""))}, {long(1 << 20), nil},
		{"", nothing}, {"a", nothing}, {long(201), nothing}, {long(200), nothing}, {"", byLetters},
		{"", edits(edit(0, 0, long(201)))}, {"", edits(edit(0, 0, long(200)), edit(0, 0, "x"))},
		{"a", edits(edit(0, 0, long(200)))}, {"a", edits(edit(1, 0, long(200)))}, {"a", edits(edit(0, 1, long(201)))},
		{long(200), edits(edit(0, 0, "x"))}, {long(200), edits(edit(200, 0, "x"))}, {long(200), edits(edit(199, 1, "xy"))},
		{long(199), edits(edit(0, 0, "x"), edit(199, 0, "y"))}, {long(100), edits(edit(50, 0, long(101)))},
		{"", edits(edit(0, 0, long(1<<20)))}, {long(200), edits(edit(0, 200, long(201)))},
	} {
		wantRefused(t, c.a, c.l, api.ErrFull)
	}
}

// TestApplyLongWrites: what is far too long is refused, not made.
func TestApplyLongWrites(t *testing.T) {
	l := slices.Repeat(edits(edit(0, 0, strings.Repeat("x", 1<<24))), 200)
	var ahead, behind runtime.MemStats
	runtime.ReadMemStats(&ahead)
	text, err := Apply("", l)
	u, bad := Turn("", l)
	runtime.ReadMemStats(&behind)
	wantErrno(t, err, api.ErrFull, "Apply of long writes")
	wantErrno(t, bad, api.ErrFull, "Turn of long writes")
	if text != "" || len(u) != 0 {
		t.Errorf("long writes: got %d letters and %d Edits with an error", len(text), len(u))
	}
	if n := behind.TotalAlloc - ahead.TotalAlloc; n > 1<<20 {
		t.Errorf("long writes: %d bytes were taken to refuse them", n)
	}
}

// TestApplyOrder: of several errors the one that is named first.
func TestApplyOrder(t *testing.T) {
	wrong, full := edit(-1, 0, ""), edit(0, 0, long(201))
	many := slices.Repeat(edits(edit(0, 0, "")), 200)
	for _, c := range []struct {
		a    string
		l    []api.Edit
		want api.Errno
	}{
		// How long the text and the list are, ahead of all.
		{long(201), edits(wrong), api.ErrFull}, {long(201), edits(edit(0, 202, "")), api.ErrFull}, {long(201), edits(full, wrong), api.ErrFull},
		{"", append(edits(wrong), many...), api.ErrFull}, {"", append(slices.Clone(many), wrong), api.ErrFull},
		{"", slices.Repeat(edits(wrong), 201), api.ErrFull}, {"", slices.Repeat(edits(wrong), 200), api.ErrRange},
		// Each Edit's own fault, wherever it stands, ahead of how long it comes.
		{"", append(slices.Clone(many[:199]), wrong), api.ErrRange},
		{"", edits(edit(-1, 0, long(201))), api.ErrRange}, {"", edits(edit(0, -1, long(201))), api.ErrRange},
		{"", edits(edit(1, 0, long(201))), api.ErrRange}, {"", edits(edit(0, 1, long(201))), api.ErrRange},
		{"", edits(wrong, full), api.ErrRange}, {"", edits(full, wrong), api.ErrRange},
		{"abc", edits(full, edit(3, 0, ""), edit(0, 1, "")), api.ErrRange},
		{"abc", edits(full, edit(4, 0, "")), api.ErrRange}, {"abc", edits(edit(0, 4, ""), full), api.ErrRange},
		{long(200), edits(edit(200, 0, "x"), edit(1, 0, "")), api.ErrRange},
		// What is wrong with the first one is not made good by a later one.
		{"abc", edits(edit(4, 0, ""), edit(-1, 0, "")), api.ErrRange}, {"abc", edits(edit(-1, 0, ""), edit(4, 0, "")), api.ErrRange},
		{"abc", edits(edit(-1, 1, "a"), edit(1, 0, "")), api.ErrRange}, {"abc", edits(edit(1, -1, ""), edit(0, 1, "")), api.ErrRange},
		{"abc", edits(edit(4, -1, "")), api.ErrRange}, {"abc", edits(edit(-1, 4, "")), api.ErrRange},
	} {
		wantRefused(t, c.a, c.l, c.want)
	}
}

// TestApplyOfAllShortOnes: against what comes letter by letter, and there and
// back.
func TestApplyOfAllShortOnes(t *testing.T) {
	var kinds []api.Edit
	for keep := -1; keep <= 3; keep++ {
		for strike := -1; strike <= 3; strike++ {
			kinds = append(kinds, edit(keep, strike, ""), edit(keep, strike, "a"), edit(keep, strike, "xa"))
		}
	}
	for _, a := range []string{"", "a", "ab", "aba"} {
		for _, first := range kinds {
			wantPlain(t, a, edits(first))
			for _, second := range kinds {
				wantPlain(t, a, edits(first, second))
				wantPlain(t, a, edits(first, edit(0, 0, ""), second))
			}
		}
	}
}

// wantPlain: Apply and Turn as the plain one says.
func wantPlain(t *testing.T, a string, l []api.Edit) {
	t.Helper()
	text, e := plainApply(a, l)
	if e != api.OK {
		wantRefused(t, a, l, e)
		return
	}
	wantApply(t, a, l, text)
	wantTurned(t, a, l)
}

func TestApplyOfLongOnes(t *testing.T) {
	r := rand.New(rand.NewSource(160))
	for i := range 2000 {
		a := randomText(r, r.Intn(201), 3)
		l := randomEdits(r, a)
		if len(l) > 0 && i%3 == 0 {
			one := &l[r.Intn(len(l))]
			one.Keep, one.Strike = one.Keep+r.Intn(9)-4, one.Strike+r.Intn(9)-4
		}
		if len(l) > 0 && i%5 == 0 {
			l[r.Intn(len(l))].Write += long(r.Intn(200))
		}
		wantPlain(t, a, l)
	}
}

func TestCost(t *testing.T) {
	for _, c := range []struct {
		l    []api.Edit
		want int
	}{
		{nil, 0}, {edits(), 0}, {edits(edit(0, 0, "")), 0},
		{edits(edit(0, 1, "")), 1}, {edits(edit(0, 0, "x")), 1}, {edits(edit(0, 2, "xyz")), 5},
		{edits(edit(0, 1, "x"), edit(0, 1, "x")), 4}, {edits(edit(0, 2, ""), edit(0, 0, ""), edit(0, 0, "abc")), 5},
		// What is kept costs nothing, how much it may be.
		{edits(edit(7, 0, "")), 0}, {edits(edit(-1, 1, "x")), 2}, {edits(edit(201, 1, "x")), 2},
		{edits(edit(math.MaxInt, 1, "x"), edit(math.MinInt, 1, "x")), 4},
		// What is written costs, of any length and any bytes.
		{edits(edit(0, 0, long(200))), 200}, {edits(edit(0, 0, long(201))), 201}, {edits(edit(0, 0, long(1<<20))), 1 << 20},
		{edits(edit(0, 0, "é")), 2}, {edits(edit(0, 0, "\x00")), 1}, {edits(edit(0, 0, "\xff\xff")), 2},
		// What is struck costs, if it may be.
		{edits(edit(0, 199, "")), 199}, {edits(edit(0, 200, "")), 200}, {edits(edit(0, 201, "")), 0},
		{edits(edit(0, -1, "")), 0}, {edits(edit(0, 200, ""), edit(0, 200, "x")), 401},
		{edits(edit(0, 201, "xyz"), edit(0, 2, "")), 5}, {edits(edit(0, -3, "xyz"), edit(0, 2, "")), 5},
		// Also of more Edits than Apply takes.
		{slices.Repeat(edits(edit(0, 1, "x")), 200), 400}, {slices.Repeat(edits(edit(0, 1, "x")), 201), 402},
		{slices.Repeat(edits(edit(0, 200, "xy")), 5000), 5000 * 202},
	} {
		ahead := slices.Clone(c.l)
		if got := Cost(c.l); got != c.want {
			t.Errorf("Cost(%v): got %d, want %d", c.l, got, c.want)
		}
		if !slices.Equal(c.l, ahead) {
			t.Errorf("Cost(%v): changed them to %v", ahead, c.l)
		}
	}
	for _, far := range farNumbers {
		if got := Cost(edits(edit(1, far, "xy"), edit(far, 3, ""), edit(far, far, ""))); got != 5 {
			t.Errorf("Cost with the Strike %d: got %d, want 5", far, got)
		}
	}
}

func TestTurn(t *testing.T) {
	for _, c := range []struct {
		a string
		l []api.Edit
	}{
		{"", nil}, {"hello", nil}, {"hello", edits(edit(5, 0, ""))}, {"", edits(edit(0, 0, ""))},
		{"hello", edits(edit(0, 5, ""))}, {"", edits(edit(0, 0, "hello"))}, {"hello", edits(edit(1, 3, "xy"))},
		// What strikes what it writes again has its cost.
		{"abc", edits(edit(0, 3, "abc"))}, {"abc", edits(edit(0, 1, "a"), edit(0, 1, "b"), edit(0, 1, "c"))},
		{"abab", edits(edit(1, 2, "ba"))}, {"aaaa", edits(edit(0, 2, "aa"), edit(1, 0, "a"), edit(0, 1, ""))},
		// Written in one Edit, struck in another one, with empty ones among them.
		{"abc", edits(edit(0, 0, ""), edit(0, 0, "x"), edit(0, 0, ""), edit(0, 2, ""), edit(0, 0, ""), edit(0, 0, "ab"), edit(1, 0, ""), edit(0, 0, ""))},
		{"aa", edits(edit(0, 0, "a"), edit(0, 1, ""))}, {"aa", edits(edit(0, 1, ""), edit(0, 0, "a"))},
		// At the bounds.
		{long(200), edits(edit(0, 200, long(200)))}, {long(200), edits(edit(0, 200, ""))}, {"", edits(edit(0, 0, long(200)))},
		{long(200), slices.Repeat(edits(edit(0, 1, "x")), 200)}, {long(200), slices.Repeat(edits(edit(0, 0, "")), 200)},
		{"", slices.Repeat(edits(edit(0, 0, "x")), 200)}, {long(200), edits(edit(0, 0, long(200)), edit(0, 200, ""))},
		{allBytes(0, 200), edits(edit(50, 100, allBytes(0, 90)))},
	} {
		wantTurned(t, c.a, c.l)
	}
}

// TestTurnedTwice: back from back is there again.
func TestTurnedTwice(t *testing.T) {
	r := rand.New(rand.NewSource(1600))
	for range 300 {
		a := randomText(r, r.Intn(201), 3)
		l := randomEdits(r, a)
		b, _ := plainApply(a, l)
		u, err := Turn(a, l)
		if err != nil {
			t.Fatalf("Turn(%q, %v): %v", a, l, err)
		}
		wantTurned(t, b, u)
		v, err := Turn(b, u)
		if err != nil {
			t.Fatalf("Turn(%q, %v): %v", b, u, err)
		}
		wantApply(t, a, v, b)
	}
}

// TestTurnIsTheCallers: what came out may be written into, and what was given
// too, and neither changes the other one.
func TestTurnIsTheCallers(t *testing.T) {
	given := edits(edit(1, 1, "xy"), edit(0, 0, ""), edit(1, 1, "z"))
	first, _ := Turn("abcd", given)
	kept := slices.Clone(first)
	second, _ := Turn("abcd", given)
	for i := range first {
		first[i] = edit(-1, -1, "?")
	}
	third, _ := Turn("abcd", given)
	wantApply(t, "abcd", given, "axycz")
	for i := range given {
		given[i] = edit(-2, -2, "!")
	}
	if !slices.Equal(second, kept) || !slices.Equal(third, kept) {
		t.Errorf("Turn: got %v, then %v, then %v", kept, second, third)
	}
	wantApply(t, "axycz", kept, "abcd")
}

// TestBehindTheLength: what lies there in a list's memory is neither read nor
// written.
func TestBehindTheLength(t *testing.T) {
	memory := edits(edit(1, 1, "x"), edit(-1, 500, long(500)), edit(0, 9, "y"))
	ahead := slices.Clone(memory)
	l := memory[:1]
	wantApply(t, "abc", l, "axc")
	wantTurned(t, "abc", l)
	if got := Cost(l); got != 2 {
		t.Errorf("Cost: got %d, want 2", got)
	}
	u, _ := Turn("abc", l)
	_ = append(u, edit(7, 7, "?"))
	if !slices.Equal(memory, ahead) {
		t.Errorf("the memory behind is %v now", memory)
	}
}
