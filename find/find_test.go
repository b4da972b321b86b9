package find

import (
	"errors"
	"math"
	"math/rand"
	"reflect"
	"slices"
	"sort"
	"strings"
	"testing"

	"leafbinder/api"
	"leafbinder/doc"
	"leafbinder/edit"
	"leafbinder/place"
)

var wrongAuthors = []int{0, -1, -8, 9, 10, math.MinInt, math.MinInt + 1, math.MaxInt, math.MaxInt - 1, 1 << 32, 1<<32 + 1}

var wrongWidths = []int{0, -1, -2, -100, 101, 102, 300, math.MinInt, math.MinInt + 1, math.MaxInt, math.MaxInt - 1, 1 << 32, 1<<32 + 1}

// Places of twelve letters between which there is none.
var (
	low       = strings.Repeat("b", 12)
	nextToLow = strings.Repeat("b", 11) + "c"
	// lowest has no place ahead of it, deepest none behind it.
	lowest  = strings.Repeat("a", 10) + "bb"
	deepest = strings.Repeat("z", 11) + "b"
)

func times(text string, n int) string { return strings.Repeat(text, n) }

func at(who, n int) api.Dot { return api.Dot{Who: who, N: n} }

func write(who, n int, p string, letter int) api.Op {
	return api.Op{Dot: at(who, n), What: api.Write, Place: p, Letter: letter}
}

func strike(who, n int, p string) api.Op { return api.Op{Dot: at(who, n), What: api.Strike, Place: p} }

func cut(who, n int, p string) api.Op { return api.Op{Dot: at(who, n), What: api.Cut, Place: p} }

func join(who, n int, p string, seen ...api.Dot) api.Op {
	return api.Op{Dot: at(who, n), What: api.Join, Place: p, Seen: seen}
}

func list(l ...api.Op) []api.Op { return l }

func wantErrno(t *testing.T, err error, want api.Errno, why ...any) {
	t.Helper()
	var got api.Errno
	if !errors.As(err, &got) || got != want {
		t.Errorf("%.200q: error %v, want %v", why, err, want)
	}
}

func wantAll(t *testing.T, text, part string, want ...int) {
	t.Helper()
	if got, err := All(text, part); err != nil || !slices.Equal(got, want) {
		t.Errorf("All(%q, %q): got %v, %v, want %v", text, part, got, err, want)
	}
}

func wantNotAll(t *testing.T, text, part string, want api.Errno) {
	t.Helper()
	got, err := All(text, part)
	wantErrno(t, err, want, "All", text, part)
	if len(got) != 0 {
		t.Errorf("All(%q, %q): got %v with an error", text, part, got)
	}
}

func wantWords(t *testing.T, text string, want ...string) {
	t.Helper()
	if got, err := Words(text); err != nil || !slices.Equal(got, want) {
		t.Errorf("Words(%q): got %q, %v, want %q", text, got, err, want)
	}
}

func wantLines(t *testing.T, text string, width int, want ...string) {
	t.Helper()
	if got, err := Lines(text, width); err != nil || !slices.Equal(got, want) {
		t.Errorf("Lines(%q, %d): got %q, %v, want %q", text, width, got, err, want)
	}
}

func wantNoLines(t *testing.T, text string, width int, want api.Errno) {
	t.Helper()
	got, err := Lines(text, width)
	wantErrno(t, err, want, "Lines", text, width)
	if len(got) != 0 {
		t.Errorf("Lines(%q, %d): got %q with an error", text, width, got)
	}
}

// shortTexts gives all texts of some letters up to a length.
func shortTexts(letters string, long int) []string {
	all, last := []string{""}, []string{""}
	for range long {
		var next []string
		for _, text := range last {
			for i := range len(letters) {
				next = append(next, text+letters[i:i+1])
			}
		}
		all, last = append(all, next...), next
	}
	return all
}

// anyText gives one of so many letters of some.
func anyText(r *rand.Rand, letters string, long int) string {
	text := make([]byte, long)
	for i := range text {
		text[i] = letters[r.Intn(len(letters))]
	}
	return string(text)
}

func TestAllOfSomeTexts(t *testing.T) {
	for _, c := range []struct {
		text, part string
		want       []int
	}{
		{"", "a", nil},
		{"", times("a", 200), nil},
		{"b", "a", nil},
		{"a", "a", []int{0}},
		{"abc", "abc", []int{0}},
		{"abc", "abcd", nil},
		{"ab", "abc", nil},
		{"abc", "ab", []int{0}},
		{"abc", "bc", []int{1}},
		{"abc", "b", []int{1}},
		{"abc", "ac", nil},
		{"abxabyab", "ab", []int{0, 3, 6}},
		{"ababab", "ab", []int{0, 2, 4}},
		{"xababx", "ab", []int{1, 3}},
		{"aaa", "a", []int{0, 1, 2}},
		{"aaaa", "aa", []int{0, 2}},
		{"aaa", "aa", []int{0}},
		{"aaaaa", "aa", []int{0, 2}},
		{"baaab", "aa", []int{1}},
		{"abababa", "aba", []int{0, 4}},
		{"ababa", "aba", []int{0}},
		// What begins as the part does, and goes on otherwise, hides none.
		{"aabaab", "aab", []int{0, 3}},
		{"aaab", "aab", []int{1}},
		{"ababac", "abac", []int{2}},
		{"  a ", " ", []int{0, 1, 3}},
		{"aAa", "A", []int{1}},
		{"a.b", ".", []int{1}},
		// Letters are bytes, of any kind.
		{"\u00e9a\u00e9", "\u00e9", []int{0, 3}},
		{"\u00e9\u00e8", "\xc3", []int{0, 2}},
		{"\xff\x00\xff\xff", "\xff", []int{0, 2, 3}},
		{"a\nb\n", "\n", []int{1, 3}},
		{"\ufffd", "\xff", nil},
		{"\xff", "\ufffd", nil},
	} {
		wantAll(t, c.text, c.part, c.want...)
	}
}

func TestAllOfLongTexts(t *testing.T) {
	text, part := times("ab", 150), times("a", 200)
	var each []int
	for i := range 150 {
		each = append(each, 2*i)
	}
	wantAll(t, text, "ab", each...)
	wantAll(t, text, part)
	wantAll(t, times("a", 300), part, 0)
	wantAll(t, times("a", 299), times("a", 150), 0)
	wantAll(t, times("a", 300), times("a", 150), 0, 150)
	wantAll(t, times("b", 100)+part, part, 100)
	wantAll(t, times("b", 299)+"a", "a", 299)
	wantNotAll(t, text+"a", "ab", api.ErrFull)
	wantNotAll(t, times("a", 301), "b", api.ErrFull)
	wantNotAll(t, text, part+"a", api.ErrFull)
	wantNotAll(t, "", part+"a", api.ErrFull)
	wantNotAll(t, times("a", 1_000_000), times("a", 1_000_000), api.ErrFull)
}

func TestAllOfAnEmptyPart(t *testing.T) {
	wantNotAll(t, "", "", api.ErrShape)
	wantNotAll(t, "abc", "", api.ErrShape)
	wantNotAll(t, times("a", 300), "", api.ErrShape)
	// That it is too long is named ahead of that.
	wantNotAll(t, times("a", 301), "", api.ErrFull)
}

// plainAll goes from offset to offset.
func plainAll(text, part string) []int {
	var l []int
	for i := 0; i+len(part) <= len(text); {
		if text[i:i+len(part)] == part {
			l = append(l, i)
			i += len(part)
		} else {
			i++
		}
	}
	return l
}

func TestAllOfAllShortTexts(t *testing.T) {
	for _, text := range shortTexts("ab", 9) {
		for _, part := range shortTexts("ab", 5)[1:] {
			wantAll(t, text, part, plainAll(text, part)...)
		}
	}
}

func TestAllIsTheCallers(t *testing.T) {
	one, _ := All("abab", "ab")
	other, _ := All("abab", "ab")
	for i := range one[:cap(one)] {
		one[:cap(one)][i] = -7
	}
	if !slices.Equal(other, []int{0, 2}) {
		t.Errorf("two answers share memory: %v", other)
	}
	wantAll(t, "abab", "ab", 0, 2)
}

func TestWordsOfSomeTexts(t *testing.T) {
	for _, c := range []struct {
		text string
		want []string
	}{
		{"", nil},
		{" ", nil},
		{"     ", nil},
		{times(" ", 300), nil},
		{"a", []string{"a"}},
		{"abc", []string{"abc"}},
		{" abc", []string{"abc"}},
		{"abc ", []string{"abc"}},
		{"   abc   ", []string{"abc"}},
		{"a b", []string{"a", "b"}},
		{"ab    c  de f", []string{"ab", "c", "de", "f"}},
		{"  the same  the same ", []string{"the", "same", "the", "same"}},
		// No other letter is a blank.
		{"a\tb\nc\rd\ve\ff\u00a0g\u2003h\x00i_j", []string{"a\tb\nc\rd\ve\ff\u00a0g\u2003h\x00i_j"}},
		{"\n \t", []string{"\n", "\t"}},
		{"\xff\xfe \xc3 \xa9", []string{"\xff\xfe", "\xc3", "\xa9"}},
		{"\x85 \xa0", []string{"\x85", "\xa0"}},
	} {
		wantWords(t, c.text, c.want...)
	}
}

func TestWordsOfLongTexts(t *testing.T) {
	wantWords(t, times("a", 300), times("a", 300))
	wantWords(t, times("a ", 150), strings.Split(times("a,", 149)+"a", ",")...)
	for _, text := range []string{times("a", 301), times(" ", 301), times("a ", 150) + " ", times("ab ", 1_000_000)} {
		got, err := Words(text)
		wantErrno(t, err, api.ErrFull, "Words", text)
		if len(got) != 0 {
			t.Errorf("%d words with an error", len(got))
		}
	}
}

// plainWords goes letter by letter.
func plainWords(text string) []string {
	var l []string
	word := ""
	for i := range len(text) + 1 {
		if i < len(text) && text[i] != ' ' {
			word += text[i : i+1]
			continue
		}
		if word != "" {
			l = append(l, word)
		}
		word = ""
	}
	return l
}

func TestWordsOfAllShortTexts(t *testing.T) {
	for _, text := range shortTexts("a \t", 8) {
		wantWords(t, text, plainWords(text)...)
	}
}

func TestWordsAreTheCallers(t *testing.T) {
	one, _ := Words("ab cd")
	other, _ := Words("ab cd")
	for i := range one[:cap(one)] {
		one[:cap(one)][i] = "x"
	}
	if !slices.Equal(other, []string{"ab", "cd"}) {
		t.Errorf("two answers share memory: %v", other)
	}
}

func TestLinesOfSomeTexts(t *testing.T) {
	for _, c := range []struct {
		text  string
		width int
		want  []string
	}{
		{"", 1, nil},
		{"", 100, nil},
		{"    ", 3, nil},
		{"a", 1, []string{"a"}},
		{"a b", 1, []string{"a", "b"}},
		{"a b", 2, []string{"a", "b"}},
		{"a b", 3, []string{"a b"}},
		// Words that fill a line just, by one less, and by one more.
		{"abc def", 7, []string{"abc def"}},
		{"abc def", 8, []string{"abc def"}},
		{"abc def", 6, []string{"abc", "def"}},
		{"abc def gh", 7, []string{"abc def", "gh"}},
		{"abc def gh", 9, []string{"abc def", "gh"}},
		{"abc def gh", 10, []string{"abc def gh"}},
		{"a b c d e", 5, []string{"a b c", "d e"}},
		// Blanks at the ends, and several of them, are none of a line.
		{"  abc   def ", 7, []string{"abc def"}},
		{"  abc   def ", 3, []string{"abc", "def"}},
		// A word as long as the width, by one longer, and by more.
		{"abcde", 5, []string{"abcde"}},
		{"abcdef", 5, []string{"abcde", "f"}},
		{"abcdefghij", 5, []string{"abcde", "fghij"}},
		{"abcdefghijk", 5, []string{"abcde", "fghij", "k"}},
		{"abcdefghijklmno", 5, []string{"abcde", "fghij", "klmno"}},
		{"abc", 1, []string{"a", "b", "c"}},
		{"abc de", 1, []string{"a", "b", "c", "d", "e"}},
		// More words go behind what is left of one that was cut.
		{"abcdef gh", 4, []string{"abcd", "ef", "gh"}},
		{"abcdef gh", 5, []string{"abcde", "f gh"}},
		{"abcdefg h", 4, []string{"abcd", "efg", "h"}},
		{"abcdefg hi j", 5, []string{"abcde", "fg hi", "j"}},
		{"abcdefg h i j", 5, []string{"abcde", "fg h", "i j"}},
		{"abcdef g h i", 4, []string{"abcd", "ef g", "h i"}},
		// None goes where nothing is left.
		{"abcdefgh i", 4, []string{"abcd", "efgh", "i"}},
		// A long one behind a short one begins in a line of its own.
		{"a bcdefg", 4, []string{"a", "bcde", "fg"}},
		{"a bcdef", 4, []string{"a", "bcde", "f"}},
		{"a bcd", 4, []string{"a", "bcd"}},
		{"ab abcdefgh cd", 5, []string{"ab", "abcde", "fgh", "cd"}},
		{"ab abcdefg cd", 5, []string{"ab", "abcde", "fg cd"}},
		{"abcdefg abcdefg", 5, []string{"abcde", "fg", "abcde", "fg"}},
		// A word that is no longer than the width is never cut.
		{"abc defg hijk", 4, []string{"abc", "defg", "hijk"}},
		// Letters are bytes; no other one is a blank.
		{"\u00e9\u00e9", 3, []string{"\u00e9\xc3", "\xa9"}},
		{"a\tb\nc d", 5, []string{"a\tb\nc", "d"}},
		{"\xff \xfe", 3, []string{"\xff \xfe"}},
	} {
		wantLines(t, c.text, c.width, c.want...)
	}
}

func TestLinesAtTheBounds(t *testing.T) {
	wantLines(t, times("a", 300), 100, times("a", 100), times("a", 100), times("a", 100))
	wantLines(t, times("a", 300), 1, strings.Split(times("a", 300), "")...)
	wantLines(t, times("a", 99)+" b", 100, times("a", 99), "b")
	wantLines(t, times("a", 98)+" b", 100, times("a", 98)+" b")
	wantLines(t, times("a", 101)+" b", 100, times("a", 100), "a b")
	wantLines(t, times("a", 201)+" "+times("b", 98), 100, times("a", 100), times("a", 100), "a "+times("b", 98))
	wantLines(t, times(" ", 299)+"a", 100, "a")
	for _, width := range wrongWidths {
		wantNoLines(t, "", width, api.ErrRange)
		wantNoLines(t, "   ", width, api.ErrRange)
		wantNoLines(t, "ab c", width, api.ErrRange)
		wantNoLines(t, times("a", 300), width, api.ErrRange)
		// That it is too long is named ahead of that.
		wantNoLines(t, times("a", 301), width, api.ErrFull)
	}
	for _, width := range []int{1, 2, 99, 100} {
		wantNoLines(t, times("a", 301), width, api.ErrFull)
		wantNoLines(t, times(" ", 301), width, api.ErrFull)
		wantNoLines(t, times("ab ", 1_000_000), width, api.ErrFull)
	}
}

// wantRightLines holds lines to what the chapter says of them, one by one.
func wantRightLines(t *testing.T, text string, width int) {
	t.Helper()
	lines, err := Lines(text, width)
	if err != nil {
		t.Fatalf("Lines(%q, %d): %v", text, width, err)
	}
	i := 0
	next := func() string {
		if i++; i > len(lines) {
			return "(no line)"
		}
		return lines[i-1]
	}
	for words := plainWords(text); len(words) > 0; {
		line := words[0]
		words = words[1:]
		for ; len(line) > width; line = line[width:] {
			if got := next(); got != line[:width] {
				t.Fatalf("Lines(%q, %d): %q: a long word is not cut", text, width, lines)
			}
		}
		for len(words) > 0 && len(line+" "+words[0]) <= width {
			line, words = line+" "+words[0], words[1:]
		}
		if got := next(); got != line {
			t.Fatalf("Lines(%q, %d): %q: got %q, want %q", text, width, lines, got, line)
		}
	}
	if i != len(lines) {
		t.Errorf("Lines(%q, %d): %q are too many", text, width, lines)
	}
}

func TestLinesOfManyTexts(t *testing.T) {
	for _, text := range shortTexts("a ", 11) {
		for width := 1; width <= 6; width++ {
			wantRightLines(t, text, width)
		}
	}
	for seed := range 2000 {
		r := rand.New(rand.NewSource(int64(seed)))
		text := anyText(r, "abcdefgh"+times(" ", 1+r.Intn(4)), r.Intn(301))
		wantRightLines(t, text, 1+r.Intn(100))
		wantRightLines(t, text, 1+r.Intn(12))
	}
}

func TestLinesAreTheCallers(t *testing.T) {
	one, _ := Lines("ab cdefgh", 4)
	other, _ := Lines("ab cdefgh", 4)
	for i := range one[:cap(one)] {
		one[:cap(one)][i] = "x"
	}
	if !slices.Equal(other, []string{"ab", "cdef", "gh"}) {
		t.Errorf("two answers share memory: %v", other)
	}
}

// state is all that a Doc tells.
type state struct {
	book  []api.Leaf
	marks []api.Mark
	text  string
	known []int
	ops   []api.Op
}

func told(d *doc.Doc) state { return state{d.Book(), d.Marks(), d.Text(), d.Known(), d.Ops()} }

func sameOp(a, b api.Op) bool {
	seen := slices.Equal(a.Seen, b.Seen)
	a.Seen, b.Seen = nil, nil
	return seen && reflect.DeepEqual(a, b)
}

func sameOps(a, b []api.Op) bool { return slices.EqualFunc(a, b, sameOp) }

func wantState(t *testing.T, d *doc.Doc, want state, why ...any) {
	t.Helper()
	got := told(d)
	if !slices.Equal(got.book, want.book) || !slices.Equal(got.marks, want.marks) || got.text != want.text ||
		!slices.Equal(got.known, want.known) || !sameOps(got.ops, want.ops) {
		t.Errorf("%v: the Doc is %v, want %v", why, got, want)
	}
}

func wantReplace(t *testing.T, d *doc.Doc, who int, part, by string, want ...api.Op) {
	t.Helper()
	before := told(d)
	for range 2 {
		if got, err := Replace(d, who, part, by); err != nil || !sameOps(got, want) {
			t.Errorf("Replace(%d, %q, %q) in %q: got %v, %v, want %v", who, part, by, before.text, got, err, want)
		}
	}
	wantState(t, d, before, "behind Replace")
}

func wantNoReplace(t *testing.T, d *doc.Doc, who int, part, by string, want api.Errno) {
	t.Helper()
	before := told(d)
	got, err := Replace(d, who, part, by)
	wantErrno(t, err, want, "Replace", who, part, by, before.text)
	if len(got) != 0 {
		t.Errorf("Replace(%d, %q, %q) in %q: got %v with an error", who, part, by, before.text, got)
	}
	wantState(t, d, before, "behind a refused Replace")
}

// applied gives a Doc to which ops were applied that must all be new to it.
func applied(t *testing.T, ops ...api.Op) *doc.Doc {
	t.Helper()
	d := doc.New()
	for _, o := range ops {
		if is, err := d.Apply(o); !is || err != nil {
			t.Fatalf("Apply(%v): got %v, %v, want true and no error", o, is, err)
		}
	}
	return d
}

// replaced does what Replace tells, and holds what is seen then to what it must
// be; it tells the ops.
func replaced(t *testing.T, d *doc.Doc, who int, part, by string) []api.Op {
	t.Helper()
	ops, err := Replace(d, who, part, by)
	if err != nil {
		t.Fatalf("Replace(%d, %q, %q) in %q: %v", who, part, by, d.Text(), err)
	}
	want := strings.ReplaceAll(d.Text(), part, by)
	if err := edit.Do(d, ops); err != nil {
		t.Fatalf("Do(%v): %v", ops, err)
	}
	if got := d.Text(); got != want {
		t.Fatalf("behind Replace(%d, %q, %q) seen is %q, want %q", who, part, by, got, want)
	}
	return ops
}

// written gives Writes of a text's letters at so many places of author 1.
func written(text string, places ...string) []api.Op {
	var ops []api.Op
	for i, p := range places {
		ops = append(ops, write(1, 1+i, p, int(text[i])))
	}
	return ops
}

// numbered gives so many places of three letters that rise.
func numbered(n int) []string {
	var l []string
	for i := range n {
		l = append(l, string([]byte{byte('b' + i/25), byte('b' + i%25), 'b'}))
	}
	return l
}

// filled gives cuts and joins of authors 7 and 8, up to so many ops.
func filled(ops []api.Op, n int) []api.Op {
	for i := 1; len(ops) < n; i++ {
		ops = append(ops, cut(7, i, "hb"))
		if len(ops) < n {
			ops = append(ops, join(8, i, "hb", at(7, i)))
		}
	}
	return ops
}

func TestReplaceOfOne(t *testing.T) {
	d := applied(t, written("abc", "hb", "mb", "qb")...)
	wantReplace(t, d, 2, "b", "x", strike(2, 1, "mb"), write(2, 2, "ic", 'x'))
	wantReplace(t, d, 2, "b", "xyz", strike(2, 1, "mb"), write(2, 2, "ic", 'x'), write(2, 3, "jc", 'y'), write(2, 4, "kc", 'z'))
	wantReplace(t, d, 2, "b", "", strike(2, 1, "mb"))
	wantReplace(t, d, 2, "b", "b", strike(2, 1, "mb"), write(2, 2, "ic", 'b'))
	wantReplace(t, d, 2, "ab", "x", strike(2, 1, "hb"), strike(2, 2, "mb"), write(2, 3, "cc", 'x'))
	wantReplace(t, d, 2, "bc", "xyz", strike(2, 1, "mb"), strike(2, 2, "qb"), write(2, 3, "ic", 'x'), write(2, 4, "jc", 'y'), write(2, 5, "kc", 'z'))
	wantReplace(t, d, 2, "abc", "", strike(2, 1, "hb"), strike(2, 2, "mb"), strike(2, 3, "qb"))
	// The author's own next Dots.
	wantReplace(t, d, 1, "c", "x", strike(1, 4, "qb"), write(1, 5, "nb", 'x'))
	wantReplace(t, d, 8, "c", "x", strike(8, 1, "qb"), write(8, 2, "ni", 'x'))
}

func TestReplaceOfNone(t *testing.T) {
	d := applied(t, written("abc", "hb", "mb", "qb")...)
	for _, part := range []string{"x", "ac", "ba", "abcd", "B", " ", "\n", times("a", 200)} {
		// What may not be written is not written.
		for _, by := range []string{"", "x", part, "\n", "\x7f", "\u00e9", times("a", 201)} {
			wantReplace(t, d, 1, part, by)
			wantReplace(t, doc.New(), 8, part, by)
		}
	}
}

func TestReplaceOfSeveral(t *testing.T) {
	d := applied(t, written("abab", "hb", "mb", "qb", "tb")...)
	wantReplace(t, d, 2, "a", "x", strike(2, 1, "qb"), write(2, 2, "nc", 'x'), strike(2, 3, "hb"), write(2, 4, "cc", 'x'))
	wantReplace(t, d, 2, "b", "", strike(2, 1, "tb"), strike(2, 2, "mb"))
	// Of the one ahead what is written stands ahead of its own struck leafs.
	wantReplace(t, d, 2, "ab", "x",
		strike(2, 1, "qb"), strike(2, 2, "tb"), write(2, 3, "nc", 'x'),
		strike(2, 4, "hb"), strike(2, 5, "mb"), write(2, 6, "cc", 'x'))
	wantReplace(t, applied(t, written("aaa", "hb", "mb", "qb")...), 1, "aa", "y",
		strike(1, 4, "hb"), strike(1, 5, "mb"), write(1, 6, "cb", 'y'))
	wantReplace(t, applied(t, written("aaaa", "hb", "mb", "qb", "tb")...), 1, "aa", "y",
		strike(1, 5, "qb"), strike(1, 6, "tb"), write(1, 7, "nb", 'y'),
		strike(1, 8, "hb"), strike(1, 9, "mb"), write(1, 10, "cb", 'y'))
}

// What has the part in itself, or makes one with its neighbours, is not replaced
// again.
func TestReplaceIsDoneOnce(t *testing.T) {
	for _, c := range [][4]string{
		{"abab", "ab", "xabx", "xabxxabx"},
		{"aba", "a", "aa", "aabaa"},
		{"aaa", "a", "aaa", "aaaaaaaaa"},
		{"aabb", "ab", "", "ab"},
		{"aaabbb", "ab", "ab", "aaabbb"},
		{"xaxbxab", "x", "ab", "abaabbabab"},
		{"abcabc", "c", "", "abab"},
		{"abcabc", "bca", "b", "abbc"},
		{"aaaaa", "aa", "b", "bba"},
		{"aaaaa", "aa", "a", "aaa"},
	} {
		d := doc.New()
		ops, err := edit.Insert(d, 1, 0, c[0])
		if err != nil {
			t.Fatal(err)
		}
		if err := edit.Do(d, ops); err != nil {
			t.Fatal(err)
		}
		replaced(t, d, 2, c[1], c[2])
		if got := d.Text(); got != c[3] {
			t.Errorf("%v: seen is %q", c, got)
		}
	}
}

// Leafs that are not seen stand between the letters of a part, and are bounds of
// what is written.
func TestReplaceBetweenWhatIsNotSeen(t *testing.T) {
	d := applied(t,
		write(1, 1, "db", 'x'), write(1, 2, "hb", 'a'), write(1, 3, "kb", 'y'), write(1, 4, "mb", 'b'), write(1, 5, "qb", 'c'),
		strike(2, 1, "kb"), strike(2, 2, "gc"), strike(3, 1, "rd"), strike(3, 2, "fb"), write(3, 3, "fb", 'q'))
	if got := d.Text(); got != "xabc" {
		t.Fatalf("seen is %q", got)
	}
	wantReplace(t, d, 4, "ab", "Z", strike(4, 1, "hb"), strike(4, 2, "mb"), write(4, 3, "ee", 'Z'))
	wantReplace(t, d, 4, "b", "Z", strike(4, 1, "mb"), write(4, 2, "ie", 'Z'))
	wantReplace(t, d, 4, "y", "Z")
	wantReplace(t, d, 4, "q", "Z")
	// What others wrote between is part of what is seen.
	other := applied(t, append(d.Ops(), write(5, 1, "if", '-'))...)
	wantReplace(t, other, 4, "ab", "Z")
	wantReplace(t, other, 4, "a-b", "", strike(4, 1, "hb"), strike(4, 2, "if"), strike(4, 3, "mb"))
	// A letter that is there again at another place is one.
	again := applied(t, append(d.Ops(), strike(5, 1, "hb"), write(5, 2, "if", 'a'))...)
	wantReplace(t, again, 4, "ab", "", strike(4, 1, "if"), strike(4, 2, "mb"))
}

func TestReplaceLeavesMarks(t *testing.T) {
	d := applied(t, append(written("abab", "hb", "mb", "qb", "tb"),
		cut(2, 1, "mb"), cut(3, 1, "mb"), join(2, 2, "hb", at(4, 1)), cut(2, 3, "zb"), join(2, 4, "mb", at(2, 1)))...)
	marks := d.Marks()
	replaced(t, d, 4, "ba", "xyz")
	if got := d.Marks(); !slices.Equal(got, marks) || len(got) != 2 {
		t.Errorf("marks are %v, want %v", got, marks)
	}
}

func TestReplaceOfNoAuthor(t *testing.T) {
	d := applied(t, written("aba", "hb", "mb", "qb")...)
	full := applied(t, filled(written(times("a", 300), numbered(300)...), 400)...)
	for _, who := range wrongAuthors {
		for _, d := range []*doc.Doc{doc.New(), d, full} {
			for _, part := range []string{"a", "x", "", times("a", 200), times("a", 201)} {
				for _, by := range []string{"", "x", "\n", times("a", 201)} {
					wantNoReplace(t, d, who, part, by, api.ErrRange)
				}
			}
		}
	}
	for who := 1; who <= 8; who++ {
		next := d.Known()[who-1] + 1
		wantReplace(t, d, who, "b", "", strike(who, next, "mb"))
	}
}

func TestReplaceOfAPartThatMayNotBe(t *testing.T) {
	d := applied(t, written("aba", "hb", "mb", "qb")...)
	full := applied(t, filled(written(times("a", 300), numbered(300)...), 400)...)
	for _, d := range []*doc.Doc{doc.New(), d, full} {
		for _, by := range []string{"", "x", "\n", times("a", 201)} {
			wantNoReplace(t, d, 1, "", by, api.ErrShape)
			wantNoReplace(t, d, 1, times("a", 201), by, api.ErrFull)
			wantNoReplace(t, d, 1, times("a", 1_000_000), by, api.ErrFull)
		}
	}
}

// A part as long as it may be takes as many ops as may be known then.
func TestReplaceOfTheLongestPart(t *testing.T) {
	places := numbered(200)
	part := times("a", 100) + times("b", 100)
	d := applied(t, written(part, places...)...)
	var strikes []api.Op
	for i, p := range places {
		strikes = append(strikes, strike(2, 1+i, p))
	}
	wantReplace(t, d, 2, part, "", strikes...)
	wantNoReplace(t, d, 2, part, "x", api.ErrFull)
	wantNoReplace(t, d, 2, part+"b", "", api.ErrFull)
	wantReplace(t, d, 2, part[1:]+"b", "")
}

func TestReplaceByWhatMayNotBeWritten(t *testing.T) {
	d := applied(t, written("aba", "hb", "mb", "qb")...)
	for _, by := range []string{"\n", "\x1f", "\x7f", "\x00", "\xff", "\u00e9", "x\ty", "xy\x80", times("a", 199) + "\n"} {
		wantNoReplace(t, d, 2, "a", by, api.ErrRange)
		wantNoReplace(t, d, 2, "b", by, api.ErrRange)
		wantReplace(t, d, 2, "c", by)
	}
	for _, by := range []string{times("a", 201), times("\n", 201), times("a", 1_000_000)} {
		wantNoReplace(t, d, 2, "a", by, api.ErrFull)
		wantReplace(t, d, 2, "c", by)
	}
	wantReplace(t, d, 2, "b", " ~", strike(2, 1, "mb"), write(2, 2, "ic", 32), write(2, 3, "jc", 126))
	// As long as it may be, but there is no room between for so many.
	wantNoReplace(t, d, 2, "b", times("x", 200), api.ErrDeep)
}

func TestReplaceWhereThereIsNoRoom(t *testing.T) {
	between := applied(t, written("abc", low, nextToLow, "hb")...)
	wantNoReplace(t, between, 2, "b", "x", api.ErrDeep)
	wantReplace(t, between, 2, "b", "", strike(2, 1, nextToLow))
	wantReplace(t, between, 2, "c", "x", strike(2, 1, "hb"), write(2, 2, "dc", 'x'))
	// Of two the room is that ahead of the first one.
	wantReplace(t, between, 2, "ab", "x", strike(2, 1, low), strike(2, 2, nextToLow), write(2, 3, "ahc", 'x'))
	wantNoReplace(t, between, 2, "bc", "x", api.ErrDeep)
	// A leaf that is not seen leaves none either.
	struck := applied(t, write(1, 1, low, 'a'), strike(1, 2, nextToLow), write(1, 3, "hb", 'c'))
	wantNoReplace(t, struck, 2, "c", "x", api.ErrDeep)

	first := applied(t, written("ab", lowest, "hb")...)
	wantNoReplace(t, first, 2, "a", "x", api.ErrDeep)
	wantReplace(t, first, 2, "a", "", strike(2, 1, lowest))
	wantReplace(t, first, 2, "b", "x", strike(2, 1, "hb"), write(2, 2, "cc", 'x'))
	// The last room ahead of all, of twelve letters: one letter goes in.
	narrow := applied(t, write(1, 1, times("a", 10)+"cb", 'a'))
	wantReplace(t, narrow, 1, "a", "x", strike(1, 2, times("a", 10)+"cb"), write(1, 3, lowest, 'x'))
	wantNoReplace(t, narrow, 1, "a", "xy", api.ErrDeep)

	last := applied(t, written("ab", "hb", deepest)...)
	wantReplace(t, last, 2, "b", "x", strike(2, 1, deepest), write(2, 2, "mc", 'x'))
	wantNoReplace(t, applied(t, written("ab", times("z", 10)+"yb", deepest)...), 2, "b", "x", api.ErrDeep)
}

// One of several that has no room is told, be it the first or the last.
func TestReplaceWhereOneOfSeveralHasNoRoom(t *testing.T) {
	first := applied(t, written("xaya", low, nextToLow, "hb", "mb")...)
	wantNoReplace(t, first, 2, "a", "z", api.ErrDeep)
	wantReplace(t, first, 2, "ya", "z", strike(2, 1, "hb"), strike(2, 2, "mb"), write(2, 3, "dc", 'z'))
	last := applied(t, written("axa", "abb", low, nextToLow)...)
	wantNoReplace(t, last, 2, "a", "z", api.ErrDeep)
	wantReplace(t, last, 2, "a", "", strike(2, 1, nextToLow), strike(2, 2, "abb"))
}

// lettered gives a text of so many letters `a`, but for others at some offsets.
func lettered(long int, letter byte, offsets ...int) string {
	text := []byte(times("a", long))
	for _, offset := range offsets {
		text[offset] = letter
	}
	return string(text)
}

func TestReplaceThatMakesABookTooLong(t *testing.T) {
	places := numbered(300)
	nearly := applied(t, written(lettered(299, 'b', 5), places[:299]...)...)
	wantReplace(t, nearly, 2, "b", "x", strike(2, 1, "bgb"), write(2, 2, "bfhc", 'x'))
	wantNoReplace(t, nearly, 2, "b", "xy", api.ErrFull)
	two := applied(t, written(lettered(299, 'b', 5, 9), places[:299]...)...)
	wantNoReplace(t, two, 2, "b", "x", api.ErrFull)
	wantReplace(t, two, 2, "b", "", strike(2, 1, places[9]), strike(2, 2, places[5]))
	room := applied(t, written(lettered(298, 'b', 5, 9), places[:298]...)...)
	wantReplace(t, room, 2, "b", "x", strike(2, 1, "bkb"), write(2, 2, "bjhc", 'x'), strike(2, 3, "bgb"), write(2, 4, "bfhc", 'x'))

	full := applied(t, written(lettered(300, 'b', 5), places...)...)
	wantNoReplace(t, full, 2, "b", "x", api.ErrFull)
	wantReplace(t, full, 2, "b", "", strike(2, 1, "bgb"))
	wantReplace(t, full, 2, "c", "x")
	// What is struck counts as well: the text is short, the book is not.
	short := full.Ops()
	for i, p := range places[6:100] {
		short = append(short, strike(3, 1+i, p))
	}
	wantNoReplace(t, applied(t, short...), 2, "b", "x", api.ErrFull)
}

func TestReplaceThatMakesTooManyOps(t *testing.T) {
	base := written("abba", "hb", "mb", "qb", "tb")
	last := applied(t, filled(base, 398)...)
	wantReplace(t, last, 2, "ab", "", strike(2, 1, "hb"), strike(2, 2, "mb"))
	wantNoReplace(t, last, 2, "ab", "x", api.ErrFull)
	wantReplace(t, last, 2, "a", "", strike(2, 1, "tb"), strike(2, 2, "hb"))
	wantNoReplace(t, last, 2, "a", "x", api.ErrFull)
	wantReplace(t, applied(t, filled(base, 396)...), 2, "a", "x",
		strike(2, 1, "tb"), write(2, 2, "rc", 'x'), strike(2, 3, "hb"), write(2, 4, "cc", 'x'))
	for _, n := range []int{397, 398, 399, 400} {
		wantNoReplace(t, applied(t, filled(base, n)...), 2, "a", "x", api.ErrFull)
	}
	full := applied(t, filled(base, 400)...)
	wantNoReplace(t, full, 2, "bb", "", api.ErrFull)
	wantNoReplace(t, full, 2, "b", "b", api.ErrFull)
	wantReplace(t, full, 2, "c", "x")
	wantReplace(t, full, 1, "aa", "")
}

// Of each what is struck is done ahead of what is asked of the text in its
// place, and what has no room is told ahead of what is too much.
func TestReplaceTellsTheErrorThatComesFirst(t *testing.T) {
	base := written("abba", "hb", "mb", "qb", "tb")
	full, nearly := applied(t, filled(base, 400)...), applied(t, filled(base, 399)...)
	wantNoReplace(t, full, 2, "a", "\n", api.ErrFull)
	wantNoReplace(t, nearly, 2, "a", "\n", api.ErrRange)
	wantNoReplace(t, nearly, 2, "a", "", api.ErrFull)
	wantNoReplace(t, nearly, 2, "bb", "\n", api.ErrFull)
	wantNoReplace(t, full, 2, "", "\n", api.ErrShape)
	wantNoReplace(t, full, 0, "", "\n", api.ErrRange)

	deep := written("abca", low, nextToLow, "hb", "mb")
	wantNoReplace(t, applied(t, filled(deep, 399)...), 2, "b", "x", api.ErrDeep)
	wantNoReplace(t, applied(t, filled(deep, 399)...), 2, "b", "\n", api.ErrRange)
	wantNoReplace(t, applied(t, filled(deep, 400)...), 2, "b", "x", api.ErrFull)

	places := append([]string{"abb", low, nextToLow}, numbered(298)[1:]...)
	with := func(offsets ...int) *doc.Doc {
		return applied(t, written(lettered(300, 'b', offsets...), places...)...)
	}
	wantNoReplace(t, with(2), 2, "b", "x", api.ErrDeep)
	wantNoReplace(t, with(2), 2, "b", "\n", api.ErrRange)
	wantNoReplace(t, with(7), 2, "b", "\n", api.ErrRange)
	wantNoReplace(t, with(7), 2, "b", times("x", 201), api.ErrFull)
	// The last one is done first.
	wantNoReplace(t, with(2, 7), 2, "b", "x", api.ErrFull)
	wantNoReplace(t, with(0, 2), 2, "b", "x", api.ErrDeep)
	wantReplace(t, with(2, 7), 2, "b", "", strike(2, 1, places[7]), strike(2, 2, nextToLow))
}

func TestReplaceIsTheCallers(t *testing.T) {
	d := applied(t, written("aba", "hb", "mb", "qb")...)
	before := told(d)
	want := list(strike(2, 1, "qb"), write(2, 2, "nc", 'x'), strike(2, 3, "hb"), write(2, 4, "cc", 'x'))
	got, _ := Replace(d, 2, "a", "x")
	for i := range got[:cap(got)] {
		got[:cap(got)][i] = api.Op{Dot: at(8, 8), Place: "zz"}
	}
	wantReplace(t, d, 2, "a", "x", want...)
	wantState(t, d, before)
	// What is done to the Doc later does not change what was told.
	earlier, _ := Replace(d, 2, "a", "x")
	if err := edit.Do(d, list(strike(3, 1, "hb"), write(3, 2, "zd", 'a'))); err != nil {
		t.Fatal(err)
	}
	if !sameOps(earlier, want) {
		t.Errorf("got %v later, want %v", earlier, want)
	}
}

// table is a book as leafs by their places.
type table map[string]api.Leaf

// seen gives the places of what is seen, and its letters.
func (l table) seen() (places []string, text string) {
	for p, leaf := range l {
		if leaf.Letter != 0 && !leaf.Struck {
			places = append(places, p)
		}
	}
	sort.Strings(places)
	for _, p := range places {
		text += string(rune(l[p].Letter))
	}
	return places, text
}

// behind gives the place of the leaf next to a place, or the empty one.
func (l table) behind(p string) string {
	next := ""
	for q := range l {
		if q > p && (next == "" || q < next) {
			next = q
		}
	}
	return next
}

// do an op as a Doc would that knows so many.
func (l table) do(o api.Op, known int) api.Errno {
	leaf, is := l[o.Place]
	if o.What == api.Write || o.What == api.Strike {
		if known >= 400 || !is && len(l) >= 300 {
			return api.ErrFull
		}
		leaf.Letter, leaf.Struck = max(leaf.Letter, o.Letter), leaf.Struck || o.What == api.Strike
		l[o.Place] = leaf
	}
	return api.OK
}

// inserted gives the Writes that chapter 8 tells of a text, without Dots.
func (l table) inserted(who, from int, text string) ([]api.Op, api.Errno) {
	if len(text) > 200 {
		return nil, api.ErrFull
	}
	for i := range len(text) {
		if text[i] < 32 || text[i] > 126 {
			return nil, api.ErrRange
		}
	}
	ahead := ""
	if places, _ := l.seen(); from > 0 {
		ahead = places[from-1]
	}
	var ops []api.Op
	behind := l.behind(ahead)
	for i := range len(text) {
		p, err := place.Between(ahead, behind, who)
		if err != nil {
			return nil, api.ErrDeep
		}
		ops = append(ops, api.Op{What: api.Write, Place: p, Letter: int(text[i])})
		ahead = p
	}
	return ops, api.OK
}

// plainReplace goes by the chapter's words over a table of leafs.
func plainReplace(known []api.Op, who int, part, by string) ([]api.Op, api.Errno) {
	switch {
	case who < 1 || who > 8:
		return nil, api.ErrRange
	case len(part) > 200:
		return nil, api.ErrFull
	case part == "":
		return nil, api.ErrShape
	}
	l, own := table{}, 0
	for _, o := range known {
		l.do(o, 0)
		if o.Dot.Who == who {
			own++
		}
	}
	var ops []api.Op
	do := func(next []api.Op) api.Errno {
		for _, o := range next {
			o.Dot = at(who, own+len(ops)+1)
			if errno := l.do(o, len(known)+len(ops)); errno != api.OK {
				return errno
			}
			ops = append(ops, o)
		}
		return api.OK
	}
	_, text := l.seen()
	offsets := plainAll(text, part)
	for i := range offsets {
		from := offsets[len(offsets)-1-i]
		places, _ := l.seen()
		var strikes []api.Op
		for _, p := range places[from : from+len(part)] {
			strikes = append(strikes, api.Op{What: api.Strike, Place: p})
		}
		if errno := do(strikes); errno != api.OK {
			return nil, errno
		}
		writes, errno := l.inserted(who, from, by)
		if errno == api.OK {
			errno = do(writes)
		}
		if errno != api.OK {
			return nil, errno
		}
	}
	return ops, api.OK
}

// wantAsPlain holds Replace to what is told of a Doc by plain means; it tells
// the ops.
func wantAsPlain(t *testing.T, d *doc.Doc, who int, part, by string) []api.Op {
	t.Helper()
	ops, errno := plainReplace(d.Ops(), who, part, by)
	if errno != api.OK {
		wantNoReplace(t, d, who, part, by, errno)
	} else {
		wantReplace(t, d, who, part, by, ops...)
	}
	if t.Failed() {
		t.Fatalf("of a Doc of the ops %v", d.Ops())
	}
	return ops
}

// TestAllShortPlays: each list of up to five letters of two kinds at places of
// two authors, some of them struck.
func TestAllShortPlays(t *testing.T) {
	places := []string{"bb", "hb", "hbb", "hc", "hnb"}
	for _, text := range shortTexts("abAB", len(places)) {
		var ops []api.Op
		for i := range len(text) {
			ops = append(ops, write(1, i+1, places[i], int(text[i]|0x20)))
		}
		for i := range len(text) {
			if text[i] < 'a' {
				ops = append(ops, strike(2, 1+len(ops)-len(text), places[i]))
			}
		}
		d := applied(t, ops...)
		for _, part := range []string{"a", "b", "ab", "aa"} {
			for _, by := range []string{"", "ab"} {
				wantAsPlain(t, d, 1, part, by)
			}
		}
	}
}

var pool = []string{
	"bb", "hb", "hc", "hbb", "hnb", "mb", "nzzi", "zb", "zzb", "abb", "yzb", lowest, deepest, "zzzzzzzzzzyb",
	low, nextToLow, "hbab", "hbac", "cb", "db", "kb", "pb", "tb", "wb",
}

// TestPlays: ops of three authors, among them what is replaced, at places that
// meet often.
func TestPlays(t *testing.T) {
	texts := append(shortTexts("ab", 3), "x", "aabb", "ab ab", "a\n", "\x7f", "hello", times("a", 60), times("ab", 101))
	for seed := range 300 {
		r := rand.New(rand.NewSource(int64(seed)))
		d := doc.New()
		for range 5 + r.Intn(60) {
			who := 1 + r.Intn(3)
			n, p := d.Known()[who-1]+1, pool[r.Intn(len(pool))]
			switch r.Intn(10) {
			case 0:
				d.Apply(cut(who, n, p))
			case 1:
				d.Apply(join(who, n, p, at(1+r.Intn(8), 1+r.Intn(9))))
			case 2, 3:
				d.Apply(strike(who, n, p))
			case 4:
				edit.Do(d, wantAsPlain(t, d, who, texts[r.Intn(9)], texts[r.Intn(9)]))
			default:
				d.Apply(write(who, n, p, 'a'+r.Intn(2)))
			}
		}
		for range 12 {
			wantAsPlain(t, d, r.Intn(10), texts[r.Intn(len(texts))], texts[r.Intn(len(texts))])
		}
	}
}

// TestLongPlays: books that become too long, and ops that become too many.
func TestLongPlays(t *testing.T) {
	got := map[api.Errno]int{}
	for seed := range 15 {
		r := rand.New(rand.NewSource(int64(seed)))
		long := 100 + r.Intn(201)
		d := applied(t, written(anyText(r, "aaabc", long), numbered(long)...)...)
		for range 8 {
			who, part, by := 1+r.Intn(8), anyText(r, "abc", 1+r.Intn(4)), anyText(r, "abcd", r.Intn(4))
			_, errno := plainReplace(d.Ops(), who, part, by)
			got[errno]++
			before := d.Text()
			if ops := wantAsPlain(t, d, who, part, by); errno == api.OK {
				if err := edit.Do(d, ops); err != nil {
					t.Fatal(err)
				}
				if want := strings.ReplaceAll(before, part, by); d.Text() != want {
					t.Fatalf("seed %d: seen is %q, want %q", seed, d.Text(), want)
				}
			}
		}
	}
	if got[api.OK] == 0 || got[api.ErrFull] == 0 {
		t.Errorf("the plays come to %v alone", got)
	}
}

// Two authors replace at once, each in a copy of its own: both come to the same.
func TestReplaceAtOnce(t *testing.T) {
	for seed := range 100 {
		r := rand.New(rand.NewSource(int64(seed)))
		text := anyText(r, "ab", 1+r.Intn(12))
		base := written(text, numbered(len(text))...)
		one, other := applied(t, base...), applied(t, base...)
		ones := replaced(t, one, 2, anyText(r, "ab", 1+r.Intn(2)), "xy")
		others := replaced(t, other, 3, anyText(r, "ab", 1+r.Intn(2)), "z")
		if err := errors.Join(edit.Do(one, others), edit.Do(other, ones)); err != nil {
			t.Fatal(err)
		}
		if !slices.Equal(one.Book(), other.Book()) {
			t.Errorf("seed %d: %q and %q", seed, one.Text(), other.Text())
		}
	}
}
