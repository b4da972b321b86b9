package edit

import (
	"errors"
	"fmt"
	"math"
	"math/rand"
	"reflect"
	"slices"
	"strings"
	"testing"

	"leafbinder/api"
	"leafbinder/book"
	"leafbinder/doc"
	"leafbinder/marks"
	"leafbinder/op"
	"leafbinder/place"
)

var wrongAuthors = []int{0, -1, -8, 9, 10, math.MinInt, math.MaxInt, 1<<32 + 1}

// farOffsets are none of any book.
var farOffsets = []int{-1, -2, -300, math.MinInt, math.MinInt + 1, api.MaxLeafs + 1, 1 << 32, 1<<32 + 1, math.MaxInt, math.MaxInt - 1}

func at(who, n int) api.Dot { return api.Dot{Who: who, N: n} }

func write(d api.Dot, p string, letter int) api.Op {
	return api.Op{Dot: d, What: api.Write, Place: p, Letter: letter}
}

func strike(d api.Dot, p string) api.Op { return api.Op{Dot: d, What: api.Strike, Place: p} }

func cut(d api.Dot, p string) api.Op { return api.Op{Dot: d, What: api.Cut, Place: p} }

func join(d api.Dot, p string, seen ...api.Dot) api.Op {
	return api.Op{Dot: d, What: api.Join, Place: p, Seen: seen}
}

// state is all that a Doc tells.
type state struct {
	book  []api.Leaf
	marks []api.Mark
	text  string
	known []int
	ops   []api.Op
}

func told(d *doc.Doc) state { return state{d.Book(), d.Marks(), d.Text(), d.Known(), d.Ops()} }

func sameOp(a, b api.Op) bool {
	seen := slices.Equal(a.Seen, b.Seen)
	a.Seen, b.Seen = nil, nil
	return seen && reflect.DeepEqual(a, b)
}

func sameOps(a, b []api.Op) bool { return slices.EqualFunc(a, b, sameOp) }

func same(a, b state) bool {
	return slices.Equal(a.book, b.book) && slices.Equal(a.marks, b.marks) && a.text == b.text &&
		slices.Equal(a.known, b.known) && sameOps(a.ops, b.ops)
}

func wantState(t *testing.T, d *doc.Doc, want state, why string) {
	t.Helper()
	if got := told(d); !same(got, want) {
		t.Errorf("%s: got %v, want %v", why, got, want)
	}
}

func copyOps(l []api.Op) []api.Op {
	l = slices.Clone(l)
	for i := range l {
		l[i].Seen = slices.Clone(l[i].Seen)
	}
	return l
}

// applied gives a Doc to which ops were applied that must all be new to it.
func applied(t *testing.T, ops ...api.Op) *doc.Doc {
	t.Helper()
	d := doc.New()
	for _, o := range ops {
		if is, err := d.Apply(o); !is || err != nil {
			t.Fatalf("Apply(%v): got %v, %v, want true and no error", o, is, err)
		}
	}
	return d
}

// some is a Doc of which `abcde` is seen; it has a struck leaf at either end,
// one between, and one that is not written yet. Author 1 has done twelve ops.
func some(t *testing.T) *doc.Doc {
	t.Helper()
	return applied(t,
		write(at(1, 1), "bb", 'x'), write(at(1, 2), "db", 'a'), write(at(1, 3), "hb", 'b'), write(at(1, 4), "hc", 'c'),
		write(at(1, 5), "mb", 'y'), write(at(1, 6), "qb", 'd'), write(at(1, 7), "qi", 'e'), write(at(1, 8), "tb", 'z'),
		strike(at(1, 9), "bb"), strike(at(1, 10), "hbb"), strike(at(1, 11), "mb"), strike(at(1, 12), "tb"))
}

// struck is a Doc of which nothing is seen.
func struck(t *testing.T) *doc.Doc {
	t.Helper()
	return applied(t, write(at(1, 1), "db", 'a'), strike(at(1, 2), "db"), strike(at(1, 3), "hb"))
}

// written gives a Doc with an `a` at each of some places, by author 1.
func written(t *testing.T, places ...string) *doc.Doc {
	t.Helper()
	var ops []api.Op
	for i, p := range places {
		ops = append(ops, write(at(1, 1+i), p, 'a'))
	}
	return applied(t, ops...)
}

// numbered gives so many places that rise.
func numbered(n int) []string {
	var l []string
	for i := range n {
		l = append(l, string([]byte{byte('b' + i/24), byte('b' + i%24), 'b'}))
	}
	return l
}

// call is one of the four that tell ops, of all but the Doc.
type call struct {
	name string
	of   func(d *doc.Doc) ([]api.Op, error)
}

func inserts(who, offset int, text string) call {
	return call{fmt.Sprintf("Insert of %d, %d, %q", who, offset, text), func(d *doc.Doc) ([]api.Op, error) { return Insert(d, who, offset, text) }}
}

func deletes(who, from, to int) call {
	return call{fmt.Sprintf("Delete of %d, %d, %d", who, from, to), func(d *doc.Doc) ([]api.Op, error) { return Delete(d, who, from, to) }}
}

func splits(who, offset int) call {
	return call{fmt.Sprintf("Split of %d, %d", who, offset), func(d *doc.Doc) ([]api.Op, error) { return Split(d, who, offset) }}
}

func fuses(who, offset int) call {
	return call{fmt.Sprintf("Fuse of %d, %d", who, offset), func(d *doc.Doc) ([]api.Op, error) { return Fuse(d, who, offset) }}
}

// wantOps: they are told, and the Doc is as it was; asked once more, too.
func wantOps(t *testing.T, d *doc.Doc, c call, want ...api.Op) {
	t.Helper()
	ahead := told(d)
	for range 2 {
		if got, err := c.of(d); !sameOps(got, want) || err != nil {
			t.Errorf("%s in %q: got %v, %v, want %v", c.name, ahead.text, got, err, want)
		}
	}
	wantState(t, d, ahead, "behind "+c.name)
}

// wantRefused: the error, no ops, and the Doc is as it was.
func wantRefused(t *testing.T, d *doc.Doc, c call, want api.Errno) {
	t.Helper()
	ahead := told(d)
	got, err := c.of(d)
	wantError(t, err, want, c.name)
	if len(got) != 0 {
		t.Errorf("%s in %q: %v with an error", c.name, ahead.text, got)
	}
	wantState(t, d, ahead, "behind the refused "+c.name)
}

func wantError(t *testing.T, err error, want api.Errno, name string) {
	t.Helper()
	var e api.Errno
	if !errors.As(err, &e) || e != want {
		t.Errorf("%s: error %v, want %v", name, err, want)
	}
}

// done gives the ops that a call tells, and does them.
func done(t *testing.T, d *doc.Doc, c call) []api.Op {
	t.Helper()
	ops, err := c.of(d)
	if err != nil {
		t.Fatalf("%s in %q: %v", c.name, d.Text(), err)
	}
	if err := Do(d, ops); err != nil {
		t.Fatalf("Do of what %s told, %v: %v", c.name, ops, err)
	}
	return ops
}

func wantText(t *testing.T, d *doc.Doc, want string) {
	t.Helper()
	if got := d.Text(); got != want {
		t.Errorf("Text: got %q, want %q", got, want)
	}
}

func TestInsertIntoAnEmptyBook(t *testing.T) {
	d := doc.New()
	wantOps(t, d, inserts(1, 0, "a"), write(at(1, 1), "hb", 'a'))
	wantOps(t, d, inserts(2, 0, "abc"), write(at(2, 1), "hc", 'a'), write(at(2, 2), "mc", 'b'), write(at(2, 3), "qc", 'c'))
	wantOps(t, d, inserts(3, 0, ""))
	for _, text := range []string{"", "a"} {
		for _, offset := range append([]int{1}, farOffsets...) {
			wantRefused(t, d, inserts(1, offset, text), api.ErrRange)
		}
	}
}

// TestInsertWhereNothingIsSeen: struck leafs stand in the book still.
func TestInsertWhereNothingIsSeen(t *testing.T) {
	d := struck(t)
	// Between the beginning and db: b and c are the shortest.
	wantOps(t, d, inserts(2, 0, "xy"), write(at(2, 1), "bc", 'x'), write(at(2, 2), "cc", 'y'))
	wantRefused(t, d, inserts(2, 1, "xy"), api.ErrRange)
}

// TestInsertAtEachOffset: the leaf next to the letter ahead is the bound, also
// where it is struck (bb, mb, tb), or not written yet (hbb).
func TestInsertAtEachOffset(t *testing.T) {
	d := some(t)
	for offset, p := range []string{"ahd", "ed", "hbahd", "id", "qdd", "rd"} {
		wantOps(t, d, inserts(3, offset, "!"), write(at(3, 1), p, '!'))
		wantOps(t, d, inserts(3, offset, ""))
	}
	for _, offset := range append([]int{6, 7, 9}, farOffsets...) {
		wantRefused(t, d, inserts(3, offset, "!"), api.ErrRange)
		wantRefused(t, d, inserts(3, offset, ""), api.ErrRange)
	}
}

// TestInsertNextToWhatIsNotSeen: the same text, as a plain book and with leafs
// between that are not seen, is written at other places.
func TestInsertNextToWhatIsNotSeen(t *testing.T) {
	plain := applied(t, write(at(1, 1), "hb", 'a'), write(at(1, 2), "qb", 'b'))
	wantOps(t, plain, inserts(2, 1, "x"), write(at(2, 1), "jc", 'x'))
	for _, between := range [][]api.Op{
		{write(at(3, 1), "kd", 'y'), strike(at(3, 2), "kd")}, // struck
		{strike(at(3, 1), "kd")},                             // not written yet
		{strike(at(3, 1), "kd"), strike(at(3, 2), "md")},     // two of them
		{strike(at(3, 1), "kd"), write(at(3, 2), "kd", 'y')}, // written at last, and struck still
	} {
		d := applied(t, write(at(1, 1), "hb", 'a'), write(at(1, 2), "qb", 'b'))
		if err := Do(d, between); err != nil {
			t.Fatal(err)
		}
		wantText(t, d, "ab")
		wantOps(t, d, inserts(2, 1, "x"), write(at(2, 1), "ic", 'x'))
		done(t, d, inserts(2, 1, "x"))
		wantText(t, d, "axb")
	}
}

// TestEachNextLetter is written behind the one ahead, up to the same bound.
func TestEachNextLetter(t *testing.T) {
	d := some(t)
	wantOps(t, d, inserts(3, 1, "wxyz"),
		write(at(3, 1), "ed", 'w'), write(at(3, 2), "fd", 'x'), write(at(3, 3), "gd", 'y'), write(at(3, 4), "gjd", 'z'))
	wantOps(t, d, inserts(3, 5, "wxyz"),
		write(at(3, 1), "rd", 'w'), write(at(3, 2), "sd", 'x'), write(at(3, 3), "sjd", 'y'), write(at(3, 4), "snd", 'z'))
	done(t, d, inserts(3, 1, "wxyz"))
	wantText(t, d, "awxyzbcde")
	done(t, d, inserts(3, 9, "again"))
	wantText(t, d, "awxyzbcdeagain")
}

func TestAuthors(t *testing.T) {
	d := some(t)
	done(t, d, splits(1, 1))
	for who := 1; who <= api.MaxWho; who++ {
		n := 1 + d.Known()[who-1]
		p := "r" + string(rune('a'+who))
		wantOps(t, d, inserts(who, 5, "!"), write(at(who, n), p, '!'))
		wantOps(t, d, deletes(who, 0, 1), strike(at(who, n), "db"))
		wantOps(t, d, splits(who, 0), cut(at(who, n), "db"))
		wantOps(t, d, fuses(who, 1), join(at(who, n), "hb", at(1, 13)))
	}
	for _, who := range wrongAuthors {
		for _, c := range []call{inserts(who, 5, "!"), inserts(who, 0, ""), deletes(who, 0, 1), deletes(who, 0, 0), splits(who, 0), fuses(who, 1)} {
			wantRefused(t, d, c, api.ErrRange)
		}
	}
}

// TestTheAuthorIsToldFirst: ErrRange, where ErrFull, ErrDeep or ErrNone apply too.
func TestTheAuthorIsToldFirst(t *testing.T) {
	deep := written(t, "aaaaaaaaaabb")
	for _, who := range wrongAuthors {
		wantRefused(t, deep, inserts(who, 0, strings.Repeat("a", 201)), api.ErrRange)
		wantRefused(t, deep, inserts(who, 0, "a"), api.ErrRange)
		wantRefused(t, deep, fuses(who, 0), api.ErrRange)
	}
}

func TestHowLongATextMayBe(t *testing.T) {
	d := doc.New()
	// Each letter takes the place a quarter of the way into what is left, so that
	// the places end ahead of 200 letters: it is not how long the text is.
	wantRefused(t, d, inserts(1, 0, strings.Repeat("a", 100)), api.ErrDeep)
	wantRefused(t, d, inserts(1, 0, strings.Repeat("a", 199)), api.ErrDeep)
	wantRefused(t, d, inserts(1, 0, strings.Repeat("a", 200)), api.ErrDeep)
	wantRefused(t, d, inserts(1, 0, strings.Repeat("a", 201)), api.ErrFull)
	wantRefused(t, d, inserts(1, 0, strings.Repeat("a", 100_000)), api.ErrFull)
	done(t, d, inserts(1, 0, strings.Repeat("a", 99)))
	wantText(t, d, strings.Repeat("a", 99))

	d = written(t, "zzzzzzzzzzzi")
	wantRefused(t, d, inserts(1, 0, strings.Repeat("b", 130)), api.ErrDeep)
	wantRefused(t, d, inserts(1, 0, strings.Repeat("b", 200)), api.ErrDeep)
	wantRefused(t, d, inserts(1, 0, strings.Repeat("b", 201)), api.ErrFull)
	done(t, d, inserts(1, 0, strings.Repeat("b", 129)))
	wantText(t, d, strings.Repeat("b", 129)+"a")
}

// TestTextsAreBytes: how long one is, is how many bytes it has.
func TestTextsAreBytes(t *testing.T) {
	d := some(t)
	wantRefused(t, d, inserts(1, 0, strings.Repeat("é", 100)), api.ErrRange)
	wantRefused(t, d, inserts(1, 0, strings.Repeat("é", 101)), api.ErrFull)
	wantRefused(t, d, inserts(1, 0, strings.Repeat("\xff", 201)), api.ErrFull)
}

func TestWhichLettersMayBe(t *testing.T) {
	d := some(t)
	for letter := range 256 {
		one := string([]byte{byte(letter)})
		for _, text := range []string{one, "ab" + one, one + "ab", "a" + one + "b"} {
			if letter < 32 || letter > 126 {
				wantRefused(t, d, inserts(1, 3, text), api.ErrRange)
				continue
			}
			ops, err := Insert(d, 1, 3, text)
			if err != nil || len(ops) != len(text) {
				t.Errorf("Insert of %q: %v, %v", text, ops, err)
			}
		}
	}
	for _, text := range []string{"é", "a\u2028b", "\U0001F600", "\xe4\xb8", "\ufffd", "a\x00"} {
		wantRefused(t, d, inserts(1, 3, text), api.ErrRange)
	}
	var all []byte
	for letter := 32; letter <= 126; letter++ {
		all = append(all, byte(letter))
	}
	empty := doc.New()
	done(t, empty, inserts(1, 0, string(all)))
	wantText(t, empty, string(all))
}

// TestNoRoom: ErrDeep, but not of a text without letters.
func TestNoRoom(t *testing.T) {
	for _, c := range []struct {
		places []string
		offset int
	}{
		{[]string{"aaaaaaaaaabb"}, 0},
		{[]string{"zzzzzzzzzzzi"}, 1},
		{[]string{"hb", "hbaaaaaaaabb"}, 1},
		{[]string{"bb", "hb", "hbaaaaaaaabb", "mb"}, 2},
		{[]string{"hnnnnnnnnnnb", "hnnnnnnnnnnc"}, 1},
	} {
		d := written(t, c.places...)
		wantRefused(t, d, inserts(2, c.offset, "x"), api.ErrDeep)
		wantRefused(t, d, inserts(2, c.offset, "xyz"), api.ErrDeep)
		wantOps(t, d, inserts(2, c.offset, ""))
	}
	// There is room for one letter, but not for another one behind it.
	d := written(t, "zzzzzzzzzzyb")
	wantOps(t, d, inserts(2, 1, "x"), write(at(2, 1), "zzzzzzzzzzzc", 'x'))
	wantRefused(t, d, inserts(2, 1, "xy"), api.ErrDeep)
	// What takes the room need not be seen.
	d = applied(t, write(at(1, 1), "hb", 'a'), strike(at(1, 2), "hbaaaaaaaabb"))
	wantRefused(t, d, inserts(2, 1, "x"), api.ErrDeep)
}

// TestWhichErrorOfInsertIsFirst where several apply.
func TestWhichErrorOfInsertIsFirst(t *testing.T) {
	long, deep := strings.Repeat("a", 201), written(t, "aaaaaaaaaabb")
	for _, d := range []*doc.Doc{doc.New(), some(t), deep} {
		wantRefused(t, d, inserts(1, 0, long), api.ErrFull)
		wantRefused(t, d, inserts(1, 0, long+"\n"), api.ErrFull)
		wantRefused(t, d, inserts(1, 0, "\n"+long), api.ErrFull)
		wantRefused(t, d, inserts(1, -1, long), api.ErrFull)
		wantRefused(t, d, inserts(1, 300, "\n"+long), api.ErrFull)
		wantRefused(t, d, inserts(1, -1, "\n"), api.ErrRange)
		wantRefused(t, d, inserts(1, 300, "a"), api.ErrRange)
	}
	wantRefused(t, deep, inserts(1, 0, "\n"), api.ErrRange)
	wantRefused(t, deep, inserts(1, 0, "ab\n"), api.ErrRange)
	wantRefused(t, deep, inserts(1, -1, "a"), api.ErrRange)
	wantRefused(t, deep, inserts(1, 2, "a"), api.ErrRange)
	wantRefused(t, doc.New(), inserts(1, 0, strings.Repeat("a", 199)+"\n"), api.ErrRange)
}

func TestDelete(t *testing.T) {
	d := some(t)
	for offset := range 6 {
		wantOps(t, d, deletes(2, offset, offset))
	}
	seen := []string{"db", "hb", "hc", "qb", "qi"}
	for from := range 5 {
		for to := from; to <= 5; to++ {
			var want []api.Op
			for i, p := range seen[from:to] {
				want = append(want, strike(at(2, 1+i), p))
			}
			wantOps(t, d, deletes(2, from, to), want...)
		}
	}
	done(t, d, deletes(2, 1, 4))
	wantText(t, d, "ae")
	wantOps(t, d, deletes(2, 0, 2), strike(at(2, 4), "db"), strike(at(2, 5), "qi"))
	done(t, d, deletes(1, 0, 2))
	wantText(t, d, "")
	wantOps(t, d, deletes(1, 0, 0))
	wantRefused(t, d, deletes(1, 0, 1), api.ErrRange)
}

func TestDeleteOfNoLetters(t *testing.T) {
	d := some(t)
	for from := range 6 {
		for to := range from {
			wantRefused(t, d, deletes(2, from, to), api.ErrRange)
		}
	}
	wantRefused(t, d, deletes(2, 0, 6), api.ErrRange)
	wantRefused(t, d, deletes(2, 5, 6), api.ErrRange)
	wantRefused(t, d, deletes(2, 6, 6), api.ErrRange)
	wantRefused(t, d, deletes(2, 8, 9), api.ErrRange)
	for _, a := range farOffsets {
		wantRefused(t, d, deletes(2, a, a), api.ErrRange)
		wantRefused(t, d, deletes(2, a, 3), api.ErrRange)
		wantRefused(t, d, deletes(2, 3, a), api.ErrRange)
		for _, b := range farOffsets {
			wantRefused(t, d, deletes(2, a, b), api.ErrRange)
		}
	}
	for _, empty := range []*doc.Doc{doc.New(), struck(t)} {
		wantOps(t, empty, deletes(2, 0, 0))
		wantRefused(t, empty, deletes(2, 0, 1), api.ErrRange)
		wantRefused(t, empty, deletes(2, 1, 1), api.ErrRange)
		wantRefused(t, empty, deletes(2, -1, 0), api.ErrRange)
	}
}

func TestSplit(t *testing.T) {
	d := some(t)
	for offset, p := range []string{"db", "hb", "hc", "qb", "qi"} {
		wantOps(t, d, splits(1, offset), cut(at(1, 13), p))
		wantOps(t, d, splits(2, offset), cut(at(2, 1), p))
	}
	for _, offset := range append([]int{5, 6, 8}, farOffsets...) {
		wantRefused(t, d, splits(1, offset), api.ErrRange)
	}
	for _, empty := range []*doc.Doc{doc.New(), struck(t)} {
		for _, offset := range append([]int{0, 1}, farOffsets...) {
			wantRefused(t, empty, splits(1, offset), api.ErrRange)
		}
	}
	// What is cut already can be cut again, by the same author, too.
	done(t, d, splits(1, 1))
	wantOps(t, d, splits(1, 1), cut(at(1, 14), "hb"))
	wantOps(t, d, splits(2, 1), cut(at(2, 1), "hb"))
	want := []api.Mark{{Place: "hb", Dot: at(1, 13)}}
	if got := d.Marks(); !slices.Equal(got, want) {
		t.Errorf("Marks behind a Split: got %v, want %v", got, want)
	}
}

func TestFuseOfNone(t *testing.T) {
	d := some(t)
	for offset := range 5 {
		wantRefused(t, d, fuses(2, offset), api.ErrNone)
	}
	for _, offset := range append([]int{5, 6, 8}, farOffsets...) {
		wantRefused(t, d, fuses(2, offset), api.ErrRange)
	}
	for _, empty := range []*doc.Doc{doc.New(), struck(t)} {
		for _, offset := range append([]int{0, 1}, farOffsets...) {
			wantRefused(t, empty, fuses(2, offset), api.ErrRange)
		}
	}
	// Cuts where no letter is seen are at no offset.
	if err := Do(d, []api.Op{cut(at(3, 1), "bb"), cut(at(3, 2), "hbb"), cut(at(3, 3), "mb"), cut(at(3, 4), "hnb"), cut(at(3, 5), "zzi")}); err != nil {
		t.Fatal(err)
	}
	for offset := range 5 {
		wantRefused(t, d, fuses(2, offset), api.ErrNone)
	}
	wantRefused(t, d, fuses(2, 5), api.ErrRange)
}

func TestFuse(t *testing.T) {
	d := some(t)
	for offset, p := range []string{"db", "hb", "hc", "qb", "qi"} {
		made := done(t, d, splits(4, offset))
		wantOps(t, d, fuses(2, offset), join(at(2, 1), p, made[0].Dot))
		wantOps(t, d, fuses(4, offset), join(at(4, 2+offset), p, made[0].Dot))
	}
	// Others cut there, too: all of them are seen, by author, then number.
	done(t, d, splits(8, 2))
	done(t, d, splits(1, 2))
	done(t, d, splits(8, 2))
	wantOps(t, d, fuses(2, 2), join(at(2, 1), "hc", at(1, 13), at(4, 3), at(8, 1), at(8, 2)))
	done(t, d, fuses(2, 2))
	wantRefused(t, d, fuses(2, 2), api.ErrNone)
	wantRefused(t, d, fuses(5, 2), api.ErrNone)
	wantOps(t, d, fuses(2, 1), join(at(2, 2), "hb", at(4, 2)))
	// Cut again behind the join: that one alone is seen.
	done(t, d, splits(8, 2))
	wantOps(t, d, fuses(1, 2), join(at(1, 14), "hc", at(8, 3)))
}

// TestFuseOfWhatIsJoinedAlready: some of the cuts at a place are, as other
// authors saw them; and one was, ahead of coming.
func TestFuseOfWhatIsJoinedAlready(t *testing.T) {
	d := some(t)
	done(t, d, splits(2, 0))
	done(t, d, splits(3, 0))
	if err := Do(d, []api.Op{join(at(4, 1), "db", at(2, 1), at(5, 1))}); err != nil {
		t.Fatal(err)
	}
	wantOps(t, d, fuses(6, 0), join(at(6, 1), "db", at(3, 1)))
	done(t, d, splits(5, 0))
	wantOps(t, d, fuses(6, 0), join(at(6, 1), "db", at(3, 1)))
	done(t, d, fuses(6, 0))
	wantRefused(t, d, fuses(6, 0), api.ErrNone)
}

func TestFuseOfAsManyAsThereMayBe(t *testing.T) {
	d := some(t)
	var all []api.Dot
	for i := range api.MaxMarks {
		done(t, d, splits(3, 4))
		all = append(all, at(3, 1+i))
	}
	// One more is told, but can't be done.
	wantOps(t, d, splits(3, 4), cut(at(3, 41), "qi"))
	ahead := told(d)
	wantError(t, Do(d, []api.Op{cut(at(3, 41), "qi")}), api.ErrFull, "Do")
	wantState(t, d, ahead, "behind one cut too many")
	wantOps(t, d, fuses(1, 4), join(at(1, 13), "qi", all...))
	done(t, d, fuses(1, 4))
	if got := d.Marks(); len(got) != 0 {
		t.Errorf("Marks: got %v, want none", got)
	}
}

// TestNextDots: those of the author that asks, whoever else did what, and of
// whatever kind; an op that was refused is none.
func TestNextDots(t *testing.T) {
	d := doc.New()
	done(t, d, inserts(3, 0, "abcd"))
	wantOps(t, d, inserts(3, 4, "ef"), write(at(3, 5), "vd", 'e'), write(at(3, 6), "wd", 'f'))
	wantOps(t, d, inserts(5, 4, "ef"), write(at(5, 1), "vf", 'e'), write(at(5, 2), "wf", 'f'))
	done(t, d, deletes(5, 3, 4))
	done(t, d, splits(5, 0))
	done(t, d, fuses(5, 0))
	wantOps(t, d, deletes(5, 0, 2), strike(at(5, 4), "hd"), strike(at(5, 5), "md"))
	wantOps(t, d, deletes(3, 0, 2), strike(at(3, 5), "hd"), strike(at(3, 6), "md"))
	wantError(t, Do(d, []api.Op{write(at(5, 4), "hd", 'z')}), api.ErrClash, "Do")
	wantOps(t, d, splits(5, 0), cut(at(5, 4), "hd"))
}

// full is a Doc that knows as many ops as it may, by which `a` is seen.
func full(t *testing.T) *doc.Doc {
	t.Helper()
	ops := []api.Op{write(at(2, 1), "hb", 'a'), cut(at(2, 2), "hb")}
	for i := range api.MaxOps - 2 {
		ops = append(ops, strike(at(1, 1+i), "mb"))
	}
	return applied(t, ops...)
}

// TestWhatCanNotBeDoneIsTold: each tells what an author would do, also where a
// Doc has no room for it any more.
func TestWhatCanNotBeDoneIsTold(t *testing.T) {
	d := full(t)
	for _, c := range []struct {
		call
		want []api.Op
	}{
		{inserts(1, 1, "xy"), []api.Op{write(at(1, 399), "ib", 'x'), write(at(1, 400), "jb", 'y')}},
		{deletes(1, 0, 1), []api.Op{strike(at(1, 399), "hb")}},
		{splits(1, 0), []api.Op{cut(at(1, 399), "hb")}},
		{fuses(1, 0), []api.Op{join(at(1, 399), "hb", at(2, 2))}},
	} {
		wantOps(t, d, c.call, c.want...)
		ahead := told(d)
		wantError(t, Do(d, c.want), api.ErrFull, "Do of "+c.name)
		wantState(t, d, ahead, "behind Do of "+c.name)
	}

	d = written(t, numbered(298)...)
	ops, err := Insert(d, 2, 298, "wxyz")
	if err != nil || len(ops) != 4 {
		t.Fatalf("Insert: %v, %v", ops, err)
	}
	wantError(t, Do(d, ops), api.ErrFull, "Do")
	wantText(t, d, strings.Repeat("a", 298)+"wx")
}

func TestFullBook(t *testing.T) {
	places := numbered(api.MaxLeafs)
	d := written(t, places...)
	ops, err := Delete(d, 2, 0, api.MaxLeafs)
	if err != nil || len(ops) != api.MaxLeafs {
		t.Fatalf("Delete of all: %d ops, %v", len(ops), err)
	}
	for i, o := range ops {
		if !sameOp(o, strike(at(2, 1+i), places[i])) {
			t.Errorf("Delete of all: op %d is %v", i, o)
		}
	}
	wantRefused(t, d, deletes(2, 0, 301), api.ErrRange)
	wantOps(t, d, splits(2, 299), cut(at(2, 1), places[299]))
	wantRefused(t, d, splits(2, 300), api.ErrRange)
	wantRefused(t, d, inserts(2, 301, "x"), api.ErrRange)
	if ops, err := Insert(d, 2, 300, "x"); err != nil || len(ops) != 1 || ops[0].Place <= places[299] {
		t.Errorf("Insert behind the last: %v, %v", ops, err)
	}
}

func TestDoOfNothing(t *testing.T) {
	for _, d := range []*doc.Doc{doc.New(), some(t), full(t)} {
		for _, l := range [][]api.Op{nil, {}} {
			ahead := told(d)
			if err := Do(d, l); err != nil {
				t.Errorf("Do of nothing: %v", err)
			}
			wantState(t, d, ahead, "behind Do of nothing")
		}
	}
}

// TestDoOfAll: each op once, as they stand; those that are known change nothing.
func TestDoOfAll(t *testing.T) {
	l := []api.Op{
		write(at(2, 1), "hc", 'a'), write(at(1, 1), "mb", 'b'), cut(at(1, 2), "mb"), write(at(2, 2), "qc", 'c'),
		strike(at(1, 3), "hc"), join(at(2, 3), "mb", at(1, 2)), cut(at(1, 4), "qc"),
	}
	want := told(applied(t, l...))
	d := doc.New()
	for range 2 {
		if err := Do(d, l); err != nil {
			t.Errorf("Do: %v", err)
		}
		wantState(t, d, want, "behind Do")
	}
	wantText(t, d, "bc")

	d = doc.New()
	if err := Do(d, slices.Concat(l[:3], l[:5], l[4:], l[:1])); err != nil {
		t.Errorf("Do with some twice: %v", err)
	}
	wantState(t, d, want, "behind Do with some twice")
	if err := Do(full(t), []api.Op{strike(at(1, 398), "mb")}); err != nil {
		t.Errorf("Do of a known one, where there is no room: %v", err)
	}
}

// TestDoUpToTheFirstError: those ahead stay done, those behind are not, and a
// later error is not told.
func TestDoUpToTheFirstError(t *testing.T) {
	ahead := []api.Op{write(at(1, 1), "hb", 'a'), write(at(2, 1), "mc", 'b'), cut(at(2, 2), "mc")}
	behind := []api.Op{write(at(3, 1), "qd", 'c'), {}, strike(at(2, 3), "mc"), strike(at(1, 2), "hb")}
	for _, c := range []struct {
		o    api.Op
		want api.Errno
	}{
		{api.Op{}, api.ErrRange},
		{write(at(9, 1), "qd", 'x'), api.ErrRange},
		{write(at(1, 0), "qd", 'x'), api.ErrRange},
		{api.Op{Dot: at(1, 2), What: 5, Place: "qd"}, api.ErrRange},
		{write(at(1, 2), "qd", 31), api.ErrRange},
		{write(at(1, 2), "qd", 127), api.ErrRange},
		{write(at(1, 2), "", 'x'), api.ErrSyntax},
		{write(at(1, 2), "qa", 'x'), api.ErrSyntax},
		{write(at(1, 2), "zzzzzzzzzzzzb", 'x'), api.ErrFull},
		{api.Op{Dot: at(1, 2), What: api.Strike, Place: "hb", Letter: 'a'}, api.ErrShape},
		{api.Op{Dot: at(1, 2), What: api.Cut, Place: "hb", Seen: []api.Dot{at(2, 2)}}, api.ErrShape},
		{join(at(1, 2), "mc", at(2, 2), at(2, 2)), api.ErrClash},
		{join(at(1, 2), "mc", at(2, 10000)), api.ErrRange},
		{write(at(1, 2), "mc", 'x'), api.ErrClash},
		{strike(at(1, 3), "hb"), api.ErrState},
		{cut(at(4, 2), "hb"), api.ErrState},
	} {
		want := told(applied(t, ahead...))
		l := slices.Concat(ahead, []api.Op{c.o}, behind)
		d := doc.New()
		wantError(t, Do(d, l), c.want, fmt.Sprint("Do of ", l))
		wantState(t, d, want, fmt.Sprint("behind Do up to ", c.o))
		// The same once more: those ahead are known, and it is refused still.
		wantError(t, Do(d, l), c.want, fmt.Sprint("Do again of ", l))
		wantState(t, d, want, fmt.Sprint("behind Do again up to ", c.o))

		d = doc.New()
		wantError(t, Do(d, []api.Op{{}, ahead[0]}), api.ErrRange, "Do of a wrong one first")
		wantState(t, d, told(doc.New()), "behind Do of a wrong one first")
		d = doc.New()
		wantError(t, Do(d, append(slices.Clone(ahead), c.o)), c.want, "Do of a wrong one last")
		wantState(t, d, want, "behind Do of a wrong one last")
	}
}

// TestDoLeavesWhatIsGiven: the list, what is behind its end, and what the ops
// saw; and it is not kept.
func TestDoLeavesWhatIsGiven(t *testing.T) {
	seen := []api.Dot{at(1, 2), at(2, 1), at(9, 9)}
	l := []api.Op{write(at(1, 1), "hb", 'a'), cut(at(1, 2), "hb"), join(at(1, 3), "hb", seen[:2]...), {What: 99, Place: "over"}}
	was, wasSeen := copyOps(l), slices.Clone(seen)
	d := doc.New()
	if err := Do(d, l[:3]); err != nil {
		t.Fatal(err)
	}
	wantError(t, Do(doc.New(), l), api.ErrRange, "Do")
	if !sameOps(l, was) || !slices.Equal(seen, wasSeen) {
		t.Errorf("Do changed what it was given: %v, %v, want %v, %v", l, seen, was, wasSeen)
	}
	want := told(d)
	for i := range seen {
		seen[i] = at(7, 77)
	}
	for i := range l {
		l[i] = api.Op{Place: "over", Letter: 5555}
	}
	wantState(t, d, want, "after what was given is overwritten")
	if is, err := d.Apply(cut(at(2, 1), "hb")); !is || err != nil || len(d.Marks()) != 0 {
		t.Errorf("a cut that was seen: %v, %v, %v", is, err, d.Marks())
	}
}

// TestAnswersAreTheCallers: overwritten to the end of their memory, nothing that
// a later call tells is changed, nor what another one told.
func TestAnswersAreTheCallers(t *testing.T) {
	d := some(t)
	done(t, d, splits(2, 1))
	done(t, d, splits(3, 1))
	ahead := told(d)
	for _, c := range []call{inserts(2, 2, "xyz"), deletes(2, 0, 5), splits(2, 1), fuses(2, 1)} {
		one, err := c.of(d)
		if err != nil {
			t.Fatal(err)
		}
		other, _ := c.of(d)
		want := copyOps(other)
		for i := range one[:cap(one)] {
			o := &one[:cap(one)][i]
			for k := range o.Seen[:cap(o.Seen)] {
				o.Seen[:cap(o.Seen)][k] = at(5555, 5555)
			}
			*o = api.Op{Place: "over", Letter: 5555}
		}
		if !sameOps(other, want) {
			t.Errorf("%s: two answers share memory", c.name)
		}
		wantOps(t, d, c, want...)
		wantState(t, d, ahead, "after the answer of "+c.name+" is overwritten")
	}
}

// wantWritten holds an Insert against the chapter's own words, leaf by leaf.
func wantWritten(t *testing.T, d *doc.Doc, who, offset int, text string) {
	t.Helper()
	ahead, behind, seen, passed := "", "", 0, offset == 0
	for _, leaf := range d.Book() {
		if passed && behind == "" {
			behind = leaf.Place
		}
		if leaf.Letter != 0 && !leaf.Struck {
			seen++
			if seen == offset {
				ahead, passed = leaf.Place, true
			}
		}
	}
	var want []api.Op
	for i := range len(text) {
		p, err := place.Between(ahead, behind, who)
		if err != nil {
			wantRefused(t, d, inserts(who, offset, text), api.ErrDeep)
			return
		}
		want = append(want, write(at(who, d.Known()[who-1]+1+i), p, int(text[i])))
		ahead = p
	}
	wantOps(t, d, inserts(who, offset, text), want...)
}

// anyEdit of a book by an author, as a call, and the text that comes of it.
func anyEdit(r *rand.Rand, who int, text string) (call, string) {
	words := []string{"", "a", "bc", "xyz", "one two", "~ "}
	switch i := r.Intn(len(text) + 1); r.Intn(6) {
	case 0, 1, 2:
		word := words[r.Intn(len(words))]
		return inserts(who, i, word), text[:i] + word + text[i:]
	case 3:
		to := min(len(text), i+r.Intn(4))
		return deletes(who, i, to), text[:i] + text[to:]
	case 4:
		return splits(who, i), text
	default:
		return fuses(who, i), text
	}
}

// TestLongPlay: authors edit one Doc by turns, and a plain text beside it.
func TestLongPlay(t *testing.T) {
	r := rand.New(rand.NewSource(8))
	for range 60 {
		d, text := doc.New(), ""
		for range 60 {
			who := 1 + r.Intn(api.MaxWho)
			wantWritten(t, d, who, r.Intn(len(text)+1), "play"[:r.Intn(5)])
			c, then := anyEdit(r, who, text)
			ahead := told(d)
			ops, err := c.of(d)
			wantState(t, d, ahead, "behind "+c.name)
			if err != nil {
				if len(ops) != 0 {
					t.Errorf("%s: %v with an error", c.name, ops)
				}
				continue
			}
			for i, o := range ops {
				if op.Check(o) != nil || o.Dot != at(who, ahead.known[who-1]+1+i) {
					t.Errorf("%s: op %d is %v", c.name, i, o)
				}
			}
			if err := Do(d, ops); err != nil {
				t.Errorf("Do of what %s told: %v", c.name, err)
			}
			text = then
			wantText(t, d, text)
		}
		if book.Check(d.Book()) != nil || marks.Check(d.Marks()) != nil {
			t.Errorf("not right any more: %v, %v", d.Book(), d.Marks())
		}
	}
}

// TestCopiesComeToTheSame: each author edits its own copy, and what it did comes
// to the others in another order.
func TestCopiesComeToTheSame(t *testing.T) {
	r := rand.New(rand.NewSource(9))
	for range 100 {
		copies := []*doc.Doc{some(t), some(t), some(t)}
		for range 4 {
			var all [][]api.Op
			for i, d := range copies {
				var mine []api.Op
				for range 3 {
					c, _ := anyEdit(r, 2+i, d.Text())
					ops, err := c.of(d)
					if err != nil {
						continue
					}
					if err := Do(d, ops); err != nil {
						t.Fatalf("Do of what %s told: %v", c.name, err)
					}
					mine = append(mine, ops...)
				}
				all = append(all, mine)
			}
			for _, d := range copies {
				for _, k := range r.Perm(len(all)) {
					if err := Do(d, all[k]); err != nil {
						t.Fatalf("Do of another's ops: %v", err)
					}
				}
			}
			for _, d := range copies[1:] {
				if !slices.Equal(d.Book(), copies[0].Book()) || !slices.Equal(d.Marks(), copies[0].Marks()) || d.Text() != copies[0].Text() {
					t.Fatalf("copies differ: %q and %q", d.Text(), copies[0].Text())
				}
			}
		}
	}
}
