package back

import (
	"errors"
	"math"
	"math/rand"
	"reflect"
	"slices"
	"sort"
	"strings"
	"testing"

	"leafbinder/api"
	"leafbinder/doc"
	"leafbinder/edit"
	"leafbinder/place"
)

var wrongAuthors = []int{0, -1, -8, 9, 10, math.MinInt, math.MinInt + 1, math.MaxInt, math.MaxInt - 1, 1 << 32, 1<<32 + 1}

// wrongNumbers are none of how many ops may be taken back.
var wrongNumbers = []int{-1, -2, -200, math.MinInt, math.MinInt + 1, 201, 202, 400, 1 << 32, 1<<32 + 1, math.MaxInt - 1, math.MaxInt}

// deepest has none of its length, or below it, behind it.
var deepest = strings.Repeat("z", 11) + "b"

func at(who, n int) api.Dot { return api.Dot{Who: who, N: n} }

func write(who, n int, p string, letter int) api.Op {
	return api.Op{Dot: at(who, n), What: api.Write, Place: p, Letter: letter}
}

func strike(who, n int, p string) api.Op { return api.Op{Dot: at(who, n), What: api.Strike, Place: p} }

func cut(who, n int, p string) api.Op { return api.Op{Dot: at(who, n), What: api.Cut, Place: p} }

func join(who, n int, p string, seen ...api.Dot) api.Op {
	return api.Op{Dot: at(who, n), What: api.Join, Place: p, Seen: seen}
}

func list(l ...api.Op) []api.Op { return l }

// state is all that a Doc tells.
type state struct {
	book  []api.Leaf
	marks []api.Mark
	text  string
	known []int
	ops   []api.Op
}

func told(d *doc.Doc) state { return state{d.Book(), d.Marks(), d.Text(), d.Known(), d.Ops()} }

func sameOp(a, b api.Op) bool {
	seen := slices.Equal(a.Seen, b.Seen)
	a.Seen, b.Seen = nil, nil
	return seen && reflect.DeepEqual(a, b)
}

func sameOps(a, b []api.Op) bool { return slices.EqualFunc(a, b, sameOp) }

func same(a, b state) bool {
	return slices.Equal(a.book, b.book) && slices.Equal(a.marks, b.marks) && a.text == b.text &&
		slices.Equal(a.known, b.known) && sameOps(a.ops, b.ops)
}

func wantState(t *testing.T, d *doc.Doc, want state, why ...any) {
	t.Helper()
	if got := told(d); !same(got, want) {
		t.Errorf("%v: the Doc is %v, want %v", why, got, want)
	}
}

func wantErrno(t *testing.T, err error, want api.Errno, why ...any) {
	t.Helper()
	var got api.Errno
	if !errors.As(err, &got) || got != want {
		t.Errorf("%v: error %v, want %v", why, err, want)
	}
}

func wantUndo(t *testing.T, d *doc.Doc, who, n int, want []api.Op, why ...any) {
	t.Helper()
	before := told(d)
	got, err := Undo(d, who, n)
	if err != nil || !sameOps(got, want) {
		t.Errorf("%v: Undo(%d, %d): got %v, %v, want %v", why, who, n, got, err, want)
	}
	wantState(t, d, before, why...)
}

func wantNoUndo(t *testing.T, d *doc.Doc, who, n int, want api.Errno, why ...any) {
	t.Helper()
	before := told(d)
	got, err := Undo(d, who, n)
	wantErrno(t, err, want, why, who, n)
	if len(got) != 0 {
		t.Errorf("%v: Undo(%d, %d): got %v with an error", why, who, n, got)
	}
	wantState(t, d, before, why...)
}

// applied gives a Doc to which ops were applied that must all be new to it.
func applied(t *testing.T, ops ...api.Op) *doc.Doc {
	t.Helper()
	d := doc.New()
	for _, o := range ops {
		if is, err := d.Apply(o); !is || err != nil {
			t.Fatalf("Apply(%v): got %v, %v, want true and no error", o, is, err)
		}
	}
	return d
}

// done does ops to a Doc that must all be right.
func done(t *testing.T, d *doc.Doc, ops []api.Op) {
	t.Helper()
	if err := edit.Do(d, ops); err != nil {
		t.Fatalf("Do(%v): %v", ops, err)
	}
}

// undone takes back and does what takes back; it tells the ops.
func undone(t *testing.T, d *doc.Doc, who, n int) []api.Op {
	t.Helper()
	ops, err := Undo(d, who, n)
	if err != nil {
		t.Fatalf("Undo(%d, %d): %v", who, n, err)
	}
	done(t, d, ops)
	return ops
}

// numbered gives so many places of three letters that rise.
func numbered(n int) []string {
	var l []string
	for i := range n {
		l = append(l, string([]byte{byte('b' + i/25), byte('b' + i%25), 'b'}))
	}
	return l
}

// written gives Writes of an `a` at each of some places, of author 1.
func written(places []string) []api.Op {
	var ops []api.Op
	for i, p := range places {
		ops = append(ops, write(1, 1+i, p, 'a'))
	}
	return ops
}

// plainUndo goes by the chapter's words over a book that is a table of leafs.
func plainUndo(known []api.Op, who, n int) ([]api.Op, api.Errno) {
	if who < 1 || who > 8 || n < 0 || n > 200 {
		return nil, api.ErrRange
	}
	leafs := map[string]api.Leaf{}
	own := map[int]api.Op{}
	for _, o := range known {
		leaf := leafs[o.Place]
		if o.What == api.Write {
			leaf.Letter = o.Letter
		}
		if o.What == api.Strike {
			leaf.Struck = true
		}
		if o.What == api.Write || o.What == api.Strike {
			leafs[o.Place] = leaf
		}
		if o.Dot.Who == who {
			own[o.Dot.N] = o
		}
	}
	var ops []api.Op
	for number := len(own); number > 0 && len(ops) < n; number-- {
		o := own[number]
		dot := at(who, len(own)+len(ops)+1)
		leaf := leafs[o.Place]
		if o.What == api.Write && !leaf.Struck {
			ops = append(ops, api.Op{Dot: dot, What: api.Strike, Place: o.Place})
			leafs[o.Place] = api.Leaf{Letter: leaf.Letter, Struck: true}
		}
		if o.What == api.Strike && leaf.Letter != 0 && !otherStrike(known, o) {
			p, err := place.Between(o.Place, placeBehind(leafs, o.Place), who)
			if err != nil {
				return nil, api.ErrDeep
			}
			ops = append(ops, api.Op{Dot: dot, What: api.Write, Place: p, Letter: leaf.Letter})
			leafs[p] = api.Leaf{Letter: leaf.Letter}
		}
	}
	if len(leafs) > 300 {
		return nil, api.ErrFull
	}
	return ops, api.OK
}

func otherStrike(known []api.Op, one api.Op) bool {
	for _, o := range known {
		if o.What == api.Strike && o.Place == one.Place && o.Dot != one.Dot {
			return true
		}
	}
	return false
}

func placeBehind(leafs map[string]api.Leaf, p string) string {
	var places []string
	for q := range leafs {
		if q > p {
			places = append(places, q)
		}
	}
	if len(places) == 0 {
		return ""
	}
	sort.Strings(places)
	return places[0]
}

// wantAsPlain holds Last and Undo to what is told of a Doc by plain means.
func wantAsPlain(t *testing.T, d *doc.Doc, who, n int) {
	t.Helper()
	known := d.Ops()
	ops, errno := plainUndo(known, who, n)
	if errno != api.OK {
		wantNoUndo(t, d, who, n, errno, known)
	} else {
		wantUndo(t, d, who, n, ops, known)
	}
	last, err := Last(d, who)
	var greatest api.Op
	for _, o := range known {
		if o.Dot.Who == who && o.Dot.N > greatest.Dot.N {
			greatest = o
		}
	}
	switch {
	case who < 1 || who > 8:
		wantErrno(t, err, api.ErrRange, known, who)
	case greatest.Dot.N == 0:
		wantErrno(t, err, api.ErrNone, known, who)
	case err != nil:
		t.Errorf("Last(%v, %d): %v", known, who, err)
	}
	if !sameOp(last, greatest) {
		t.Errorf("Last(%v, %d): got %v, want %v", known, who, last, greatest)
	}
}

func TestLastIsTheOneWithTheGreatestNumber(t *testing.T) {
	for _, who := range []int{1, 2, 7, 8} {
		for _, c := range [][]api.Op{
			{write(who, 1, "hb", 'a')},
			{write(who, 1, "hb", 'a'), strike(who, 2, "bb")},
			{write(who, 1, "hb", 'a'), strike(who, 2, "hb"), cut(who, 3, "bb")},
			{cut(who, 1, "hb"), write(who, 2, "mb", 'z'), join(who, 3, "hb", at(who, 1), at(8, 9))},
			{join(who, 1, "hb")},
			// The same once more changes nothing in the book, but it was done.
			{write(who, 1, "hb", 'a'), write(who, 2, "hb", 'a')},
			{strike(who, 1, "hb"), strike(who, 2, "hb")},
		} {
			got, err := Last(applied(t, c...), who)
			if want := c[len(c)-1]; err != nil || !sameOp(got, want) {
				t.Errorf("%v: Last(%d): got %v, %v, want %v", c, who, got, err, want)
			}
		}
	}
}

func TestLastIsOfTheAuthorAlone(t *testing.T) {
	d := applied(t,
		write(2, 1, "hc", 'a'), write(1, 1, "mb", 'b'), write(8, 1, "qi", 'c'), write(2, 2, "bc", 'd'),
		strike(8, 2, "hc"), write(2, 3, "cc", 'e'), cut(1, 2, "mb"))
	wants := []api.Op{cut(1, 2, "mb"), write(2, 3, "cc", 'e'), {}, {}, {}, {}, {}, strike(8, 2, "hc")}
	for i, want := range wants {
		who := i + 1
		got, err := Last(d, who)
		if !sameOp(got, want) {
			t.Errorf("Last(%d): got %v, want %v", who, got, want)
		}
		if want.What == 0 {
			wantErrno(t, err, api.ErrNone, who)
		} else if err != nil {
			t.Errorf("Last(%d): %v", who, err)
		}
	}
}

func TestLastWhenOpsComeInAnotherOrder(t *testing.T) {
	d := doc.New()
	first, second, third := write(1, 1, "hb", 'a'), write(1, 2, "mb", 'b'), strike(1, 3, "bb")
	for _, step := range []struct {
		comes, last api.Op
	}{
		{third, api.Op{}}, {second, api.Op{}}, {first, first}, {third, first}, {write(3, 1, "ud", 'x'), first},
		{second, second}, {first, second}, {third, third}, {second, third}, {write(3, 2, "vd", 'y'), third},
		// One that is not right is not known.
		{write(1, 4, "hb", 'z'), third}, {cut(1, 4, "hb"), cut(1, 4, "hb")},
	} {
		d.Apply(step.comes)
		if got, _ := Last(d, 1); !sameOp(got, step.last) {
			t.Errorf("Last behind %v: got %v, want %v", step.comes, got, step.last)
		}
	}
}

func TestLastOfNone(t *testing.T) {
	others := applied(t, write(2, 1, "hc", 'a'), strike(2, 2, "hc"), write(7, 1, "bh", 'a'))
	for _, d := range []*doc.Doc{doc.New(), others} {
		before := told(d)
		for _, who := range []int{1, 3, 4, 5, 6, 8} {
			got, err := Last(d, who)
			wantErrno(t, err, api.ErrNone, who)
			if !sameOp(got, api.Op{}) {
				t.Errorf("Last(%d): got %v with an error", who, got)
			}
		}
		for _, who := range wrongAuthors {
			got, err := Last(d, who)
			wantErrno(t, err, api.ErrRange, who)
			if !sameOp(got, api.Op{}) {
				t.Errorf("Last(%d): got %v with an error", who, got)
			}
		}
		wantState(t, d, before)
	}
}

func TestLastIsTheCallers(t *testing.T) {
	d := applied(t, cut(1, 1, "hb"), join(1, 2, "hb", at(1, 1), at(2, 3)))
	before := told(d)
	one, _ := Last(d, 1)
	other, _ := Last(d, 1)
	one.Seen[0] = at(8, 8)
	one.Seen = append(one.Seen[:1], at(7, 7))
	if !sameOp(other, join(1, 2, "hb", at(1, 1), at(2, 3))) {
		t.Errorf("two answers share memory: %v", other)
	}
	wantState(t, d, before)
}

func TestUndoOfWrites(t *testing.T) {
	d := applied(t, write(1, 1, "hb", 'a'), write(2, 1, "mc", 'x'), write(1, 2, "qb", 'b'), write(1, 3, "bb", 'c'))
	wantUndo(t, d, 1, 0, nil)
	wantUndo(t, d, 1, 1, list(strike(1, 4, "bb")))
	wantUndo(t, d, 1, 2, list(strike(1, 4, "bb"), strike(1, 5, "qb")))
	for _, n := range []int{3, 4, 199, 200} {
		wantUndo(t, d, 1, n, list(strike(1, 4, "bb"), strike(1, 5, "qb"), strike(1, 6, "hb")))
		wantUndo(t, d, 2, n, list(strike(2, 2, "mc")))
		wantUndo(t, d, 8, n, nil)
		wantUndo(t, doc.New(), 8, n, nil)
	}
}

// The place of a letter tells another author than the one that wrote it.
func TestUndoGoesByTheAuthorOfTheOp(t *testing.T) {
	d := applied(t, write(1, 1, "hi", 'a'), write(8, 1, "mb", 'x'))
	wantUndo(t, d, 1, 5, list(strike(1, 2, "hi")))
	wantUndo(t, d, 8, 5, list(strike(8, 2, "mb")))
}

func TestUndoOfAWriteThatIsNotSeen(t *testing.T) {
	d := applied(t,
		write(1, 1, "bb", 'a'), write(1, 2, "hb", 'b'), write(1, 3, "mb", 'c'), strike(2, 1, "mb"),
		strike(2, 2, "qb"), write(1, 4, "qb", 'd'), write(1, 5, "tb", 'e'), strike(3, 1, "bb"))
	// One that does not show is not counted.
	wantUndo(t, d, 1, 1, list(strike(1, 6, "tb")))
	wantUndo(t, d, 1, 2, list(strike(1, 6, "tb"), strike(1, 7, "hb")))
	wantUndo(t, d, 1, 3, list(strike(1, 6, "tb"), strike(1, 7, "hb")))
}

// The same letter at the same place is there once, and is struck once.
func TestUndoOfAWriteThatWasDoneTwice(t *testing.T) {
	d := applied(t, write(1, 1, "bb", 'x'), write(1, 2, "hb", 'a'), write(1, 3, "hb", 'a'), write(2, 1, "hb", 'a'))
	wantUndo(t, d, 1, 1, list(strike(1, 4, "hb")))
	wantUndo(t, d, 1, 2, list(strike(1, 4, "hb"), strike(1, 5, "bb")))
	wantUndo(t, d, 1, 3, list(strike(1, 4, "hb"), strike(1, 5, "bb")))
	wantUndo(t, d, 2, 3, list(strike(2, 2, "hb")))
}

func TestUndoOfStrikes(t *testing.T) {
	for _, c := range []struct {
		why  string
		ops  []api.Op
		n    int
		want []api.Op
	}{
		{"none is behind it", list(write(2, 1, "hc", 'a'), strike(1, 1, "hc")), 1, list(write(1, 2, "mb", 'a'))},
		{"a seen one is behind it", list(write(2, 1, "hc", 'a'), write(2, 2, "mc", 'b'), strike(1, 1, "hc")), 1,
			list(write(1, 2, "ib", 'a'))},
		{"a struck one is behind it", list(write(2, 1, "hc", 'a'), write(2, 2, "mc", 'b'), strike(3, 1, "mc"), strike(1, 1, "hc")), 1,
			list(write(1, 2, "ib", 'a'))},
		{"one without a letter is behind it", list(write(2, 1, "hc", 'a'), strike(2, 2, "mc"), strike(1, 1, "hc")), 1,
			list(write(1, 2, "ib", 'a'))},
		{"what stands ahead does not matter", list(write(2, 1, "bc", 'x'), write(2, 2, "hc", 'a'), strike(1, 1, "hc")), 1,
			list(write(1, 2, "mb", 'a'))},
		{"it has no letter", list(strike(1, 1, "hc")), 1, nil},
		{"it has got its letter later", list(strike(1, 1, "hc"), write(2, 1, "hc", 'a')), 1, list(write(1, 2, "mb", 'a'))},
		{"it has got its own letter later", list(strike(1, 1, "hb"), write(1, 2, "hb", 'a')), 2, list(write(1, 3, "mb", 'a'))},
		{"another author struck it ahead", list(write(2, 1, "hc", 'a'), strike(2, 2, "hc"), strike(1, 1, "hc")), 1, nil},
		{"another author struck it later", list(write(2, 1, "hc", 'a'), strike(1, 1, "hc"), strike(8, 1, "hc")), 1, nil},
		{"it struck it twice", list(write(2, 1, "hc", 'a'), strike(1, 1, "hc"), strike(1, 2, "hc")), 2, nil},
		{"another place is struck by another one", list(write(2, 1, "hc", 'a'), strike(1, 1, "hc"), strike(2, 2, "mc")), 1,
			list(write(1, 2, "ib", 'a'))},
		{"a cut and a join there are no strikes",
			list(write(2, 1, "hc", 'a'), strike(1, 1, "hc"), cut(2, 2, "hc"), join(3, 1, "hc", at(2, 2))), 1,
			list(write(1, 2, "mb", 'a'))},
		{"what it wrote itself is written anew alone", list(write(1, 1, "hb", 'a'), strike(1, 2, "hb")), 2,
			list(write(1, 3, "mb", 'a'))},
		{"letters at the bounds", list(write(2, 1, "hc", 32), write(2, 2, "mc", 126), strike(1, 1, "mc"), strike(1, 2, "hc")), 2,
			list(write(1, 3, "ib", 32), write(1, 4, "qb", 126))},
		{"author 8", list(write(2, 1, "hc", 'a'), strike(8, 1, "hc")), 200, list(write(8, 2, "mi", 'a'))},
	} {
		who := 1
		if c.n == 200 {
			who = 8
		}
		wantUndo(t, applied(t, c.ops...), who, c.n, c.want, c.why)
	}
}

// Of two leafs side by side both are struck: whichever is written anew first,
// each comes to stand behind its own place, and ahead of the next one.
func TestUndoOfStrikesSideBySide(t *testing.T) {
	base := list(write(2, 1, "hc", 'a'), write(2, 2, "mc", 'b'), write(2, 3, "nc", 'c'))
	right := applied(t, append(slices.Clone(base), strike(1, 1, "hc"), strike(1, 2, "mc"), strike(1, 3, "nc"))...)
	left := applied(t, append(slices.Clone(base), strike(1, 1, "nc"), strike(1, 2, "mc"), strike(1, 3, "hc"))...)
	wantUndo(t, right, 1, 3, list(write(1, 4, "qb", 'c'), write(1, 5, "mib", 'b'), write(1, 6, "ib", 'a')))
	wantUndo(t, left, 1, 3, list(write(1, 4, "ib", 'a'), write(1, 5, "mib", 'b'), write(1, 6, "qb", 'c')))
	for _, d := range []*doc.Doc{right, left} {
		undone(t, d, 1, 3)
		if got := d.Text(); got != "abc" {
			t.Errorf("seen is %q, want abc", got)
		}
	}
}

func TestUndoLeavesCutsAndJoins(t *testing.T) {
	d := applied(t,
		cut(1, 1, "zb"), write(1, 2, "hb", 'a'), cut(1, 3, "hb"), write(2, 1, "mc", 'b'), strike(1, 4, "mc"),
		join(1, 5, "hb", at(1, 3)), cut(1, 6, "mc"), join(1, 7, "bb"))
	wantUndo(t, d, 1, 1, list(write(1, 8, "qb", 'b')))
	wantUndo(t, d, 1, 2, list(write(1, 8, "qb", 'b'), strike(1, 9, "hb")))
	wantUndo(t, d, 1, 8, list(write(1, 8, "qb", 'b'), strike(1, 9, "hb")))
	marks := d.Marks()
	undone(t, d, 1, 8)
	if got := d.Marks(); !slices.Equal(got, marks) {
		t.Errorf("marks are %v, want %v", got, marks)
	}
	wantUndo(t, applied(t, cut(3, 1, "hb"), join(3, 2, "hb", at(3, 1))), 3, 9, nil)
}

func TestUndoNumbers(t *testing.T) {
	d := applied(t, written(numbered(250))...)
	for _, n := range []int{0, 1, 2, 199, 200} {
		var want []api.Op
		for i := range n {
			want = append(want, strike(1, 251+i, numbered(250)[249-i]))
		}
		wantUndo(t, d, 1, n, want)
	}
	for _, n := range wrongNumbers {
		wantNoUndo(t, d, 1, n, api.ErrRange)
		wantNoUndo(t, doc.New(), 8, n, api.ErrRange)
	}
}

func TestUndoOfNoAuthor(t *testing.T) {
	d := applied(t, write(1, 1, "hb", 'a'), write(8, 1, "hi", 'b'))
	for _, who := range wrongAuthors {
		for _, n := range append([]int{0, 1, 200}, wrongNumbers...) {
			wantNoUndo(t, d, who, n, api.ErrRange)
			wantNoUndo(t, doc.New(), who, n, api.ErrRange)
		}
	}
	wantUndo(t, d, 1, 1, list(strike(1, 2, "hb")))
	wantUndo(t, d, 8, 1, list(strike(8, 2, "hi")))
}

func TestUndoWhereThereIsNoRoom(t *testing.T) {
	low, next := strings.Repeat("b", 12), strings.Repeat("b", 11)+"c"
	behindAll := applied(t, write(1, 1, "hb", 'a'), write(2, 1, deepest, 'z'), strike(1, 2, deepest))
	wantNoUndo(t, behindAll, 1, 1, api.ErrDeep)
	wantNoUndo(t, behindAll, 1, 200, api.ErrDeep)
	wantUndo(t, behindAll, 1, 0, nil)
	between := applied(t, write(2, 1, low, 'a'), write(2, 2, next, 'b'), strike(1, 1, low), write(1, 2, "hb", 'c'))
	wantNoUndo(t, between, 1, 2, api.ErrDeep)
	// What is not asked for finds no fault.
	wantUndo(t, between, 1, 1, list(strike(1, 3, "hb")))
	// One that has room is no help to one that has none.
	both := applied(t, write(2, 1, low, 'a'), write(2, 2, next, 'b'), strike(1, 1, low), strike(1, 2, next))
	wantUndo(t, both, 1, 1, list(write(1, 3, "hb", 'b')))
	wantNoUndo(t, both, 1, 2, api.ErrDeep)
	// One that is not written anew needs no room.
	wantUndo(t, applied(t, strike(1, 1, deepest)), 1, 1, nil)
	wantUndo(t, applied(t, write(2, 1, deepest, 'a'), strike(1, 1, deepest), strike(2, 2, deepest)), 1, 1, nil)
	wantUndo(t, applied(t, write(1, 1, deepest, 'a')), 1, 1, list(strike(1, 2, deepest)))
	// The last room there is, of twelve letters.
	narrow := strings.Repeat("z", 10) + "yb"
	wantUndo(t, applied(t, write(2, 1, narrow, 'a'), strike(1, 1, narrow)), 1, 1, list(write(1, 2, deepest, 'a')))
}

func TestUndoOfAFullBook(t *testing.T) {
	places := numbered(300)
	nearly := applied(t, append(written(places[:299]), strike(2, 1, places[0]), strike(2, 2, places[5]), write(2, 3, places[9], 'a'))...)
	wantUndo(t, nearly, 2, 1, list(strike(2, 4, places[9])))
	wantUndo(t, nearly, 2, 2, list(strike(2, 4, places[9]), write(2, 5, "bghc", 'a')))
	wantNoUndo(t, nearly, 2, 3, api.ErrFull)
	wantNoUndo(t, nearly, 2, 200, api.ErrFull)

	full := applied(t, append(written(places), strike(2, 1, places[0]), write(2, 2, places[9], 'a'))...)
	wantUndo(t, full, 2, 1, list(strike(2, 3, places[9])))
	wantNoUndo(t, full, 2, 2, api.ErrFull)
	if got, err := Undo(full, 1, 200); err != nil || len(got) != 200 {
		t.Errorf("to strike leafs that are there makes no book too full: got %d ops, %v", len(got), err)
	}
	// With what fits the book may be full.
	undone(t, nearly, 2, 2)
	if got := len(nearly.Book()); got != 300 {
		t.Errorf("the book has %d leafs, want 300", got)
	}
	wantNoUndo(t, nearly, 2, 3, api.ErrFull)
}

func TestUndoTellsTheErrorThatIsNamedFirst(t *testing.T) {
	places := numbered(299)
	base := append(written(places), write(1, 300, deepest, 'z'))
	deepFirst := applied(t, append(slices.Clone(base), strike(2, 1, places[3]), strike(2, 2, deepest))...)
	deepLast := applied(t, append(slices.Clone(base), strike(2, 1, deepest), strike(2, 2, places[3]))...)
	wantNoUndo(t, deepFirst, 2, 1, api.ErrDeep)
	wantNoUndo(t, deepFirst, 2, 2, api.ErrDeep)
	wantNoUndo(t, deepLast, 2, 1, api.ErrFull)
	wantNoUndo(t, deepLast, 2, 2, api.ErrDeep)
	for _, d := range []*doc.Doc{deepFirst, deepLast} {
		wantNoUndo(t, d, 2, 201, api.ErrRange)
		wantNoUndo(t, d, 2, -1, api.ErrRange)
		wantNoUndo(t, d, 0, 2, api.ErrRange)
		wantNoUndo(t, d, 9, 201, api.ErrRange)
		wantUndo(t, d, 2, 0, nil)
	}
}

// Whether a Doc would take the ops is not asked: it knows as many as it may.
func TestUndoOfADocThatIsFullOfOps(t *testing.T) {
	ops := written(numbered(250))
	for i := range 150 {
		ops = append(ops, cut(2, 1+i, "hb"), join(3, 1+i, "hb", at(2, 1+i)))
	}
	d := applied(t, ops[:400]...)
	wantUndo(t, d, 1, 1, list(strike(1, 251, numbered(250)[249])))
	wantUndo(t, d, 2, 1, nil)
}

func TestUndoIsTakenBackAgain(t *testing.T) {
	d := applied(t, write(2, 1, "hc", 'a'), write(2, 2, "mc", 'b'), strike(1, 1, "hc"), write(1, 2, "qb", 'c'))
	before := d.Text()
	for i, want := range [][]api.Op{
		{strike(1, 3, "qb"), write(1, 4, "ib", 'a')},
		{strike(1, 5, "ib"), write(1, 6, "tb", 'c')},
		{strike(1, 7, "tb"), write(1, 8, "jb", 'a')},
	} {
		wantUndo(t, d, 1, 2, want)
		undone(t, d, 1, 2)
		text := "ab"
		if i%2 == 1 {
			text = before
		}
		if got := d.Text(); got != text {
			t.Errorf("seen is %q behind %v, want %q", got, want, text)
		}
	}
	// A place at which one Strike is known shows it, also where its letter was
	// written anew already: it is written anew once more if it is asked for.
	wantUndo(t, d, 1, 200, list(
		strike(1, 9, "jb"), write(1, 10, "vb", 'c'), write(1, 11, "ihb", 'a'), write(1, 12, "rb", 'c'), write(1, 13, "hib", 'a')))
}

func TestUndoIsTheCallers(t *testing.T) {
	d := applied(t, write(1, 1, "hb", 'a'), write(2, 1, "mc", 'b'), strike(1, 2, "mc"))
	before := told(d)
	want := list(write(1, 3, "qb", 'b'), strike(1, 4, "hb"))
	got, _ := Undo(d, 1, 2)
	for i := range got[:cap(got)] {
		got[:cap(got)][i] = api.Op{Dot: at(8, 8), Place: "zz"}
	}
	wantUndo(t, d, 1, 2, want)
	wantState(t, d, before)
	// What is done to the Doc later does not change what was told.
	told, _ := Undo(d, 1, 2)
	done(t, d, list(strike(2, 2, "hb"), write(2, 3, "nc", 'x')))
	if !sameOps(told, want) {
		t.Errorf("got %v later, want %v", told, want)
	}
}

// without gives a Doc of ops but for those of an author from a number on. Those
// of others stay as they are.
func without(t *testing.T, ops []api.Op, who, from int) *doc.Doc {
	t.Helper()
	return applied(t, slices.DeleteFunc(slices.Clone(ops), func(o api.Op) bool { return o.Dot.Who == who && o.Dot.N >= from })...)
}

// typed lets an author write at an offset, or strike there what was there ahead
// of all; it tells whether it has done so.
func typed(t *testing.T, d *doc.Doc, r *rand.Rand, who int, old map[string]int) bool {
	t.Helper()
	long := len(d.Text())
	if r.Intn(2) == 0 || long == 0 {
		ops, err := edit.Insert(d, who, r.Intn(long+1), string(rune('a'+r.Intn(26))))
		if err != nil {
			return false
		}
		done(t, d, ops)
		return true
	}
	offset := r.Intn(long)
	ops, err := edit.Delete(d, who, offset, offset+1)
	if err != nil || old[ops[0].Place] == 0 {
		return false
	}
	done(t, d, ops)
	return true
}

// What an author did is taken back while others went on: what is seen is what
// they alone would have made; taken back again, all of it is seen.
func TestUndoThereAndBack(t *testing.T) {
	for seed := range 400 {
		r := rand.New(rand.NewSource(int64(seed)))
		d := doc.New()
		for who := 1; who <= 2; who++ {
			ops, err := edit.Insert(d, who, 0, strings.Repeat("xyz", 1+r.Intn(3)))
			if err != nil {
				t.Fatal(err)
			}
			done(t, d, ops)
		}
		old := map[string]int{}
		for _, leaf := range d.Book() {
			old[leaf.Place] = 1
		}
		from, did := d.Known()[0]+1, 0
		for range 1 + r.Intn(30) {
			if r.Intn(3) > 0 {
				if typed(t, d, r, 1, old) {
					did++
				}
			} else if ops, err := edit.Insert(d, 2, r.Intn(len(d.Text())+1), "Q"); err == nil {
				done(t, d, ops)
			}
		}
		with, plain := d.Text(), without(t, d.Ops(), 1, from).Text()
		for turn := range 4 {
			ops, err := Undo(d, 1, did)
			if err != nil {
				if !errors.Is(err, api.ErrDeep) {
					t.Fatalf("seed %d: %v", seed, err)
				}
				break
			}
			if len(ops) != did {
				t.Fatalf("seed %d: %d ops, want %d", seed, len(ops), did)
			}
			done(t, d, ops)
			want := plain
			if turn%2 == 1 {
				want = with
			}
			if got := d.Text(); got != want {
				t.Fatalf("seed %d, turn %d: seen is %q, want %q", seed, turn, got, want)
			}
		}
	}
}

// TestAllShortPlays: each list of up to four ops of two authors at two places.
func TestAllShortPlays(t *testing.T) {
	var play func(ops []api.Op)
	play = func(ops []api.Op) {
		d := doc.New()
		for _, o := range ops {
			if is, err := d.Apply(o); !is || err != nil {
				t.Fatal(o, is, err)
			}
		}
		for n := range 6 {
			wantAsPlain(t, d, 1, n)
		}
		wantAsPlain(t, d, 2, 3)
		if len(ops) == 4 {
			return
		}
		for who := 1; who <= 2; who++ {
			n := d.Known()[who-1] + 1
			for _, p := range []string{"hb", "hbb"} {
				play(append(slices.Clone(ops), write(who, n, p, 'a')))
				play(append(slices.Clone(ops), strike(who, n, p)))
			}
			play(append(slices.Clone(ops), cut(who, n, "hb")))
		}
	}
	play(nil)
}

var pool = []string{
	"bb", "hb", "hc", "hbb", "hnb", "mb", "nzzi", "zb", "zzb", "abb", "yzb", deepest, "zzzzzzzzzzzi", "zzzzzzzzzzyb",
	"bbbbbbbbbbbb", "bbbbbbbbbbbc", "hbab", "hbac",
}

// TestPlays: ops of three authors, among them what is taken back, at places that
// meet often.
func TestPlays(t *testing.T) {
	for seed := range 600 {
		r := rand.New(rand.NewSource(int64(seed)))
		d := doc.New()
		for range 5 + r.Intn(60) {
			who := 1 + r.Intn(3)
			n, p := d.Known()[who-1]+1, pool[r.Intn(len(pool))]
			switch r.Intn(10) {
			case 0:
				d.Apply(cut(who, n, p))
			case 1:
				d.Apply(join(who, n, p, at(1+r.Intn(8), 1+r.Intn(9))))
			case 2, 3, 4:
				d.Apply(strike(who, n, p))
			case 5:
				if ops, err := Undo(d, who, r.Intn(4)); err == nil {
					done(t, d, ops)
				}
			default:
				// A place has mostly the same letter, so that it is written twice.
				letter := 'a' + len(p)
				if r.Intn(8) == 0 {
					letter++
				}
				d.Apply(write(who, n, p, letter))
			}
			if r.Intn(6) == 0 {
				wantAsPlain(t, d, r.Intn(10), r.Intn(8))
			}
		}
		for who := range 5 {
			for _, n := range []int{0, 1, 2, 5, 200, 201} {
				wantAsPlain(t, d, who, n)
			}
		}
	}
}
