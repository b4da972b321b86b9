package doc

import (
	"errors"
	"fmt"
	"maps"
	"math"
	"math/rand"
	"reflect"
	"slices"
	"strings"
	"testing"

	"leafbinder/api"
	"leafbinder/book"
	"leafbinder/dot"
	"leafbinder/marks"
)

const tooLong = "zzzzzzzzzzzzb"

func at(who, n int) api.Dot { return api.Dot{Who: who, N: n} }

func write(d api.Dot, p string, letter int) api.Op {
	return api.Op{Dot: d, What: api.Write, Place: p, Letter: letter}
}

func strike(d api.Dot, p string) api.Op { return api.Op{Dot: d, What: api.Strike, Place: p} }

func cut(d api.Dot, p string) api.Op { return api.Op{Dot: d, What: api.Cut, Place: p} }

func join(d api.Dot, p string, seen ...api.Dot) api.Op {
	return api.Op{Dot: d, What: api.Join, Place: p, Seen: seen}
}

// state is all that a Doc tells.
type state struct {
	book  []api.Leaf
	marks []api.Mark
	text  string
	known []int
	ops   []api.Op
}

// told is a copy, whatever the Doc hands out.
func told(d *Doc) state {
	s := state{slices.Clone(d.Book()), slices.Clone(d.Marks()), d.Text(), slices.Clone(d.Known()), slices.Clone(d.Ops())}
	for i := range s.ops {
		s.ops[i].Seen = slices.Clone(s.ops[i].Seen)
	}
	return s
}

func sameOp(a, b api.Op) bool {
	seen := slices.Equal(a.Seen, b.Seen)
	a.Seen, b.Seen = nil, nil
	return seen && reflect.DeepEqual(a, b)
}

func same(a, b state) bool {
	return slices.Equal(a.book, b.book) && slices.Equal(a.marks, b.marks) && a.text == b.text &&
		slices.Equal(a.known, b.known) && slices.EqualFunc(a.ops, b.ops, sameOp)
}

func wantState(t *testing.T, d *Doc, want state, why string) {
	t.Helper()
	if got := told(d); !same(got, want) {
		t.Errorf("%s: got %v, want %v", why, got, want)
	}
}

// applied gives a Doc to which ops were applied that must all be new to it.
func applied(t *testing.T, ops ...api.Op) *Doc {
	t.Helper()
	d := New()
	for _, o := range ops {
		wantApplied(t, d, o)
	}
	return d
}

// wantWould asks ahead of an Apply what it would answer, and that asking changes
// nothing.
func wantWould(t *testing.T, d *Doc, o api.Op, want bool, wantErr api.Errno) {
	t.Helper()
	ahead, kept := told(d), maps.Clone(d.joined)
	is, err := d.Would(o)
	var got api.Errno
	if is != want || (err != nil) != (wantErr != api.OK) || (err != nil && !errors.As(err, &got)) || got != wantErr {
		t.Errorf("Would(%v): got %v, %v, want %v, %v", o, is, err, want, wantErr)
	}
	wantState(t, d, ahead, fmt.Sprint("after it was asked of ", o))
	if !reflect.DeepEqual(d.joined, kept) {
		t.Errorf("after it was asked of %v it keeps %v, not %v", o, d.joined, kept)
	}
}

func wantApplied(t *testing.T, d *Doc, o api.Op) {
	t.Helper()
	wantWould(t, d, o, true, api.OK)
	if is, err := d.Apply(o); !is || err != nil {
		t.Fatalf("Apply(%v): got %v, %v, want true and no error", o, is, err)
	}
}

func wantKnown(t *testing.T, d *Doc, o api.Op) {
	t.Helper()
	wantWould(t, d, o, false, api.OK)
	ahead := told(d)
	if is, err := d.Apply(o); is || err != nil {
		t.Errorf("Apply(%v): got %v, %v, want false and no error", o, is, err)
	}
	wantState(t, d, ahead, fmt.Sprint("after the known ", o))
}

func wantRefused(t *testing.T, d *Doc, o api.Op, want api.Errno) {
	t.Helper()
	wantWould(t, d, o, false, want)
	ahead := told(d)
	is, err := d.Apply(o)
	var got api.Errno
	if is || !errors.As(err, &got) || got != want {
		t.Errorf("Apply(%v): got %v, %v, want false, %v", o, is, err, want)
	}
	wantState(t, d, ahead, fmt.Sprint("after the refused ", o))
}

func wantMarks(t *testing.T, d *Doc, want ...api.Mark) {
	t.Helper()
	if got := d.Marks(); !slices.Equal(got, want) {
		t.Errorf("Marks: got %v, want %v", got, want)
	}
}

func wantText(t *testing.T, d *Doc, want string) {
	t.Helper()
	if got := d.Text(); got != want {
		t.Errorf("Text: got %q, want %q", got, want)
	}
}

// numbered gives so many places.
func numbered(n int) []string {
	var l []string
	for i := range n {
		l = append(l, string([]byte{byte('b' + i/20), byte('b' + i%20), 'b'}))
	}
	return l
}

func TestNewDoc(t *testing.T) {
	d := New()
	wantState(t, d, state{known: make([]int, 8)}, "a new one")
	if err := dot.Vector(d.Known()); err != nil {
		t.Errorf("Known of a new one: %v", err)
	}
	wantApplied(t, d, write(at(1, 1), "hb", 'a'))
	wantState(t, New(), state{known: make([]int, 8)}, "a new one beside another")
}

func TestApplyInTurn(t *testing.T) {
	ops := []api.Op{
		write(at(2, 1), "mc", 'c'),
		write(at(1, 1), "hb", 'a'),
		write(at(3, 1), "id", 'b'),
		cut(at(1, 2), "mc"),
		cut(at(3, 2), "mc"),
		strike(at(2, 2), "hb"),
		cut(at(8, 1), "hb"),
		join(at(2, 3), "mc", at(1, 2)),
	}
	leafs := []api.Leaf{{Place: "hb", Letter: 'a', Struck: true}, {Place: "id", Letter: 'b'}, {Place: "mc", Letter: 'c'}}
	cuts := []api.Mark{{Place: "hb", Dot: at(8, 1)}, {Place: "mc", Dot: at(3, 2)}}
	want := state{leafs, cuts, "bc", []int{2, 3, 2, 0, 0, 0, 0, 1}, ops}
	wantState(t, applied(t, ops...), want, "ops of each kind")

	d := New()
	for i, text := range []string{"c", "ac", "abc", "abc", "abc", "bc", "bc", "bc"} {
		wantApplied(t, d, ops[i])
		wantText(t, d, text)
		if n := len(d.Ops()); n != i+1 {
			t.Errorf("%d ops after %d of them", n, i+1)
		}
	}
}

type wrongOp struct {
	o    api.Op
	want api.Errno
}

// wrongOps are refused by chapter 5's Check, by each of its errors.
func wrongOps(d api.Dot) []wrongOp {
	many := make([]api.Dot, 41)
	for i := range many {
		many[i] = at(1, i+1)
	}
	return []wrongOp{
		{api.Op{Dot: d}, api.ErrRange},
		{api.Op{Dot: d, What: 5, Place: "hb"}, api.ErrRange},
		{api.Op{Dot: d, What: -1, Place: "hb"}, api.ErrRange},
		{api.Op{Dot: d, What: math.MaxInt, Place: "hb", Letter: 'a'}, api.ErrRange},
		{write(d, "", 'a'), api.ErrSyntax},
		{write(d, "ha", 'a'), api.ErrSyntax},
		{strike(d, "h\xffb"), api.ErrSyntax},
		{cut(d, tooLong), api.ErrFull},
		{join(d, strings.Repeat("?", 1000)), api.ErrFull},
		{write(d, "hb", 0), api.ErrRange},
		{write(d, "hb", 31), api.ErrRange},
		{write(d, "hb", 127), api.ErrRange},
		{write(d, "hb", math.MinInt), api.ErrRange},
		{api.Op{Dot: d, What: api.Strike, Place: "hb", Letter: 'a'}, api.ErrShape},
		{api.Op{Dot: d, What: api.Cut, Place: "hb", Letter: -1}, api.ErrShape},
		{api.Op{Dot: d, What: api.Join, Place: "hb", Letter: 'a'}, api.ErrShape},
		{join(d, "hb", many...), api.ErrFull},
		{join(d, "hb", at(9, 1)), api.ErrRange},
		{join(d, "hb", at(1, 10000)), api.ErrRange},
		{join(d, "hb", at(2, 1), at(1, 1)), api.ErrClash},
		{join(d, "hb", at(2, 1), at(2, 1)), api.ErrClash},
		{api.Op{Dot: d, What: api.Write, Place: "hb", Letter: 'a', Seen: []api.Dot{at(1, 1)}}, api.ErrShape},
		{api.Op{Dot: d, What: api.Strike, Place: "hb", Seen: []api.Dot{at(1, 1)}}, api.ErrShape},
		{api.Op{Dot: d, What: api.Cut, Place: "hb", Seen: []api.Dot{at(1, 1)}}, api.ErrShape},
	}
}

var wrongDots = []api.Dot{
	{},
	{Who: 0, N: 1},
	{Who: 9, N: 1},
	{Who: -1, N: 1},
	{Who: 1, N: 0},
	{Who: 1, N: -1},
	{Who: 1, N: 10000},
	{Who: math.MinInt, N: math.MinInt},
	{Who: math.MaxInt, N: math.MaxInt},
}

func TestWrongOpsAreRefused(t *testing.T) {
	docs := []*Doc{New(), applied(t, write(at(1, 1), "hb", 'x'), cut(at(1, 2), "hb"), strike(at(2, 1), "mc")), full(t)}
	// The next one, ones that are known (but to the first Doc), and one of which
	// the one ahead is not.
	dots := []api.Dot{at(3, 1), at(1, 1), at(1, 2), at(2, 1), at(4, 2), at(8, 9999)}
	for _, d := range docs {
		for _, one := range dots {
			for _, c := range wrongOps(one) {
				wantRefused(t, d, c.o, c.want)
			}
		}
		for _, one := range wrongDots {
			wantRefused(t, d, write(one, "hb", 'x'), api.ErrRange)
			wantRefused(t, d, strike(one, "hb"), api.ErrRange)
			wantRefused(t, d, cut(one, tooLong), api.ErrRange)
			wantRefused(t, d, join(one, ""), api.ErrRange)
		}
	}
}

func TestOpThatIsKnown(t *testing.T) {
	ops := []api.Op{
		write(at(1, 1), "hb", 'a'),
		strike(at(2, 1), "mc"),
		cut(at(1, 2), "hb"),
		cut(at(3, 1), "mc"),
		join(at(2, 2), "mc", at(3, 1), at(3, 2)),
	}
	d := applied(t, ops...)
	for _, o := range ops {
		wantKnown(t, d, o)
		for _, other := range []api.Op{
			write(o.Dot, "hb", 'a'),
			write(o.Dot, "hb", 'z'), // another letter is there
			write(o.Dot, "id", 'b'),
			strike(o.Dot, "hb"),
			strike(o.Dot, "nd"),
			cut(o.Dot, "id"),
			cut(o.Dot, "mc"),
			join(o.Dot, "hb", at(1, 2)),
			join(o.Dot, "hb"),
		} {
			wantKnown(t, d, other)
		}
	}
	// What a join that was known already would have seen is not joined.
	wantKnown(t, d, join(at(1, 1), "zb", at(4, 1)))
	wantApplied(t, d, cut(at(4, 1), "zb"))
	wantMarks(t, d, api.Mark{Place: "hb", Dot: at(1, 2)}, api.Mark{Place: "zb", Dot: at(4, 1)})
}

func TestOneAheadMustBeKnown(t *testing.T) {
	d := New()
	for who := 1; who <= api.MaxWho; who++ {
		for _, n := range []int{2, 3, 400, 401, 9999} {
			wantRefused(t, d, write(at(who, n), "hb", 'a'), api.ErrState)
		}
		wantApplied(t, d, strike(at(who, 1), "hb"))
		for _, n := range []int{3, 4, 9999} {
			wantRefused(t, d, cut(at(who, n), "hb"), api.ErrState)
			wantRefused(t, d, join(at(who, n), "hb", at(who, 2)), api.ErrState)
			wantRefused(t, d, strike(at(who, n), "hb"), api.ErrState)
		}
		wantApplied(t, d, cut(at(who, 2), "hb"))
	}
	want := make([]int, api.MaxWho)
	for i := range want {
		want[i] = 2
	}
	if got := d.Known(); !slices.Equal(got, want) {
		t.Errorf("Known: got %v, want %v", got, want)
	}
	if n := len(d.Marks()); n != api.MaxWho {
		t.Errorf("%d marks, want %d: none was joined", n, api.MaxWho)
	}
}

func TestOneAheadIsAskedAheadOfTheBook(t *testing.T) {
	d := applied(t, write(at(1, 1), "hb", 'a'))
	wantRefused(t, d, write(at(2, 2), "hb", 'b'), api.ErrState)
	wantRefused(t, d, write(at(2, 1), "hb", 'b'), api.ErrClash)
}

// full gives a Doc that knows 400 ops: author 1's letter at hb, and what others
// did; of author 8 it knows none.
func full(t *testing.T) *Doc {
	t.Helper()
	d := applied(t, write(at(1, 1), "hb", 'a'))
	for i := range api.MaxOps - 1 {
		who := 2 + i%6
		wantApplied(t, d, strike(at(who, 1+i/6), "mb"))
	}
	return d
}

func TestFullDoc(t *testing.T) {
	d := full(t)
	if n := len(d.Ops()); n != api.MaxOps {
		t.Fatalf("%d ops are known, want %d", n, api.MaxOps)
	}
	wantKnown(t, d, write(at(1, 1), "hb", 'a'))
	wantKnown(t, d, write(at(1, 1), "hb", 'b'))
	wantKnown(t, d, strike(at(2, 5), "mb"))
	wantRefused(t, d, write(at(8, 1), "hb", 'a'), api.ErrFull)
	wantRefused(t, d, write(at(8, 1), "hb", 'b'), api.ErrFull) // ahead of another letter there
	wantRefused(t, d, strike(at(1, 2), "hb"), api.ErrFull)
	wantRefused(t, d, cut(at(1, 2), "hb"), api.ErrFull)
	wantRefused(t, d, join(at(1, 2), "hb"), api.ErrFull)
	wantRefused(t, d, write(at(8, 2), "hb", 'a'), api.ErrState) // the one ahead is asked first
	wantRefused(t, d, write(at(1, 401), "hb", 'a'), api.ErrState)
	wantRefused(t, d, write(at(8, 1), "hb", 0), api.ErrRange)
}

func TestFourHundredthOp(t *testing.T) {
	d := New()
	for i := range api.MaxOps {
		wantApplied(t, d, join(at(5, i+1), "hb"))
	}
	wantKnown(t, d, join(at(5, api.MaxOps), "hb"))
	wantRefused(t, d, join(at(5, api.MaxOps+1), "hb"), api.ErrFull)
	wantRefused(t, d, join(at(5, api.MaxOps+2), "hb"), api.ErrState)
}

func TestLetterThatClashes(t *testing.T) {
	d := applied(t, write(at(1, 1), "hb", 'a'), strike(at(2, 1), "mb"), write(at(2, 2), "mb", 'b'))
	wantRefused(t, d, write(at(3, 1), "hb", 'b'), api.ErrClash)
	wantRefused(t, d, write(at(3, 1), "mb", 'a'), api.ErrClash) // also of a leaf that is struck
	wantRefused(t, d, write(at(1, 2), "hb", 'b'), api.ErrClash)
	wantRefused(t, d, strike(at(3, 2), "hb"), api.ErrState) // the first one is not known then
	wantApplied(t, d, write(at(3, 1), "hb", 'a'))
	wantText(t, d, "a")
}

func TestFullBook(t *testing.T) {
	d := New()
	for i, p := range numbered(api.MaxLeafs) {
		if i%2 == 0 {
			wantApplied(t, d, write(at(1, 1+i/2), p, 'a'))
		} else {
			wantApplied(t, d, strike(at(2, 1+i/2), p))
		}
	}
	half := api.MaxLeafs / 2
	wantRefused(t, d, write(at(1, half+1), "zzb", 'a'), api.ErrFull)
	wantRefused(t, d, strike(at(1, half+1), "zzb"), api.ErrFull)
	wantRefused(t, d, strike(at(3, 1), "zzb"), api.ErrFull)
	wantApplied(t, d, strike(at(1, half+1), "bbb"))
	wantApplied(t, d, write(at(2, half+1), "bcb", 'b'))
	wantApplied(t, d, cut(at(3, 1), "zzb"))
	wantMarks(t, d, api.Mark{Place: "zzb", Dot: at(3, 1)})
}

func TestFullMarks(t *testing.T) {
	d := applied(t, join(at(2, 1), "hb", at(3, 1), at(3, 2)))
	for i := range api.MaxMarks {
		wantApplied(t, d, cut(at(1, i+1), "hb"))
	}
	wantRefused(t, d, cut(at(1, 41), "hb"), api.ErrFull)
	wantRefused(t, d, cut(at(2, 2), "mb"), api.ErrFull)
	wantRefused(t, d, cut(at(3, 1), "mb"), api.ErrFull) // the join was at hb
	wantApplied(t, d, cut(at(3, 1), "hb"))              // it makes no mark: no room is asked
	wantApplied(t, d, join(at(2, 2), "hb", at(1, 7)))
	wantApplied(t, d, cut(at(1, 41), "mb"))
	if n := len(d.Marks()); n != api.MaxMarks {
		t.Errorf("%d marks, want %d", n, api.MaxMarks)
	}
	wantRefused(t, d, cut(at(1, 42), "mb"), api.ErrFull)
}

// A cut that was refused is not known, so that a join takes it away still when
// it comes once more.
func TestCutThatIsRefusedIsStillJoined(t *testing.T) {
	d := applied(t, join(at(2, 1), "mb", at(3, 1)))
	for i := range api.MaxMarks {
		wantApplied(t, d, cut(at(1, i+1), "hb"))
	}
	wantRefused(t, d, cut(at(3, 1), "hb"), api.ErrFull)
	wantApplied(t, d, cut(at(3, 1), "mb"))
	wantApplied(t, d, join(at(2, 2), "hb", at(1, 1)))
	if n := len(d.Marks()); n != api.MaxMarks-1 {
		t.Errorf("%d marks, want %d", n, api.MaxMarks-1)
	}
}

func TestCutThatComesBehindItsJoin(t *testing.T) {
	d := applied(t, join(at(1, 1), "hb", at(1, 3), at(2, 1), at(2, 2)))
	wantMarks(t, d)
	wantApplied(t, d, cut(at(2, 1), "hb")) // seen
	wantMarks(t, d)
	wantApplied(t, d, cut(at(2, 2), "mb")) // seen, but at another place
	wantMarks(t, d, api.Mark{Place: "mb", Dot: at(2, 2)})
	wantApplied(t, d, cut(at(2, 3), "hb")) // seen by none
	wantApplied(t, d, cut(at(1, 2), "hb")) // seen by none
	wantMarks(t, d, api.Mark{Place: "hb", Dot: at(1, 2)}, api.Mark{Place: "hb", Dot: at(2, 3)}, api.Mark{Place: "mb", Dot: at(2, 2)})
	wantApplied(t, d, cut(at(1, 3), "hb")) // seen by one of its own author's
	wantMarks(t, d, api.Mark{Place: "hb", Dot: at(1, 2)}, api.Mark{Place: "hb", Dot: at(2, 3)}, api.Mark{Place: "mb", Dot: at(2, 2)})
	wantKnown(t, d, cut(at(2, 1), "hb"))
}

func TestCutThatSeveralJoinsSaw(t *testing.T) {
	joins := []api.Op{join(at(1, 1), "hb", at(4, 1)), join(at(2, 1), "mb", at(4, 1)), join(at(3, 1), "hb", at(4, 1))}
	for _, p := range []string{"hb", "mb"} {
		d := applied(t, joins...)
		wantApplied(t, d, cut(at(4, 1), p))
		wantMarks(t, d)
	}
	d := applied(t, joins...)
	wantApplied(t, d, cut(at(4, 1), "qb"))
	wantMarks(t, d, api.Mark{Place: "qb", Dot: at(4, 1)})
}

func TestJoinOfWhatIsThereAndWhatIsNot(t *testing.T) {
	d := applied(t,
		cut(at(1, 1), "hb"), cut(at(1, 2), "hb"), cut(at(2, 1), "hb"), cut(at(2, 2), "mb"),
		join(at(3, 1), "hb", at(1, 1), at(1, 3), at(2, 1), at(2, 2), at(5, 9)))
	stay := []api.Mark{{Place: "hb", Dot: at(1, 2)}, {Place: "mb", Dot: at(2, 2)}}
	wantMarks(t, d, stay...)
	wantApplied(t, d, cut(at(1, 3), "hb"))
	wantMarks(t, d, stay...)
	wantApplied(t, d, join(at(3, 2), "mb"))
	wantApplied(t, d, join(at(3, 3), "qb", at(1, 2)))
	wantMarks(t, d, stay...)
	wantApplied(t, d, join(at(3, 4), "mb", at(2, 2)))
	wantMarks(t, d, stay[0])
}

// Only a cut is joined: a letter whose dot a join saw is there.
func TestJoinThatSawNoCut(t *testing.T) {
	d := applied(t, join(at(1, 1), "hb", at(2, 1), at(2, 2)))
	wantApplied(t, d, write(at(2, 1), "hb", 'a'))
	wantText(t, d, "a")
	wantApplied(t, d, strike(at(2, 2), "hb"))
	wantText(t, d, "")
}

func TestStruckAheadOfBeingWritten(t *testing.T) {
	d := applied(t, strike(at(2, 1), "hb"))
	wantState(t, d, state{book: []api.Leaf{{Place: "hb", Struck: true}}, known: []int{0, 1, 0, 0, 0, 0, 0, 0}, ops: []api.Op{strike(at(2, 1), "hb")}}, "struck")
	wantApplied(t, d, write(at(1, 1), "hb", 'a'))
	if got, want := d.Book(), []api.Leaf{{Place: "hb", Letter: 'a', Struck: true}}; !slices.Equal(got, want) {
		t.Errorf("Book: got %v, want %v", got, want)
	}
	wantText(t, d, "")
	wantApplied(t, d, strike(at(1, 2), "hb"))
	wantApplied(t, d, write(at(3, 1), "hb", 'a'))
	wantRefused(t, d, write(at(3, 2), "hb", 'b'), api.ErrClash)
}

// What a join saw is kept only while it may come.
func TestWhatHasComeIsNotKept(t *testing.T) {
	d := applied(t, cut(at(1, 1), "hb"), join(at(2, 1), "hb", at(1, 1), at(1, 2), at(1, 3), at(2, 1), at(3, 1)))
	wantKept(t, d, at(1, 2), at(1, 3), at(3, 1))
	wantApplied(t, d, join(at(2, 2), "mb", at(1, 2)))
	wantApplied(t, d, join(at(2, 3), "hb", at(1, 2)))
	wantKept(t, d, at(1, 2), at(1, 3), at(3, 1))
	if got := d.joined[at(1, 2)]; !slices.Equal(got, []string{"hb", "mb"}) {
		t.Errorf("joined at %v", got)
	}
	wantApplied(t, d, cut(at(1, 2), "hb"))
	wantApplied(t, d, write(at(1, 3), "hb", 'a'))
	wantKept(t, d, at(3, 1))
	wantApplied(t, d, cut(at(3, 1), "qb"))
	wantKept(t, d)
}

func wantKept(t *testing.T, d *Doc, want ...api.Dot) {
	t.Helper()
	for _, one := range want {
		if len(d.joined[one]) == 0 {
			t.Errorf("%v is not kept", one)
		}
	}
	if len(d.joined) != len(want) {
		t.Errorf("kept: %v, want %v", d.joined, want)
	}
}

// model holds all ops that were applied, and works out anew what they come to.
type model struct{ ops []api.Op }

func (m *model) count(who int) int {
	n := 0
	for _, o := range m.ops {
		if o.Dot.Who == who {
			n++
		}
	}
	return n
}

func (m *model) leafs() []api.Leaf {
	all := map[string]api.Leaf{}
	for _, o := range m.ops {
		leaf := all[o.Place]
		leaf.Place = o.Place
		switch o.What {
		case api.Write:
			leaf.Letter = o.Letter
		case api.Strike:
			leaf.Struck = true
		default:
			continue
		}
		all[o.Place] = leaf
	}
	var l []api.Leaf
	for _, p := range slices.Sorted(maps.Keys(all)) {
		l = append(l, all[p])
	}
	return l
}

func (m *model) isJoined(c api.Op) bool {
	return slices.ContainsFunc(m.ops, func(o api.Op) bool {
		return o.What == api.Join && o.Place == c.Place && slices.Contains(o.Seen, c.Dot)
	})
}

func (m *model) marks() []api.Mark {
	var l []api.Mark
	for _, o := range m.ops {
		if o.What == api.Cut && !m.isJoined(o) {
			l = append(l, api.Mark{Place: o.Place, Dot: o.Dot})
		}
	}
	slices.SortFunc(l, func(a, b api.Mark) int {
		return strings.Compare(fmt.Sprintf("%s %d %04d", a.Place, a.Dot.Who, a.Dot.N), fmt.Sprintf("%s %d %04d", b.Place, b.Dot.Who, b.Dot.N))
	})
	return l
}

func (m *model) state() state {
	s := state{book: m.leafs(), marks: m.marks(), ops: m.ops}
	for _, leaf := range s.book {
		if leaf.Letter != 0 && !leaf.Struck {
			s.text += string(rune(leaf.Letter))
		}
	}
	for who := 1; who <= api.MaxWho; who++ {
		s.known = append(s.known, m.count(who))
	}
	return s
}

// apply of an op that Check finds right.
func (m *model) apply(o api.Op) (bool, api.Errno) {
	switch n := m.count(o.Dot.Who); {
	case o.Dot.N <= n:
		return false, api.OK
	case o.Dot.N > n+1:
		return false, api.ErrState
	case len(m.ops) >= api.MaxOps:
		return false, api.ErrFull
	}
	there := m.leafs()
	i := slices.IndexFunc(there, func(leaf api.Leaf) bool { return leaf.Place == o.Place })
	switch {
	case o.What == api.Write && i >= 0 && there[i].Letter != 0 && there[i].Letter != o.Letter:
		return false, api.ErrClash
	case (o.What == api.Write || o.What == api.Strike) && i < 0 && len(there) >= api.MaxLeafs:
		return false, api.ErrFull
	case o.What == api.Cut && !m.isJoined(o) && len(m.marks()) >= api.MaxMarks:
		return false, api.ErrFull
	}
	m.ops = append(m.ops, o)
	return true, api.OK
}

// anyOp of few places and authors, so that ops meet.
func anyOp(r *rand.Rand, m *model) api.Op {
	who := 1 + r.Intn(4)
	n := max(1, m.count(who)+1-r.Intn(2)*r.Intn(3)+r.Intn(2)*r.Intn(2))
	p := []string{"bb", "hb", "hc", "hnd", "mb", "zze"}[r.Intn(6)]
	switch r.Intn(5) {
	case 0:
		return write(at(who, n), p, 'a'+r.Intn(10)/9)
	case 1:
		return strike(at(who, n), p)
	case 2:
		return join(at(who, n), p, anySeen(r, m)...)
	}
	return cut(at(who, n), p)
}

// anySeen gives dots that rise, some of which are still to come.
func anySeen(r *rand.Rand, m *model) []api.Dot {
	var l []api.Dot
	for who := 1; who <= 4; who++ {
		n := m.count(who)
		for i := max(1, n-4); i <= n+3; i++ {
			if r.Intn(2) == 0 {
				l = append(l, at(who, i))
			}
		}
	}
	return l
}

func TestLongPlay(t *testing.T) {
	for seed := range 30 {
		r := rand.New(rand.NewSource(int64(seed)))
		d, m := New(), &model{}
		for range 250 {
			o := anyOp(r, m)
			wantIs, wantErr := m.apply(o)
			wantWould(t, d, o, wantIs, wantErr)
			is, err := d.Apply(o)
			var got api.Errno
			if err != nil && !errors.As(err, &got) {
				t.Fatalf("seed %d: %v: error %v", seed, o, err)
			}
			if is != wantIs || got != wantErr {
				t.Fatalf("seed %d: Apply(%v): got %v, %v, want %v, %v", seed, o, is, got, wantIs, wantErr)
			}
			if now, want := told(d), m.state(); !same(now, want) {
				t.Fatalf("seed %d: after %v: got %v, want %v", seed, o, now, want)
			}
		}
		wantRight(t, d)
	}
}

func wantRight(t *testing.T, d *Doc) {
	t.Helper()
	if err := errors.Join(book.Check(d.Book()), marks.Check(d.Marks()), dot.Vector(d.Known())); err != nil {
		t.Errorf("what is told is not right: %v", err)
	}
}

// played gives what four authors did, each with a letter of its own at a place
// of its own, strikes, cuts and joins of what the others did, too.
func played(r *rand.Rand) []api.Op {
	var l []api.Op
	m := &model{}
	for range 60 {
		o := anyOp(r, m)
		o.Dot.N = m.count(o.Dot.Who) + 1
		if o.What == api.Write {
			o.Letter = int(o.Place[0]) // whoever writes there writes this one
		}
		if is, _ := m.apply(o); is {
			l = append(l, o)
		}
	}
	return l
}

// shuffled gives the ops in another order, in which each author's stay in
// theirs, some of them twice.
func shuffled(r *rand.Rand, l []api.Op) []api.Op {
	of := map[int][]api.Op{}
	for _, o := range l {
		of[o.Dot.Who] = append(of[o.Dot.Who], o)
	}
	var out []api.Op
	for len(of) > 0 {
		whos := slices.Sorted(maps.Keys(of))
		who := whos[r.Intn(len(whos))]
		out = append(out, of[who][0])
		if r.Intn(4) == 0 {
			out = append(out, out[r.Intn(len(out))])
		}
		of[who] = of[who][1:]
		if len(of[who]) == 0 {
			delete(of, who)
		}
	}
	return out
}

func TestInWhicheverOrderAllComeToTheSame(t *testing.T) {
	for seed := range 40 {
		r := rand.New(rand.NewSource(int64(seed)))
		l := played(r)
		want := told(applied(t, l...))
		for range 10 {
			d := New()
			for _, o := range shuffled(r, l) {
				if _, err := d.Apply(o); err != nil {
					t.Fatalf("seed %d: Apply(%v): %v", seed, o, err)
				}
			}
			got := told(d)
			if len(got.ops) != len(want.ops) {
				t.Errorf("seed %d: %d ops, want %d", seed, len(got.ops), len(want.ops))
			}
			got.ops = want.ops // they came in another order
			if !same(got, want) {
				t.Fatalf("seed %d: got %v, want %v", seed, got, want)
			}
		}
	}
}

// Ops come as they came: another Doc to which they are applied is the same.
func TestOpsMakeTheSameDoc(t *testing.T) {
	for seed := range 10 {
		d := applied(t, played(rand.New(rand.NewSource(int64(seed))))...)
		wantState(t, applied(t, d.Ops()...), told(d), "made of its ops")
	}
}

func TestNothingHandedInIsKept(t *testing.T) {
	memory := []api.Dot{at(2, 1), at(2, 2), at(3, 3)}
	seen := memory[:2]
	o := join(at(1, 1), "hb", seen...)
	d := applied(t, o)
	want := told(d)
	if !slices.Equal(memory, []api.Dot{at(2, 1), at(2, 2), at(3, 3)}) {
		t.Errorf("what was handed in is now %v", memory)
	}
	for i := range memory {
		memory[i] = at(7, 7)
	}
	wantState(t, d, want, "what was handed in is another one now")
	wantApplied(t, d, cut(at(2, 1), "hb"))
	wantMarks(t, d)
	wantApplied(t, d, cut(at(3, 1), "hb"))
	wantMarks(t, d, api.Mark{Place: "hb", Dot: at(3, 1)})
}

// What lies behind an empty list is not kept either.
func TestEmptyListIsNotKept(t *testing.T) {
	memory := []api.Dot{at(2, 1)}
	for _, o := range []api.Op{join(at(1, 1), "hb", memory[:0]...), {Dot: at(1, 1), What: api.Cut, Place: "hb", Seen: memory[:0]}} {
		d := applied(t, o)
		got := d.Ops()[0].Seen
		if cap(got) > 0 {
			t.Errorf("%v: room behind what was seen", o)
		}
		_ = append(got, at(7, 7))
		if memory[0] != at(2, 1) {
			t.Errorf("%v: what was handed in is written into", o)
		}
	}
}

// spoil all that a Doc tells, also what lies behind.
func spoil(d *Doc) {
	leafs := d.Book()
	for i := range leafs[:cap(leafs)] {
		leafs[:cap(leafs)][i] = api.Leaf{Place: "zb", Letter: 'z'}
	}
	cuts := d.Marks()
	for i := range cuts[:cap(cuts)] {
		cuts[:cap(cuts)][i] = api.Mark{Place: "zb", Dot: at(7, 7)}
	}
	known := d.Known()
	for i := range known[:cap(known)] {
		known[:cap(known)][i] = 77
	}
	ops := d.Ops()
	for i := range ops {
		seen := ops[i].Seen
		for k := range seen[:cap(seen)] {
			seen[:cap(seen)][k] = at(7, 7)
		}
	}
	for i := range ops[:cap(ops)] {
		ops[:cap(ops)][i] = strike(at(7, 7), "zb")
	}
}

func TestWhatIsGivenOutDoesNotChangeADoc(t *testing.T) {
	d := New()
	for _, o := range played(rand.New(rand.NewSource(1))) {
		wantApplied(t, d, o)
		ahead := told(d)
		spoil(d)
		wantState(t, d, ahead, fmt.Sprint("what was told after ", o, " is spoilt"))
	}
}

func TestADocDoesNotChangeWhatIsGivenOut(t *testing.T) {
	l := played(rand.New(rand.NewSource(2)))
	d := New()
	var given, copies []state
	for _, o := range l {
		wantApplied(t, d, o)
		copies = append(copies, told(d))
		given = append(given, state{d.Book(), d.Marks(), d.Text(), d.Known(), d.Ops()})
	}
	for i := range given {
		if !same(given[i], copies[i]) {
			t.Errorf("what was told after %d ops is now %v, was %v", i+1, given[i], copies[i])
		}
	}
}

// Two calls give out lists of their own.
func TestCallsShareNoMemory(t *testing.T) {
	d := applied(t, write(at(1, 1), "hb", 'a'), cut(at(1, 2), "hb"), join(at(1, 3), "mb", at(1, 2), at(2, 1)), join(at(1, 4), "mb", at(1, 2), at(2, 1)))
	given := state{d.Book(), d.Marks(), d.Text(), d.Known(), d.Ops()}
	want := told(d)
	spoil(d)
	if !same(given, want) {
		t.Errorf("what was told is now %v, was %v", given, want)
	}
	ops := d.Ops()
	ops[2].Seen[0] = at(7, 7)
	_ = append(ops[2].Seen, at(7, 7))
	if !sameOp(ops[3], want.ops[3]) {
		t.Errorf("one op's list is another's: %v", ops[3])
	}
}

// Docs beside each other have nothing in common.
func TestDocsBesideEachOther(t *testing.T) {
	l := played(rand.New(rand.NewSource(3)))
	a := applied(t, l...)
	b := applied(t, a.Ops()...)
	want := told(a)
	next := b.Known()[4] + 1
	wantApplied(t, b, write(at(5, next), "qf", 'q'))
	wantApplied(t, b, strike(at(5, next+1), "bb"))
	wantApplied(t, b, cut(at(5, next+2), "qf"))
	wantState(t, a, want, "another one was changed")
}
