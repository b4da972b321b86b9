package sync

import (
	"errors"
	"fmt"
	"math"
	"math/rand"
	"reflect"
	"slices"
	"strings"
	"testing"

	"leafbinder/api"
	"leafbinder/doc"
	"leafbinder/op"
)

const (
	tooLong = "zzzzzzzzzzzzb"
	nothing = "\x00\x00" // a parcel of no ops
)

func at(who, n int) api.Dot { return api.Dot{Who: who, N: n} }

func write(d api.Dot, p string, letter int) api.Op {
	return api.Op{Dot: d, What: api.Write, Place: p, Letter: letter}
}

func strike(d api.Dot, p string) api.Op { return api.Op{Dot: d, What: api.Strike, Place: p} }

func cut(d api.Dot, p string) api.Op { return api.Op{Dot: d, What: api.Cut, Place: p} }

func join(d api.Dot, p string, seen ...api.Dot) api.Op {
	return api.Op{Dot: d, What: api.Join, Place: p, Seen: seen}
}

// vector that knows so many of the first authors, and none of the others.
func vector(known ...int) []int {
	v := make([]int, api.MaxWho)
	copy(v, known)
	return v
}

// state is all that a Doc tells.
type state struct {
	book  []api.Leaf
	marks []api.Mark
	text  string
	known []int
	ops   []api.Op
}

func told(d *doc.Doc) state { return state{d.Book(), d.Marks(), d.Text(), d.Known(), d.Ops()} }

func sameOp(a, b api.Op) bool {
	seen := slices.Equal(a.Seen, b.Seen)
	a.Seen, b.Seen = nil, nil
	return seen && reflect.DeepEqual(a, b)
}

func sameOps(a, b []api.Op) bool { return slices.EqualFunc(a, b, sameOp) }

func copyOps(l []api.Op) []api.Op {
	all := slices.Clone(l)
	for i := range all {
		all[i].Seen = slices.Clone(all[i].Seen)
	}
	return all
}

// sameBook: do two have the same, but for the order in which it came?
func sameBook(a, b state) bool {
	return slices.Equal(a.book, b.book) && slices.Equal(a.marks, b.marks) && a.text == b.text && slices.Equal(a.known, b.known)
}

func wantState(t *testing.T, d *doc.Doc, want state, why string) {
	t.Helper()
	if got := told(d); !sameBook(got, want) || !sameOps(got.ops, want.ops) {
		t.Errorf("%s: got %v, want %v", why, got, want)
	}
}

// wantOps of a Doc, and what comes of them.
func wantOps(t *testing.T, d *doc.Doc, want ...api.Op) {
	t.Helper()
	wantState(t, d, told(applied(t, want...)), "what a Doc has")
}

func wantErrno(t *testing.T, err error, want api.Errno, why ...any) {
	t.Helper()
	var got api.Errno
	if !errors.As(err, &got) || got != want {
		t.Errorf("%v: error %v, want %v", why, err, want)
	}
}

// applied gives a Doc to which ops were applied that must all be new to it.
func applied(t *testing.T, ops ...api.Op) *doc.Doc {
	t.Helper()
	d := doc.New()
	for _, o := range ops {
		if is, err := d.Apply(o); !is || err != nil {
			t.Fatalf("Apply(%v): got %v, %v, want true and no error", o, is, err)
		}
	}
	return d
}

func packed(t *testing.T, ops ...api.Op) string {
	t.Helper()
	b, err := op.Pack(ops)
	if err != nil {
		t.Fatalf("Pack(%v): %v", ops, err)
	}
	return b
}

// row gives what an author writes, letter by letter, from its first op on.
func row(who int, text string) []api.Op {
	var l []api.Op
	for i := range len(text) {
		p := string([]byte{byte('b' + i/20), byte('b' + i%20), byte('a' + who)})
		l = append(l, write(at(who, i+1), p, int(text[i])))
	}
	return l
}

// strikes gives an author's first ops, so many, all at one place.
func strikes(who, n int) []api.Op {
	var l []api.Op
	for i := range n {
		l = append(l, strike(at(who, i+1), "hb"))
	}
	return l
}

// cuts gives an author's first ops, so many, all at one place.
func cuts(who, n int) []api.Op {
	var l []api.Op
	for i := range n {
		l = append(l, cut(at(who, i+1), "hb"))
	}
	return l
}

type wrongVector struct {
	v    []int
	want api.Errno
}

// wrongVectors by each of chapter 2's faults.
func wrongVectors() []wrongVector {
	l := []wrongVector{
		{nil, api.ErrShape},
		{[]int{}, api.ErrShape},
		{[]int{1}, api.ErrShape},
		{make([]int, 7), api.ErrShape},
		{make([]int, 7, 8), api.ErrShape},
		{make([]int, 9), api.ErrShape},
		{make([]int, 1000), api.ErrShape},
		{[]int{-1, 0, 0, 0, 0, 0, 0}, api.ErrShape},
		{[]int{0, 0, 0, 0, 0, 0, 0, 0, 10000}, api.ErrShape},
	}
	for i := range api.MaxWho {
		for _, n := range []int{-1, 10000, math.MinInt, math.MaxInt} {
			v := vector()
			v[i] = n
			l = append(l, wrongVector{v, api.ErrRange})
		}
	}
	return l
}

type wrongOp struct {
	o    api.Op
	want api.Errno
}

// wrongOps are refused by chapter 5's Check, by each of its errors, in the order
// in which the chapter names them.
func wrongOps(d api.Dot) []wrongOp {
	many := make([]api.Dot, 41)
	for i := range many {
		many[i] = at(1, i+1)
	}
	l := []wrongOp{
		{api.Op{Dot: d}, api.ErrRange},
		{api.Op{Dot: d, What: 5, Place: "hb"}, api.ErrRange},
		{api.Op{Dot: d, What: -1, Place: "hb"}, api.ErrRange},
		{api.Op{Dot: d, What: math.MaxInt, Place: tooLong, Letter: 'a'}, api.ErrRange},
		{write(d, "", 'a'), api.ErrSyntax},
		{write(d, "ha", 'a'), api.ErrSyntax},
		{strike(d, "h\xffb"), api.ErrSyntax},
		{cut(d, tooLong), api.ErrFull},
		{join(d, strings.Repeat("?", 1000)), api.ErrFull},
		{write(d, "hb", 0), api.ErrRange},
		{write(d, "hb", 31), api.ErrRange},
		{write(d, "hb", 127), api.ErrRange},
		{write(d, "hb", math.MinInt), api.ErrRange},
		{api.Op{Dot: d, What: api.Strike, Place: "hb", Letter: 'a'}, api.ErrShape},
		{api.Op{Dot: d, What: api.Cut, Place: "hb", Letter: -1}, api.ErrShape},
		{api.Op{Dot: d, What: api.Join, Place: "hb", Letter: 'a'}, api.ErrShape},
		{join(d, "hb", many...), api.ErrFull},
		{join(d, "hb", at(9, 1)), api.ErrRange},
		{join(d, "hb", at(1, 10000)), api.ErrRange},
		{join(d, "hb", at(2, 1), at(1, 1)), api.ErrClash},
		{join(d, "hb", at(2, 1), at(2, 1)), api.ErrClash},
		{api.Op{Dot: d, What: api.Write, Place: "hb", Letter: 'a', Seen: []api.Dot{at(1, 1)}}, api.ErrShape},
		{api.Op{Dot: d, What: api.Strike, Place: "hb", Seen: []api.Dot{at(1, 1)}}, api.ErrShape},
		{api.Op{Dot: d, What: api.Cut, Place: "hb", Seen: []api.Dot{at(1, 1)}}, api.ErrShape},
	}
	for _, one := range []api.Dot{
		{}, at(0, 1), at(9, 1), at(-1, 1), at(1, 0), at(1, -1), at(1, 10000),
		at(math.MinInt, math.MinInt), at(math.MaxInt, math.MaxInt), at(8, math.MaxInt),
	} {
		l = append(l, wrongOp{write(one, "hb", 'a'), api.ErrRange}, wrongOp{cut(one, tooLong), api.ErrRange})
	}
	return l
}

func wantLacks(t *testing.T, l []api.Op, v []int, want ...api.Op) {
	t.Helper()
	ops, numbers := copyOps(l), slices.Clone(v)
	got, err := Lacks(l, v)
	if err != nil || !sameOps(got, want) {
		t.Errorf("Lacks(%v, %v): got %v, %v, want %v", l, v, got, err, want)
	}
	if !sameOps(l, ops) || !slices.Equal(v, numbers) {
		t.Errorf("Lacks: what was handed in is now %v, %v, and was %v, %v", l, v, ops, numbers)
	}
}

func wantNoLacks(t *testing.T, l []api.Op, v []int, want api.Errno) {
	t.Helper()
	got, err := Lacks(l, v)
	wantErrno(t, err, want, "Lacks", len(l), v)
	if len(got) != 0 {
		t.Errorf("Lacks gives %v with an error", got)
	}
}

func TestLacksOfNoOps(t *testing.T) {
	for _, v := range [][]int{vector(), vector(1), vector(0, 9999), {9999, 9999, 9999, 9999, 9999, 9999, 9999, 9999}} {
		wantLacks(t, nil, v)
		wantLacks(t, []api.Op{}, v)
	}
}

func TestLacksNoneSomeAll(t *testing.T) {
	l := []api.Op{
		write(at(1, 1), "hb", 'a'), write(at(1, 2), "mb", 'b'), strike(at(2, 1), "hb"),
		cut(at(1, 3), "mb"), join(at(8, 1), "mb", at(1, 3), at(2, 9)), join(at(8, 2), "hb"),
	}
	wantLacks(t, l, vector(), l...)
	wantLacks(t, l, vector(0, 0, 9999, 9999, 9999, 9999, 9999), l...)
	wantLacks(t, l, vector(1), l[1:]...)
	wantLacks(t, l, vector(2), l[2:]...)
	wantLacks(t, l, vector(3), l[2], l[4], l[5])
	wantLacks(t, l, vector(9999), l[2], l[4], l[5])
	wantLacks(t, l, vector(2, 1), l[3:]...)
	wantLacks(t, l, vector(0, 1, 0, 0, 0, 0, 0, 1), l[0], l[1], l[3], l[5])
	wantLacks(t, l, vector(2, 1, 0, 0, 0, 0, 0, 2), l[3])
	wantLacks(t, l, vector(3, 1, 0, 0, 0, 0, 0, 2))
	wantLacks(t, l, vector(4, 2, 1, 1, 1, 1, 1, 3))
	wantLacks(t, l, vector(9999, 9999, 9999, 9999, 9999, 9999, 9999, 9999))
}

// Of each author the number in its own place tells, up to the last one that may be.
func TestLacksByAuthor(t *testing.T) {
	for who := 1; who <= api.MaxWho; who++ {
		for _, n := range []int{1, 2, 255, 256, 9998, 9999} {
			l := []api.Op{strike(at(who, n), "hb")}
			v := []int{9999, 9999, 9999, 9999, 9999, 9999, 9999, 9999}
			wantLacks(t, l, v)
			v[who-1] = n
			wantLacks(t, l, v)
			v[who-1] = n - 1
			wantLacks(t, l, v, l...)
			v[who-1] = 0
			wantLacks(t, l, v, l...)
		}
	}
}

// Mixed, in no order, with what is missing between, and one twice.
func TestLacksAsTheyStand(t *testing.T) {
	l := []api.Op{
		strike(at(3, 7), "hb"), write(at(1, 9), "mb", 'b'), strike(at(3, 2), "hb"), write(at(1, 2), "hb", 'a'),
		strike(at(3, 7), "hb"), cut(at(2, 4), "mb"), write(at(1, 9), "zb", 'z'), join(at(2, 1), "hb", at(3, 3)),
		write(at(1, 2), "hb", 'a'), strike(at(1, 1), "hb"),
	}
	wantLacks(t, l, vector(), l...)
	wantLacks(t, l, vector(2, 1, 2), l[0], l[1], l[4], l[5], l[6])
	wantLacks(t, l, vector(1, 3, 7), l[1], l[3], l[5], l[6], l[8])
	wantLacks(t, l, vector(8, 4, 6), l[0], l[1], l[4], l[6])
	wantLacks(t, l, vector(9, 4, 7))
	// No letter need fit another one's, nor a place have room.
	clash := []api.Op{write(at(2, 1), "hb", 'a'), write(at(1, 1), "hb", 'b'), write(at(1, 1), "hb", 'c')}
	wantLacks(t, clash, vector(), clash...)
	wantLacks(t, clash, vector(0, 1), clash[1:]...)
}

func TestLacksOfFourHundred(t *testing.T) {
	l := append(strikes(1, 250), strikes(2, 150)...)
	wantLacks(t, l, vector(), l...)
	wantLacks(t, l, vector(249, 149), l[249], l[399])
	wantLacks(t, l, vector(250, 150))
	for _, v := range [][]int{vector(), vector(249, 149), vector(250, 151)} {
		wantNoLacks(t, append(slices.Clone(l), strike(at(2, 151), "hb")), v, api.ErrFull)
		wantNoLacks(t, append(slices.Clone(l), l[0]), v, api.ErrFull)
		wantNoLacks(t, append(slices.Clone(l), l...), v, api.ErrFull)
	}
}

func TestLacksOfAWrongVector(t *testing.T) {
	for _, c := range wrongVectors() {
		wantNoLacks(t, nil, c.v, c.want)
		wantNoLacks(t, row(1, "leafs"), c.v, c.want)
	}
}

func TestLacksOfAWrongOp(t *testing.T) {
	right := append(row(1, "abc"), row(2, "xyz")...)
	for _, one := range []api.Dot{at(1, 1), at(1, 4), at(8, 9999)} {
		for _, c := range wrongOps(one) {
			for _, i := range []int{0, 3, len(right)} {
				l := slices.Insert(slices.Clone(right), i, c.o)
				// Whether or not it is known, and whether or not others are.
				wantNoLacks(t, l, vector(), c.want)
				wantNoLacks(t, l, vector(3), c.want)
				wantNoLacks(t, l, vector(9999, 9999, 9999, 9999, 9999, 9999, 9999, 9999), c.want)
			}
			wantNoLacks(t, []api.Op{c.o}, vector(), c.want)
		}
	}
	wantNoLacks(t, make([]api.Op, api.MaxOps), vector(), api.ErrRange)
	last := strikes(1, api.MaxOps)
	last[api.MaxOps-1].Letter = 'a'
	wantNoLacks(t, last, vector(9999), api.ErrShape)
}

// The vector's fault is told ahead of how many there are, that ahead of an op's,
// and that of the first op that has one ahead of a later one's.
func TestLacksTellsWhichError(t *testing.T) {
	over, wrong := strikes(1, api.MaxOps+1), make([]api.Op, api.MaxOps+1)
	for _, c := range wrongVectors() {
		wantNoLacks(t, over, c.v, c.want)
		wantNoLacks(t, wrong, c.v, c.want)
		wantNoLacks(t, []api.Op{cut(at(1, 1), tooLong)}, c.v, c.want)
		wantNoLacks(t, []api.Op{write(at(1, 1), "ha", 'a')}, c.v, c.want)
	}
	wantNoLacks(t, wrong, vector(), api.ErrFull)
	faults := wrongOps(at(1, 2))
	for _, first := range faults {
		for _, second := range faults {
			wantNoLacks(t, []api.Op{strike(at(1, 1), "hb"), first.o, second.o}, vector(2), first.want)
		}
	}
}

func TestWhatLacksGaveIsTheCallersOwn(t *testing.T) {
	memory := []api.Dot{at(2, 1), at(2, 2), at(3, 3)}
	was := slices.Clone(memory)
	l := []api.Op{join(at(1, 1), "hb", memory[:2]...), join(at(1, 2), "mb", memory[:2]...), join(at(1, 1), "hb", memory[:2]...)}
	want := copyOps(l)
	got, err := Lacks(l, vector())
	other, _ := Lacks(l, vector())
	if err != nil || !sameOps(got, want) {
		t.Fatalf("Lacks: %v, %v", got, err)
	}
	for i := range memory {
		memory[i] = at(7, 7)
	}
	if !sameOps(got, want) {
		t.Errorf("what was handed in is kept: %v", got)
	}
	copy(memory, was)
	// What is behind its length is the caller's, too.
	seen := got[0].Seen[:cap(got[0].Seen)]
	for i := range seen {
		seen[i] = at(6, 6)
	}
	if !sameOps(got[1:], want[1:]) || !sameOps(other, want) || !sameOps(l, want) || !slices.Equal(memory, was) {
		t.Errorf("what was given shares memory: %v, %v, %v", got, other, memory)
	}
	whole := got[:cap(got)]
	for i := range whole {
		whole[i] = api.Op{}
	}
	if !sameOps(other, want) || !sameOps(l, want) {
		t.Errorf("what was given shares memory: %v, %v", other, l)
	}
}

// An empty list of dots may have memory behind it: also that is not given back.
func TestLacksKeepsNothingOfAnEmptyList(t *testing.T) {
	memory := []api.Dot{at(2, 1)}
	got, err := Lacks([]api.Op{join(at(1, 1), "hb", memory[:0]...), write(at(1, 2), "hb", 'a')}, vector())
	if err != nil || len(got) != 2 {
		t.Fatalf("Lacks: %v, %v", got, err)
	}
	_ = append(got[0].Seen, at(7, 7))
	if memory[0] != at(2, 1) {
		t.Errorf("what lies behind a list is now %v", memory)
	}
}

// What lies behind the lists' lengths is neither read nor written.
func TestLacksKeepsToTheLengths(t *testing.T) {
	l := []api.Op{strike(at(1, 1), "hb"), strike(at(1, 2), "hb"), {}, strike(at(1, 3), "hb")}
	v := []int{1, 0, 0, 0, 0, 0, 0, 0, -1}
	wantLacks(t, l[:2], v[:8], l[1])
	want := []api.Op{strike(at(1, 1), "hb"), strike(at(1, 2), "hb"), {}, strike(at(1, 3), "hb")}
	if !sameOps(l, want) || v[8] != -1 {
		t.Errorf("what lies behind is now %v, %v", l, v)
	}
}

func wantBoth(t *testing.T, a, b *doc.Doc, byB, byA int) {
	t.Helper()
	n, m, err := Both(a, b)
	if n != byB || m != byA || err != nil {
		t.Errorf("Both: got %v, %v, %v, want %v, %v and no error", n, m, err, byB, byA)
	}
}

func wantNotBoth(t *testing.T, a, b *doc.Doc, want api.Errno) {
	t.Helper()
	n, m, err := Both(a, b)
	wantErrno(t, err, want, "Both")
	if n != 0 || m != 0 {
		t.Errorf("Both: got %v, %v with an error", n, m)
	}
}

func TestBothOfEmptyDocs(t *testing.T) {
	a, b := doc.New(), doc.New()
	wantBoth(t, a, b, 0, 0)
	wantOps(t, a)
	wantOps(t, b)

	l := append(row(1, "abc"), cut(at(2, 1), "bbb"), join(at(3, 1), "bbb", at(2, 1), at(4, 1)))
	a = applied(t, l...)
	wantBoth(t, a, b, 5, 0)
	wantOps(t, a, l...)
	wantOps(t, b, l...)

	c := doc.New()
	wantBoth(t, c, b, 0, 5)
	wantOps(t, b, l...)
	wantOps(t, c, l...)
}

func TestBothAlike(t *testing.T) {
	one, two := row(1, "abc"), row(2, "xy")
	a := applied(t, one[0], one[1], two[0], one[2], two[1])
	b := applied(t, two[0], two[1], one[0], one[1], one[2])
	wantBoth(t, a, b, 0, 0)
	wantBoth(t, b, a, 0, 0)
	wantOps(t, a, one[0], one[1], two[0], one[2], two[1])
	wantOps(t, b, two[0], two[1], one[0], one[1], one[2])
}

// The first number is that of b, though a stands first.
func TestBothOfOneAuthor(t *testing.T) {
	l := row(1, "leafs")
	a, b := applied(t, l...), applied(t, l[:2]...)
	wantBoth(t, a, b, 3, 0)
	wantOps(t, b, l...)
	a = applied(t, l[:1]...)
	wantBoth(t, a, b, 0, 4)
	wantOps(t, a, l...)
}

func TestBothOfSeveralAuthors(t *testing.T) {
	one, two, three := row(1, "abcd"), row(2, "xyz"), row(3, "-+")
	a := applied(t, one[0], three[0], one[1], two[0], one[2], one[3])
	b := applied(t, two[0], two[1], one[0], three[0], three[1], two[2])
	wantBoth(t, a, b, 3, 3)
	wantOps(t, a, one[0], three[0], one[1], two[0], one[2], one[3], two[1], three[1], two[2])
	wantOps(t, b, two[0], two[1], one[0], three[0], three[1], two[2], one[1], one[2], one[3])
	wantBoth(t, a, b, 0, 0)
	if a.Text() != "ax-by+czd" || b.Text() != a.Text() {
		t.Errorf("texts: %q, %q", a.Text(), b.Text())
	}
}

// What b has just got of a is known there: it does not come back, and is not
// counted.
func TestWhatBothBroughtIsNotCountedAgain(t *testing.T) {
	one, two := row(1, strings.Repeat("a", 30)), row(2, "xy")
	a, b := applied(t, one...), applied(t, two...)
	wantBoth(t, a, b, 30, 2)
	wantOps(t, a, append(slices.Clone(one), two...)...)
	wantOps(t, b, append(slices.Clone(two), one...)...)
	wantBoth(t, b, a, 0, 0)
}

// Each kind of op comes whole: what a join saw, and a strike, hold also ahead of
// what they are of.
func TestBothOfEachKindOfOp(t *testing.T) {
	l := []api.Op{
		write(at(1, 1), "hb", 'a'), cut(at(1, 2), "hb"), cut(at(2, 1), "hb"), strike(at(1, 3), "mc"),
		join(at(3, 1), "hb", at(1, 2), at(4, 1)), join(at(3, 2), "mc"),
	}
	more := []api.Op{cut(at(4, 1), "hb"), write(at(4, 2), "mc", 'm'), cut(at(4, 3), "mc")}
	a, b := applied(t, l...), applied(t, more...)
	wantBoth(t, a, b, 6, 3)
	wantOps(t, a, append(slices.Clone(l), more...)...)
	wantOps(t, b, append(slices.Clone(more), l...)...)
	left := []api.Mark{{Place: "hb", Dot: at(2, 1)}, {Place: "mc", Dot: at(4, 3)}}
	if !sameBook(told(a), told(b)) || a.Text() != "a" || !slices.Equal(a.Marks(), left) {
		t.Errorf("Docs are %v, %v", told(a), told(b))
	}
}

func TestBothOfADocWithItself(t *testing.T) {
	d := doc.New()
	wantBoth(t, d, d, 0, 0)
	l := append(row(1, "abc"), row(2, "xyz")...)
	d = applied(t, l...)
	wantBoth(t, d, d, 0, 0)
	wantOps(t, d, l...)
	full := applied(t, strikes(1, api.MaxOps)...)
	wantBoth(t, full, full, 0, 0)
}

// What one knows is told by the Dot: another op of it does not come.
func TestBothGoByDots(t *testing.T) {
	a := applied(t, write(at(1, 1), "hb", 'a'), write(at(1, 2), "mb", 'b'))
	b := applied(t, write(at(1, 1), "zb", 'z'))
	wantBoth(t, a, b, 1, 0)
	if a.Text() != "ab" || b.Text() != "bz" {
		t.Errorf("texts: %q, %q", a.Text(), b.Text())
	}
}

func TestBothOfFourHundred(t *testing.T) {
	a, b := applied(t, strikes(1, 250)...), applied(t, strikes(2, 150)...)
	wantBoth(t, a, b, 250, 150)
	wantOps(t, a, append(strikes(1, 250), strikes(2, 150)...)...)
	wantOps(t, b, append(strikes(2, 150), strikes(1, 250)...)...)
	c := doc.New()
	wantBoth(t, a, c, 400, 0)
	wantBoth(t, b, c, 0, 0)
}

// In b's part: what b did ahead of the error stays, nothing behind it is done,
// and a does nothing.
func TestErrorInBsPart(t *testing.T) {
	l := []api.Op{write(at(1, 1), "bb", 'a'), strike(at(3, 1), "bb"), write(at(1, 2), "hb", 'x'), write(at(1, 3), "mb", 'c'), cut(at(4, 1), "bb")}
	own := []api.Op{write(at(2, 1), "hb", 'y'), write(at(2, 2), "zb", 'z')}
	a, b := applied(t, l...), applied(t, own...)
	for range 2 {
		wantNotBoth(t, a, b, api.ErrClash)
		wantOps(t, a, l...)
		wantOps(t, b, own[0], own[1], l[0], l[1])
	}
}

func TestErrorAtTheFirstOfBsPart(t *testing.T) {
	a, b := applied(t, write(at(1, 1), "hb", 'x'), strike(at(1, 2), "hb")), applied(t, write(at(2, 1), "hb", 'y'))
	wantNotBoth(t, a, b, api.ErrClash)
	wantOps(t, a, write(at(1, 1), "hb", 'x'), strike(at(1, 2), "hb"))
	wantOps(t, b, write(at(2, 1), "hb", 'y'))
}

// In a's part: what b did stays, and what a did ahead of the error.
func TestErrorInAsPart(t *testing.T) {
	l := []api.Op{write(at(1, 1), "hb", 'x'), write(at(3, 1), "qb", 'q')}
	own := []api.Op{strike(at(1, 1), "zb"), write(at(2, 1), "bb", 'a'), write(at(2, 2), "hb", 'y'), write(at(2, 3), "mb", 'm')}
	a, b := applied(t, l...), applied(t, own...)
	for range 2 {
		wantNotBoth(t, a, b, api.ErrClash)
		wantOps(t, a, l[0], l[1], own[1])
		wantOps(t, b, own[0], own[1], own[2], own[3], l[1])
	}
}

// a has no room for a cut that b has joined already.
func TestNoRoomInAsPart(t *testing.T) {
	l := cuts(1, api.MaxMarks)
	own := []api.Op{strike(at(2, 1), "zb"), cut(at(2, 2), "hb"), join(at(2, 3), "hb", at(2, 2))}
	a, b := applied(t, l...), applied(t, own...)
	wantNotBoth(t, a, b, api.ErrFull)
	wantOps(t, a, append(slices.Clone(l), own[0])...)
	wantOps(t, b, append(slices.Clone(own), l...)...)
}

func TestNoRoomInBsPart(t *testing.T) {
	for _, c := range []struct {
		name  string
		l     []api.Op
		own   api.Op
		taken int
	}{
		{"ops", strikes(1, api.MaxOps), strike(at(2, 1), "hb"), api.MaxOps - 1},
		{"leafs", row(1, strings.Repeat("a", api.MaxLeafs)), strike(at(2, 1), "zzb"), api.MaxLeafs - 1},
		{"marks", cuts(1, api.MaxMarks), cut(at(2, 1), "hb"), api.MaxMarks - 1},
	} {
		t.Run(c.name, func(t *testing.T) {
			a, b := applied(t, c.l...), applied(t, c.own)
			wantNotBoth(t, a, b, api.ErrFull)
			wantOps(t, a, c.l...)
			wantOps(t, b, append([]api.Op{c.own}, c.l[:c.taken]...)...)
		})
	}
}

// The error of b's part is told, though a's part would have another one.
func TestWhichErrorBothTell(t *testing.T) {
	marked := append(cuts(1, api.MaxMarks), write(at(1, 41), "hb", 'x'))
	own := []api.Op{cut(at(2, 1), "hb"), join(at(2, 2), "hb", at(2, 1)), write(at(2, 3), "hb", 'y')}
	a, b := applied(t, marked...), applied(t, own...)
	wantNotBoth(t, a, b, api.ErrClash)
	wantOps(t, a, marked...)
	wantOps(t, b, append(slices.Clone(own), marked[:40]...)...)
	a, b = applied(t, marked...), applied(t, own...)
	wantNotBoth(t, b, a, api.ErrFull)
	wantOps(t, a, marked...)
	wantOps(t, b, own...)
}

// Two Docs have nothing in common behind Both.
func TestBothShareNothing(t *testing.T) {
	a, b := applied(t, join(at(1, 1), "hb", at(3, 1))), applied(t, write(at(2, 1), "hb", 'a'))
	wantBoth(t, a, b, 1, 1)
	was := told(b)
	a.Ops()[0].Seen[0] = at(7, 7)
	for _, o := range []api.Op{strike(at(1, 2), "hb"), cut(at(4, 1), "hb"), write(at(2, 2), "mb", 'b')} {
		if is, err := a.Apply(o); !is || err != nil {
			t.Fatalf("Apply(%v): %v, %v", o, is, err)
		}
	}
	wantState(t, b, was, "the other one changed")
	wantBoth(t, a, b, 3, 0)
}

func wantParcel(t *testing.T, d *doc.Doc, v []int, want ...api.Op) {
	t.Helper()
	ahead, numbers := told(d), slices.Clone(v)
	got, err := Parcel(d, v)
	if err != nil || got != packed(t, want...) {
		t.Errorf("Parcel of %v: got %x, %v, want %x", v, got, err, packed(t, want...))
	}
	if l, err := op.Unpack(got); err != nil || !sameOps(l, want) {
		t.Errorf("Unpack of a parcel: got %v, %v, want %v", l, err, want)
	}
	wantState(t, d, ahead, "behind Parcel")
	if !slices.Equal(v, numbers) {
		t.Errorf("the vector is now %v, and was %v", v, numbers)
	}
}

func TestParcelOfNothing(t *testing.T) {
	d := applied(t, append(row(1, "abc"), row(8, "xy")...)...)
	for _, v := range [][]int{d.Known(), vector(3, 0, 0, 0, 0, 0, 0, 2), vector(4, 1, 0, 0, 0, 0, 0, 9999)} {
		wantParcel(t, d, v)
	}
	for _, v := range [][]int{vector(), vector(1, 2, 3), vector(9999)} {
		wantParcel(t, doc.New(), v)
	}
	if b, err := Parcel(d, d.Known()); b != nothing || err != nil {
		t.Errorf("Parcel of nothing: %x, %v", b, err)
	}
}

func TestParcelOfSomeAndAll(t *testing.T) {
	l := []api.Op{
		write(at(2, 1), "mc", 'c'), write(at(1, 1), "hb", 'a'), cut(at(1, 2), "mc"), strike(at(2, 2), "hb"),
		join(at(8, 1), "mc", at(1, 2), at(3, 1)), write(at(1, 3), "qb", '~'), join(at(8, 2), "hb"),
	}
	d := applied(t, l...)
	wantParcel(t, d, vector(), l...)
	wantParcel(t, d, vector(0, 0, 5), l...)
	wantParcel(t, d, vector(1), l[0], l[2], l[3], l[4], l[5], l[6])
	wantParcel(t, d, vector(2, 1), l[3:]...)
	wantParcel(t, d, vector(3, 2), l[4], l[6])
	wantParcel(t, d, vector(3, 2, 0, 0, 0, 0, 0, 1), l[6])
	wantParcel(t, d, vector(2, 9999, 0, 0, 0, 0, 0, 2), l[5])
	one, err := Parcel(applied(t, write(at(3, 1), "hb", 'a')), vector(9, 9, 0, 9))
	if one != "\x00\x01\x00\x09\x01\x03\x00\x01\x02hba\x35" || err != nil {
		t.Errorf("Parcel of one: %x, %v", one, err)
	}
}

func TestParcelOfFourHundred(t *testing.T) {
	var l []api.Op
	for i := range api.MaxOps {
		seen := make([]api.Dot, api.MaxMarks)
		for k := range seen {
			seen[k] = at(8, 9000+k)
		}
		l = append(l, join(at(1+i%2, 1+i/2), "zzzzzzzzzzzb", seen...))
	}
	d := applied(t, l...)
	wantParcel(t, d, vector(), l...)
	wantParcel(t, d, vector(199, 200), l[398])
	wantParcel(t, d, vector(200, 200))
}

func TestParcelOfAWrongVector(t *testing.T) {
	full := applied(t, strikes(1, api.MaxOps)...)
	for _, d := range []*doc.Doc{doc.New(), applied(t, row(1, "leafs")...), full} {
		ahead := told(d)
		for _, c := range wrongVectors() {
			b, err := Parcel(d, c.v)
			wantErrno(t, err, c.want, "Parcel", c.v)
			if b != "" {
				t.Errorf("Parcel gives %x with an error", b)
			}
		}
		wantState(t, d, ahead, "behind a wrong vector")
	}
}

func wantOpen(t *testing.T, d *doc.Doc, parcel string, want int) {
	t.Helper()
	if n, err := Open(d, parcel); n != want || err != nil {
		t.Errorf("Open(%x): got %v, %v, want %v and no error", parcel, n, err, want)
	}
}

func wantNotOpen(t *testing.T, d *doc.Doc, parcel string, want api.Errno, why ...any) {
	t.Helper()
	n, err := Open(d, parcel)
	wantErrno(t, err, want, "Open", why, []byte(parcel))
	if n != 0 {
		t.Errorf("%v: Open gives %d with an error", why, n)
	}
}

func TestOpenAnEmptyParcel(t *testing.T) {
	for _, l := range [][]api.Op{nil, row(1, "abc"), strikes(2, api.MaxOps)} {
		d := applied(t, l...)
		wantOpen(t, d, nothing, 0)
		wantNotOpen(t, d, "", api.ErrSyntax)
		wantOps(t, d, l...)
	}
}

func TestOpenWhatIsNew(t *testing.T) {
	l := []api.Op{
		write(at(2, 1), "mc", 'c'), write(at(1, 1), "hb", 'a'), cut(at(1, 2), "mc"), cut(at(1, 3), "hb"),
		strike(at(2, 2), "hb"), join(at(8, 1), "mc", at(1, 2), at(3, 1)), cut(at(3, 1), "mc"),
	}
	d := doc.New()
	wantOpen(t, d, packed(t, l[0]), 1)
	wantOps(t, d, l[0])
	wantOpen(t, d, packed(t, l[1:4]...), 3)
	wantOpen(t, d, packed(t, l[4:]...), 3)
	wantOps(t, d, l...)
	all := doc.New()
	wantOpen(t, all, packed(t, l...), 7)
	wantOps(t, all, l...)
	if left := []api.Mark{{Place: "hb", Dot: at(1, 3)}}; all.Text() != "c" || !slices.Equal(all.Marks(), left) {
		t.Errorf("the Doc is %v", told(all))
	}
}

func TestOpenWhatIsKnown(t *testing.T) {
	l := append(row(1, "abc"), row(2, "xyz")...)
	d := applied(t, l...)
	for _, p := range []string{packed(t, l...), packed(t, l[:2]...), packed(t, l[5], l[2], l[2]), packed(t, strike(at(1, 3), "zb"))} {
		wantOpen(t, d, p, 0)
		wantOps(t, d, l...)
	}
	// Some are known, some are not.
	part := applied(t, l[0], l[3], l[4])
	wantOpen(t, part, packed(t, l...), 3)
	wantOps(t, part, l[0], l[3], l[4], l[1], l[2], l[5])
	wantOpen(t, part, packed(t, l...), 0)
}

// One that stands twice is new once; another op of its Dot is known then.
func TestOpenTheSameDotTwice(t *testing.T) {
	d := doc.New()
	a, b := write(at(1, 1), "hb", 'a'), write(at(1, 2), "mb", 'b')
	wantOpen(t, d, packed(t, a, a, b, write(at(1, 1), "hb", 'z'), strike(at(1, 2), "hb"), b), 2)
	wantOps(t, d, a, b)
}

func TestOpenFourHundred(t *testing.T) {
	d := doc.New()
	wantOpen(t, d, packed(t, append(strikes(1, 250), strikes(2, 150)...)...), api.MaxOps)
	wantOpen(t, d, packed(t, append(strikes(2, 150), strikes(1, 250)...)...), 0)
	wantNotOpen(t, d, packed(t, strike(at(3, 1), "hb")), api.ErrFull)
	wantOps(t, d, append(strikes(1, 250), strikes(2, 150)...)...)
}

// wantNothingDone opens a parcel that can't be read.
func wantNothingDone(t *testing.T, l []api.Op, parcel string, why ...any) {
	t.Helper()
	d := applied(t, l...)
	wantNotOpen(t, d, parcel, api.ErrSyntax, why...)
	wantOps(t, d, l...)
}

func TestOpenWhatIsNoParcel(t *testing.T) {
	l := []api.Op{write(at(1, 1), "hb", 'a'), strike(at(1, 2), "hb"), cut(at(1, 3), "mb"), join(at(2, 1), "mb", at(1, 3))}
	whole := packed(t, l...)
	wantOpen(t, doc.New(), whole, 4)
	// Also where all, some, or none of it is known.
	for _, known := range [][]api.Op{nil, l[:2], l} {
		for i := range len(whole) {
			wantNothingDone(t, known, whole[:i], "cut off")
			for _, more := range []byte{1, 2, 128, 255} { // 253 is the modulus of the sum: it would not tell
				wrong := []byte(whole)
				wrong[i] += more
				wantNothingDone(t, known, string(wrong), "a wrong byte at", i)
			}
		}
		for c := range 256 {
			wantNothingDone(t, known, whole+string([]byte{byte(c)}), "a byte too many")
		}
		wantNothingDone(t, known, whole+whole, "one behind the other")
		wantNothingDone(t, known, whole[1:], "a byte is missing")
		wantNothingDone(t, known, "\x00"+whole, "a byte too many ahead")
	}
	wantNothingDone(t, nil, nothing+"\x00", "nothing, and a byte")
	wantNothingDone(t, nil, "\x00\x01\x00\x00", "an op of no bytes")
}

// boxed are bytes of an op as they stand in a parcel, with the sum behind them.
func boxed(b string) string {
	n := 0
	for _, c := range []byte(b) {
		n = (n + int(c)) % 253
	}
	b += string([]byte{byte(n)})
	return string([]byte{byte(len(b) / 256), byte(len(b) % 256)}) + b
}

// Bytes of an op that is wrong are none: also the right ones ahead are not done.
func TestOpenAParcelOfWrongOps(t *testing.T) {
	first := "\x01\x01\x00\x01\x02hba"
	wantOpen(t, doc.New(), "\x00\x01"+boxed(first), 1)
	for _, wrong := range []string{
		"\x00\x01\x00\x02\x02hba", "\x05\x01\x00\x02\x02hb", // What
		"\x01\x00\x00\x02\x02hba", "\x01\x09\x00\x02\x02hba", "\x01\x01\x00\x00\x02hba", "\x01\x01\x27\x10\x02hba", // Dot
		"\x02\x01\x00\x02\x00", "\x02\x01\x00\x02\x02ha", "\x02\x01\x00\x02\x0d" + tooLong, // Place
		"\x01\x01\x00\x02\x02hb\x1f", "\x01\x01\x00\x02\x02hb\x7f", "\x02\x01\x00\x02\x02hba", // Letter
		"\x04\x01\x00\x02\x02hb\x01\x09\x00\x01", "\x04\x01\x00\x02\x02hb\x02\x02\x00\x01\x02\x00\x01", // Seen
		"\x03\x01\x00\x02\x02hb\x00", "",
	} {
		wantNothingDone(t, nil, "\x00\x02"+boxed(first)+boxed(wrong), "wrong op", []byte(wrong))
		wantNothingDone(t, row(1, "ab"), "\x00\x01"+boxed(wrong), "wrong op of a known dot", []byte(wrong))
	}
	over := "\x01\x91" + strings.Repeat(boxed(first), api.MaxOps+1)
	wantNothingDone(t, nil, over, "401 ops")
	wantNothingDone(t, row(1, "a"), over, "401 ops that are known")
	wantOpen(t, doc.New(), "\x01\x90"+strings.Repeat(boxed(first), api.MaxOps), 1)
}

// An error of Apply, as the first, in the middle, and as the last: those ahead
// stay, those behind are not done.
func TestOpenWhatCantBeApplied(t *testing.T) {
	own := []api.Op{write(at(2, 1), "hb", 'y'), strike(at(2, 2), "zb")}
	right := []api.Op{write(at(1, 1), "bb", 'a'), own[0], strike(at(3, 1), "bb"), cut(at(1, 2), "bb"), own[1]}
	for _, c := range []wrongOp{
		{write(at(4, 1), "hb", 'x'), api.ErrClash},
		{strike(at(4, 2), "hb"), api.ErrState},
		{join(at(4, 9999), "hb", at(1, 1)), api.ErrState},
		{write(at(2, 4), "hb", 'x'), api.ErrState},
	} {
		for i := range len(right) + 1 {
			d := applied(t, own...)
			p := packed(t, slices.Insert(slices.Clone(right), i, c.o)...)
			want := slices.Clone(own)
			for _, o := range right[:i] {
				if o.Dot.Who != 2 {
					want = append(want, o)
				}
			}
			for range 2 {
				wantNotOpen(t, d, p, c.want, "at", i)
				wantOps(t, d, want...)
			}
		}
	}
}

// A parcel is opened as it stands: one that is ahead of its turn does not wait.
func TestOpenAsItStands(t *testing.T) {
	l := row(1, "abc")
	d := doc.New()
	wantNotOpen(t, d, packed(t, l[1], l[0]), api.ErrState)
	wantOps(t, d)
	wantNotOpen(t, d, packed(t, l[0], l[2], l[1]), api.ErrState)
	wantOps(t, d, l[0])
	wantOpen(t, d, packed(t, l[1], l[0], l[2]), 2)
	wantOps(t, d, l...)
}

func TestOpenWhereThereIsNoRoom(t *testing.T) {
	for _, c := range []struct {
		name string
		own  []api.Op
		last api.Op
		over api.Op
	}{
		{"ops", strikes(1, api.MaxOps-1), strike(at(2, 1), "hb"), strike(at(2, 2), "hb")},
		{"leafs", row(1, strings.Repeat("a", api.MaxLeafs-1)), strike(at(2, 1), "zzb"), write(at(2, 2), "zzc", 'b')},
		{"marks", cuts(1, api.MaxMarks-1), cut(at(2, 1), "hb"), cut(at(2, 2), "hb")},
	} {
		t.Run(c.name, func(t *testing.T) {
			d := applied(t, c.own...)
			wantNotOpen(t, d, packed(t, c.own[0], c.last, c.over, strike(at(3, 1), "hb")), api.ErrFull)
			wantOps(t, d, append(slices.Clone(c.own), c.last)...)
			wantOpen(t, d, packed(t, c.own[0], c.last), 0)
		})
	}
}

// The first error is told, not a later one.
func TestWhichErrorOpenTells(t *testing.T) {
	clash, early := write(at(2, 1), "hb", 'x'), strike(at(3, 2), "hb")
	own := write(at(1, 1), "hb", 'a')
	wantNotOpen(t, applied(t, own), packed(t, own, clash, early), api.ErrClash)
	wantNotOpen(t, applied(t, own), packed(t, own, early, clash), api.ErrState)
	// What can't be read is told ahead of what can't be applied.
	wantNotOpen(t, applied(t, own), packed(t, clash, early)+"\x00", api.ErrSyntax)
}

// anyOp of few places and authors, the next one of its author; now and then its
// letter is another one than others write there.
func anyOp(r *rand.Rand, known []int, authors ...int) api.Op {
	who := authors[r.Intn(len(authors))]
	one := at(who, known[who-1]+1)
	p := []string{"bb", "hb", "hc", "hnd", "mb", "zze"}[r.Intn(6)]
	switch r.Intn(5) {
	case 0, 1:
		return write(one, p, int(p[0])+r.Intn(30)/29)
	case 2:
		return strike(one, p)
	case 3:
		return cut(one, p)
	}
	return join(one, p, at(1, 1+r.Intn(30)), at(2, 1+r.Intn(30)), at(3, 1+r.Intn(30)))
}

// play does some ops of authors at a Doc; those that it refuses are not done.
func play(r *rand.Rand, d *doc.Doc, n int, authors ...int) {
	for range n {
		d.Apply(anyOp(r, d.Known(), authors...))
	}
}

// copyOf gives a Doc with the same ops.
func copyOf(t *testing.T, d *doc.Doc) *doc.Doc {
	t.Helper()
	return applied(t, d.Ops()...)
}

// modelLacks counts on its fingers: what is known stands in a set of dots.
func modelLacks(l []api.Op, v []int) []api.Op {
	known := map[api.Dot]bool{}
	for i, n := range v {
		for k := range n {
			known[at(i+1, k+1)] = true
		}
	}
	return slices.DeleteFunc(copyOps(l), func(o api.Op) bool { return known[o.Dot] })
}

func modelApply(d *doc.Doc, l []api.Op) (int, error) {
	ahead := len(d.Ops())
	for _, o := range l {
		if _, err := d.Apply(o); err != nil {
			return 0, err
		}
	}
	return len(d.Ops()) - ahead, nil
}

func modelBoth(a, b *doc.Doc) (int, int, error) {
	forB, forA := modelLacks(a.Ops(), b.Known()), modelLacks(b.Ops(), a.Known())
	n, err := modelApply(b, forB)
	if err != nil {
		return 0, 0, err
	}
	m, err := modelApply(a, forA)
	if err != nil {
		return 0, 0, err
	}
	return n, m, nil
}

func TestLongPlayOfLacks(t *testing.T) {
	for seed := range 100 {
		r := rand.New(rand.NewSource(int64(seed)))
		var l []api.Op
		for range r.Intn(60) {
			l = append(l, anyOp(r, vector(r.Intn(9), r.Intn(9), r.Intn(9), r.Intn(9)), 1, 2, 3, 4))
		}
		for range 10 {
			v := vector(r.Intn(11), r.Intn(11), r.Intn(11), r.Intn(11))
			wantLacks(t, l, v, modelLacks(l, v)...)
		}
	}
}

// Docs that are played apart, meet, and go on, held against others that stand for
// them; now and then they clash.
func TestLongPlayOfBoth(t *testing.T) {
	clashes, meetings := 0, 0
	for seed := range 60 {
		r := rand.New(rand.NewSource(int64(seed)))
		a, b := doc.New(), doc.New()
		for range 6 {
			play(r, a, r.Intn(8), 1, 2)
			play(r, b, r.Intn(8), 3, 4)
			wantA, wantB := copyOf(t, a), copyOf(t, b)
			wantN, wantM, wantErr := modelBoth(wantA, wantB)
			n, m, err := Both(a, b)
			if n != wantN || m != wantM || !errors.Is(err, wantErr) {
				t.Fatalf("seed %d: got %v, %v, %v, want %v, %v, %v", seed, n, m, err, wantN, wantM, wantErr)
			}
			wantState(t, a, told(wantA), fmt.Sprint("a, seed ", seed))
			wantState(t, b, told(wantB), fmt.Sprint("b, seed ", seed))
			if err != nil {
				clashes++
				break
			}
			meetings++
			if !sameBook(told(a), told(b)) {
				t.Fatalf("seed %d: Docs are %v, %v", seed, told(a), told(b))
			}
		}
	}
	if clashes == 0 || meetings == 0 {
		t.Errorf("%d clashes, %d meetings: the play shows too little", clashes, meetings)
	}
}

// A parcel there and one back is as good as Both.
func TestParcelsThereAndBack(t *testing.T) {
	for seed := range 60 {
		r := rand.New(rand.NewSource(int64(seed)))
		a, b := doc.New(), doc.New()
		play(r, a, 20, 1, 2)
		play(r, b, 20, 3, 4)
		wantA, wantB := copyOf(t, a), copyOf(t, b)
		wantN, wantM, wantErr := Both(wantA, wantB)
		forB, _ := Parcel(a, b.Known())
		forA, _ := Parcel(b, a.Known())
		n, err := Open(b, forB)
		m := 0
		if err == nil {
			m, err = Open(a, forA)
		}
		if err != nil {
			n, m = 0, 0
		}
		if n != wantN || m != wantM || !errors.Is(err, wantErr) {
			t.Fatalf("seed %d: got %v, %v, %v, want %v, %v, %v", seed, n, m, err, wantN, wantM, wantErr)
		}
		wantState(t, a, told(wantA), "a")
		wantState(t, b, told(wantB), "b")
	}
}

// Parcels that are late, lost, or come twice: in the end all come to the same.
func TestInWhicheverOrderParcelsComeAllComeToTheSame(t *testing.T) {
	type letter struct {
		to     int
		parcel string
	}
	for seed := range 40 {
		r := rand.New(rand.NewSource(int64(seed)))
		docs := []*doc.Doc{doc.New(), doc.New(), doc.New()}
		var under []letter
		for range 60 {
			from, to := r.Intn(3), r.Intn(3)
			if o := anyOp(r, docs[from].Known(), from+1); o.What != api.Write || o.Letter == int(o.Place[0]) {
				docs[from].Apply(o)
			}
			p, err := Parcel(docs[from], docs[to].Known())
			if err != nil {
				t.Fatalf("seed %d: Parcel: %v", seed, err)
			}
			under = append(under, letter{to, p})
			one := under[r.Intn(len(under))]
			if _, err := Open(docs[one.to], one.parcel); err != nil {
				t.Fatalf("seed %d: Open: %v", seed, err)
			}
		}
		for _, pair := range [][2]int{{0, 1}, {1, 2}, {0, 1}} {
			if _, _, err := Both(docs[pair[0]], docs[pair[1]]); err != nil {
				t.Fatalf("seed %d: Both: %v", seed, err)
			}
		}
		for _, d := range docs[1:] {
			if !sameBook(told(d), told(docs[0])) {
				t.Fatalf("seed %d: Docs are %v, %v", seed, told(docs[0]), told(d))
			}
		}
	}
}

// Whatever bytes come, Open ends, and does what Unpack gives, or nothing.
func TestOpenAnyBytes(t *testing.T) {
	whole := packed(t, row(1, "leaf")...)
	r := rand.New(rand.NewSource(1))
	for range 5000 {
		b := []byte(whole)
		for range 1 + r.Intn(4) {
			b[r.Intn(len(b))] = byte(r.Intn(256))
		}
		if r.Intn(2) == 0 {
			b = b[:r.Intn(len(b))]
		}
		d, want := doc.New(), doc.New()
		l, wantErr := op.Unpack(string(b))
		wantN := 0
		if wantErr == nil {
			wantN, wantErr = modelApply(want, l)
		}
		n, err := Open(d, string(b))
		if n != wantN || !errors.Is(err, wantErr) {
			t.Fatalf("Open(%x): got %v, %v, want %v, %v", b, n, err, wantN, wantErr)
		}
		wantState(t, d, told(want), "behind Open")
	}
}
