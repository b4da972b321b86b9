package net

import (
	"errors"
	"fmt"
	"math"
	"math/rand"
	"reflect"
	"slices"
	"testing"

	"leafbinder/api"
	"leafbinder/doc"
	"leafbinder/op"
)

// farNumbers are no node, parcel, offset, letter or What, but for what is left
// of some of them in fewer bits.
var farNumbers = []int{-1, -2, math.MinInt, math.MinInt + 1, 1000, 1 << 32, 1<<32 + 1, math.MaxInt - 1, math.MaxInt}

func typed(node, offset, letter int) api.Event {
	return api.Event{What: api.Type, A: node, B: offset, C: letter}
}

func erased(node, offset int) api.Event { return api.Event{What: api.Erase, A: node, B: offset} }

func split(node, offset int) api.Event { return api.Event{What: api.Split, A: node, B: offset} }

func fused(node, offset int) api.Event { return api.Event{What: api.Fuse, A: node, B: offset} }

func sent(from, to int) api.Event { return api.Event{What: api.Send, A: from, B: to} }

func delivered(i int) api.Event { return api.Event{What: api.Deliver, A: i} }

func lost(i int) api.Event { return api.Event{What: api.Lose, A: i} }

func twice(i int) api.Event { return api.Event{What: api.Twice, A: i} }

// line gives what a node types, from the beginning of its book on.
func line(node int, text string) []api.Event {
	var l []api.Event
	for i := range len(text) {
		l = append(l, typed(node, i, int(text[i])))
	}
	return l
}

// repeated gives events so many times.
func repeated(n int, l ...api.Event) []api.Event { return slices.Repeat(l, n) }

func at(who, n int) api.Dot { return api.Dot{Who: who, N: n} }

func write(d api.Dot, p string, letter int) api.Op {
	return api.Op{Dot: d, What: api.Write, Place: p, Letter: letter}
}

func strike(d api.Dot, p string) api.Op { return api.Op{Dot: d, What: api.Strike, Place: p} }

func cut(d api.Dot, p string) api.Op { return api.Op{Dot: d, What: api.Cut, Place: p} }

func join(d api.Dot, p string, seen ...api.Dot) api.Op {
	return api.Op{Dot: d, What: api.Join, Place: p, Seen: seen}
}

// docState is all that a Doc tells.
type docState struct {
	book  []api.Leaf
	marks []api.Mark
	text  string
	known []int
	ops   []api.Op
}

func stateOf(d *doc.Doc) docState {
	return docState{d.Book(), d.Marks(), d.Text(), d.Known(), d.Ops()}
}

func sameOp(a, b api.Op) bool {
	seen := slices.Equal(a.Seen, b.Seen)
	a.Seen, b.Seen = nil, nil
	return seen && reflect.DeepEqual(a, b)
}

func sameOps(a, b []api.Op) bool { return slices.EqualFunc(a, b, sameOp) }

func sameDoc(a, b docState) bool {
	return slices.Equal(a.book, b.book) && slices.Equal(a.marks, b.marks) && a.text == b.text &&
		slices.Equal(a.known, b.known) && sameOps(a.ops, b.ops)
}

// state is all that a later call could tell of a Net.
type state struct {
	docs  []docState
	under []parcel
}

func told(n *Net) state {
	s := state{under: slices.Clone(n.under)}
	for _, d := range n.docs {
		s.docs = append(s.docs, stateOf(d))
	}
	return s
}

func wantState(t *testing.T, n *Net, want state, why ...any) {
	t.Helper()
	got := told(n)
	if !slices.EqualFunc(got.docs, want.docs, sameDoc) || !slices.Equal(got.under, want.under) {
		t.Fatalf("%s: got %q, want %q", fmt.Sprint(why...), fmt.Sprint(got), fmt.Sprint(want))
	}
	if n.Under() != len(want.under) {
		t.Fatalf("%s: Under is %d, want %d", fmt.Sprint(why...), n.Under(), len(want.under))
	}
}

func errno(err error) api.Errno {
	var e api.Errno
	if err != nil && !errors.As(err, &e) {
		return -1
	}
	return e
}

func wantErrno(t *testing.T, err error, want api.Errno, why ...any) {
	t.Helper()
	if err == nil || errno(err) != want {
		t.Fatalf("%s: got the error %v, want %v", fmt.Sprint(why...), err, want)
	}
}

func made(t *testing.T, nodes int) *Net {
	t.Helper()
	n, err := New(nodes)
	if n == nil || err != nil {
		t.Fatalf("New(%d): got %v, %v", nodes, n, err)
	}
	return n
}

// touches tells whose Doc an event may change: -1: nobody's.
func touches(n *Net, e api.Event) int {
	switch e.What {
	case api.Type, api.Erase, api.Split, api.Fuse:
		return e.A
	case api.Deliver:
		return n.under[e.A].to
	}
	return -1
}

// do events that must all be taken, and change no other Doc than they may.
func do(t *testing.T, n *Net, l ...api.Event) {
	t.Helper()
	for _, e := range l {
		ahead, node := told(n), touches(n, e)
		if err := n.Do(e); err != nil {
			t.Fatalf("Do(%v): got %v, want no error", e, err)
		}
		for i, d := range told(n).docs {
			if i != node && !sameDoc(d, ahead.docs[i]) {
				t.Fatalf("Do(%v): changed the Doc of node %d", e, i)
			}
		}
		if e.What < api.Send || e.What > api.Twice {
			if !slices.Equal(n.under, ahead.under) {
				t.Fatalf("Do(%v): changed what is under way", e)
			}
		}
	}
}

// played gives a Net to which all events were done.
func played(t *testing.T, nodes int, l ...api.Event) *Net {
	t.Helper()
	n := made(t, nodes)
	do(t, n, l...)
	return n
}

// wantRefused: the error, and nothing is changed.
func wantRefused(t *testing.T, n *Net, e api.Event, want api.Errno) {
	t.Helper()
	ahead := told(n)
	wantErrno(t, n.Do(e), want, "Do of ", e)
	wantState(t, n, ahead, "behind the refused ", e)
}

// applied gives a Doc of ops that must all be new to it.
func applied(t *testing.T, ops ...api.Op) *doc.Doc {
	t.Helper()
	d := doc.New()
	for _, o := range ops {
		if is, err := d.Apply(o); !is || err != nil {
			t.Fatalf("Apply(%v): got %v, %v", o, is, err)
		}
	}
	return d
}

// wantOps of a node, as they came, and what comes of them.
func wantOps(t *testing.T, n *Net, node int, want ...api.Op) {
	t.Helper()
	d, err := n.Doc(node)
	if err != nil {
		t.Fatalf("Doc(%d): %v", node, err)
	}
	if got, want := stateOf(d), stateOf(applied(t, want...)); !sameDoc(got, want) {
		t.Fatalf("node %d: got %v, want %v", node, got, want)
	}
}

func wantTexts(t *testing.T, n *Net, want ...string) {
	t.Helper()
	for i, text := range want {
		if got, err := n.Text(i); got != text || err != nil {
			t.Fatalf("Text(%d): got %q, %v, want %q", i, got, err, text)
		}
	}
}

func wantUnder(t *testing.T, n *Net, want int) {
	t.Helper()
	if got := n.Under(); got != want {
		t.Fatalf("Under: got %d, want %d", got, want)
	}
}

func wantSame(t *testing.T, n *Net, want bool) {
	t.Helper()
	if got := n.Same(); got != want {
		t.Fatalf("Same: got %v, want %v, of %v", got, want, told(n).docs)
	}
}

// wantParcel: the i-th is under way to a node, with these ops.
func wantParcel(t *testing.T, n *Net, i, to int, want ...api.Op) {
	t.Helper()
	p := n.under[i]
	got, err := op.Unpack(p.bytes)
	if p.to != to || err != nil || !sameOps(got, want) {
		t.Fatalf("parcel %d: got %v to %d, %v, want %v to %d", i, got, p.to, err, want, to)
	}
}

// allSend: each node sends to each other one, and all of it comes.
func allSend(t *testing.T, n *Net) {
	t.Helper()
	for from := range n.docs {
		for to := range n.docs {
			if from != to {
				do(t, n, sent(from, to))
				do(t, n, delivered(n.Under()-1))
			}
		}
	}
}

func TestNew(t *testing.T) {
	for nodes := 1; nodes <= api.MaxNodes; nodes++ {
		n := made(t, nodes)
		want := state{}
		for range nodes {
			want.docs = append(want.docs, docState{known: make([]int, api.MaxWho)})
		}
		wantState(t, n, want, "a new one of ", nodes)
		wantSame(t, n, true)
		for i := range nodes {
			wantOps(t, n, i)
		}
	}
}

func TestNewOfANumberThatIsNone(t *testing.T) {
	for _, nodes := range append([]int{0, 5, 6, 8, 1<<32 + 2}, farNumbers...) {
		n, err := New(nodes)
		wantErrno(t, err, api.ErrRange, "New of ", nodes)
		if n != nil {
			t.Errorf("New(%d): got %v with an error", nodes, n)
		}
	}
}

// Each node is an author of its own, and has a Doc of its own.
func TestNodesAreAuthors(t *testing.T) {
	for nodes := 1; nodes <= api.MaxNodes; nodes++ {
		n := made(t, nodes)
		for i := range nodes {
			do(t, n, typed(i, 0, 'a'+i))
		}
		for i, p := range []string{"hb", "hc", "hd", "he"}[:nodes] {
			wantOps(t, n, i, write(at(i+1, 1), p, 'a'+i))
		}
	}
}

// someNet has two parcels under way, and marks at node 0.
func someNet(t *testing.T) *Net {
	t.Helper()
	n := played(t, 3, line(0, "abc")...)
	do(t, n, line(1, "xy")...)
	do(t, n, split(0, 1), sent(0, 1), delivered(0), erased(1, 0), sent(1, 2), sent(0, 2))
	return n
}

func TestDoOfAWhatThatIsNone(t *testing.T) {
	n := someNet(t)
	for _, what := range append([]int{0, 9, 10, 257, 1<<32 + 4}, farNumbers...) {
		for _, e := range []api.Event{
			{},
			{A: 0, B: 1, C: 'a'},
			{A: 1, B: 2},
			{A: 2, B: 2, C: 31},
			{A: -1, B: -1, C: -1},
			{A: 100, B: 100, C: 100},
		} {
			e.What = what
			wantRefused(t, n, e, api.ErrRange)
		}
	}
}

// A node that is none, of each event that has one.
func TestDoOfANodeThatIsNone(t *testing.T) {
	for nodes := 1; nodes <= api.MaxNodes; nodes++ {
		n := played(t, nodes, typed(0, 0, 'a'), split(0, 0))
		for _, node := range append([]int{nodes, nodes + 1, 4, 5}, farNumbers...) {
			wantRefused(t, n, typed(node, 0, 'a'), api.ErrRange)
			wantRefused(t, n, typed(node, 9, 31), api.ErrRange)
			wantRefused(t, n, erased(node, 0), api.ErrRange)
			wantRefused(t, n, erased(node, 9), api.ErrRange)
			wantRefused(t, n, split(node, 0), api.ErrRange)
			wantRefused(t, n, fused(node, 0), api.ErrRange)
			wantRefused(t, n, sent(node, 0), api.ErrRange)
			wantRefused(t, n, sent(0, node), api.ErrRange)
			wantRefused(t, n, sent(node, node), api.ErrRange)
		}
		last := nodes - 1
		do(t, n, typed(last, 0, 'z'), split(last, 0), fused(last, 0), erased(last, 0))
		if nodes > 1 {
			do(t, n, sent(last, 0), sent(0, last))
		}
	}
}

func TestType(t *testing.T) {
	n := made(t, 2)
	do(t, n, typed(0, 0, 'b'))
	wantTexts(t, n, "b", "")
	do(t, n, typed(0, 0, 'a')) // at the beginning
	wantTexts(t, n, "ab", "")
	do(t, n, typed(0, 2, 'd')) // at the end
	wantTexts(t, n, "abd", "")
	do(t, n, typed(0, 2, 'c')) // between
	wantTexts(t, n, "abcd", "")
	do(t, n, typed(1, 0, '!'))
	wantTexts(t, n, "abcd", "!")
	wantOps(t, n, 0, write(at(1, 1), "hb", 'b'), write(at(1, 2), "cb", 'a'), write(at(1, 3), "mb", 'd'), write(at(1, 4), "ib", 'c'))
	wantOps(t, n, 1, write(at(2, 1), "hc", '!'))
	wantUnder(t, n, 0)
}

func TestTypeOfLetters(t *testing.T) {
	n := made(t, 1)
	for c := 32; c <= 126; c++ {
		n = played(t, 1, typed(0, 0, c))
		wantTexts(t, n, string(rune(c)))
		wantOps(t, n, 0, write(at(1, 1), "hb", c))
	}
	for _, c := range append([]int{31, 127, 0, 10, 128, 255, 256, 'a' + 256, 'a' - 256, 'a' + 1<<32}, farNumbers...) {
		wantRefused(t, n, typed(0, 0, c), api.ErrRange)
		wantRefused(t, n, typed(0, 1, c), api.ErrRange)
		wantRefused(t, n, typed(0, 2, c), api.ErrRange) // the offset is none either
	}
}

func TestTypeAtOffsets(t *testing.T) {
	n := made(t, 2)
	for long := range 5 {
		for _, offset := range append([]int{long + 1, long + 2, 300}, farNumbers...) {
			wantRefused(t, n, typed(1, offset, 'a'), api.ErrRange)
		}
		do(t, n, typed(1, long, 'a'+long))
	}
	wantTexts(t, n, "", "abcde")
	// What is struck is not counted, but it stands between.
	do(t, n, erased(1, 4), erased(1, 0))
	wantRefused(t, n, typed(1, 4, 'x'), api.ErrRange)
	do(t, n, typed(1, 3, 'x'), typed(1, 0, 'y'))
	wantTexts(t, n, "", "ybcdx")
}

// What came from others counts, too, and the author is the node still.
func TestTypeBetweenOthersLetters(t *testing.T) {
	n := played(t, 2, line(0, "ac")...)
	do(t, n, sent(0, 1), delivered(0), typed(1, 1, 'b'))
	wantTexts(t, n, "ac", "abc")
	wantOps(t, n, 1, write(at(1, 1), "hb", 'a'), write(at(1, 2), "mb", 'c'), write(at(2, 1), "ic", 'b'))
}

// deepen types between the first two letters of a node till there is no room.
func deepen(t *testing.T, n *Net, node int) {
	t.Helper()
	for {
		ahead := told(n)
		err := n.Do(typed(node, 1, 'x'))
		if err != nil {
			wantErrno(t, err, api.ErrDeep, "Type where there is no room")
			wantState(t, n, ahead, "behind it")
			return
		}
	}
}

func TestTypeWhereThereIsNoRoom(t *testing.T) {
	n := played(t, 2, line(0, "ab")...)
	deepen(t, n, 0)
	wantRefused(t, n, typed(0, 1, '~'), api.ErrDeep)
	wantRefused(t, n, typed(0, 1, 31), api.ErrRange)
	wantRefused(t, n, typed(0, 1, 127), api.ErrRange)
	do(t, n, typed(0, 0, 'x'), erased(0, 1), split(0, 1), typed(1, 0, 'x'))
}

// fillOps gives a node that has one letter at least 400 ops.
func fillOps(t *testing.T, n *Net, node int) {
	t.Helper()
	for len(n.docs[node].Ops())+2 <= api.MaxOps {
		do(t, n, split(node, 0), fused(node, 0))
	}
	if len(n.docs[node].Ops()) < api.MaxOps {
		do(t, n, erased(node, 0))
	}
	if known := len(n.docs[node].Ops()); known != api.MaxOps {
		t.Fatalf("%d ops are known, want %d", known, api.MaxOps)
	}
}

// fillLeafs gives a node 300 leafs: at any offsets, as there is room.
func fillLeafs(t *testing.T, n *Net, node int) {
	t.Helper()
	r := rand.New(rand.NewSource(3))
	for tries := 0; len(n.docs[node].Book()) < api.MaxLeafs; tries++ {
		err := n.Do(typed(node, r.Intn(len(n.docs[node].Text())+1), 'a'+r.Intn(26)))
		if err != nil && errno(err) != api.ErrDeep || tries > 1000 {
			t.Fatalf("Type: %v", err)
		}
	}
}

func TestEditsWhereOpsAreFull(t *testing.T) {
	n := played(t, 2, line(0, "abc")...)
	deepen(t, n, 0)
	do(t, n, split(0, 1))
	fillOps(t, n, 0)
	wantRefused(t, n, typed(0, 0, 'a'), api.ErrFull)
	wantRefused(t, n, erased(0, 0), api.ErrFull)
	wantRefused(t, n, split(0, 0), api.ErrFull)
	wantRefused(t, n, split(0, 1), api.ErrFull)
	// What chapter 8 refuses is refused ahead of being done.
	wantRefused(t, n, typed(0, 0, 31), api.ErrRange)
	wantRefused(t, n, typed(0, 300, 'a'), api.ErrRange)
	wantRefused(t, n, erased(0, 300), api.ErrRange)
	wantRefused(t, n, erased(0, -1), api.ErrRange)
	wantRefused(t, n, split(0, 300), api.ErrRange)
	wantRefused(t, n, fused(0, 300), api.ErrRange)
	wantRefused(t, n, fused(0, 2), api.ErrNone)
	fuseErr, deepErr := 0, 0
	for i := range len(n.docs[0].Text()) {
		if errno(n.Do(fused(0, i))) == api.ErrFull {
			fuseErr++
		}
		if errno(n.Do(typed(0, i, 'x'))) == api.ErrDeep {
			deepErr++
		}
	}
	if fuseErr != 1 || deepErr == 0 {
		t.Errorf("%d Fuses were ErrFull, want 1; %d letters ErrDeep, want some", fuseErr, deepErr)
	}
	do(t, n, typed(1, 0, 'a'))
}

func TestEditsWhereLeafsAreFull(t *testing.T) {
	n := made(t, 2)
	fillLeafs(t, n, 1)
	full := 0
	for offset := range len(n.docs[1].Text()) + 1 {
		ahead := told(n)
		switch err := n.Do(typed(1, offset, 'a')); errno(err) {
		case api.ErrFull:
			full++
		case api.ErrDeep:
		default:
			t.Fatalf("Type at %d: %v", offset, err)
		}
		wantState(t, n, ahead, "behind the refused Type at ", offset)
	}
	if full < 100 {
		t.Errorf("%d offsets were ErrFull", full)
	}
	do(t, n, erased(1, 0), split(1, 0), fused(1, 0), typed(0, 0, 'a'))
	// A leaf that is struck is there still.
	wantRefused(t, n, typed(1, len(n.docs[1].Text()), 'a'), api.ErrFull)
}

func TestErase(t *testing.T) {
	n := played(t, 2, line(1, "abcd")...)
	for _, offset := range append([]int{4, 5, 300}, farNumbers...) {
		wantRefused(t, n, erased(1, offset), api.ErrRange)
	}
	do(t, n, erased(1, 3)) // the last one
	wantTexts(t, n, "", "abc")
	wantRefused(t, n, erased(1, 3), api.ErrRange)
	do(t, n, erased(1, 0)) // the first one
	wantTexts(t, n, "", "bc")
	do(t, n, erased(1, 1))
	wantTexts(t, n, "", "b")
	do(t, n, erased(1, 0))
	wantTexts(t, n, "", "")
	wantOps(t, n, 1,
		write(at(2, 1), "hc", 'a'), write(at(2, 2), "mc", 'b'), write(at(2, 3), "qc", 'c'), write(at(2, 4), "tc", 'd'),
		strike(at(2, 5), "tc"), strike(at(2, 6), "hc"), strike(at(2, 7), "qc"), strike(at(2, 8), "mc"))
}

func TestEraseWhereNothingIsSeen(t *testing.T) {
	n := played(t, 2, typed(0, 0, 'a'), erased(0, 0))
	for _, offset := range append([]int{0, 1}, farNumbers...) {
		wantRefused(t, n, erased(0, offset), api.ErrRange) // one is struck
		wantRefused(t, n, erased(1, offset), api.ErrRange) // there is none at all
	}
}

// Another one's letter is struck by the node's own op.
func TestEraseOfAnothersLetter(t *testing.T) {
	n := played(t, 2, typed(0, 0, 'a'), sent(0, 1), delivered(0), erased(1, 0))
	wantTexts(t, n, "a", "")
	wantOps(t, n, 1, write(at(1, 1), "hb", 'a'), strike(at(2, 1), "hb"))
}

func TestSplit(t *testing.T) {
	n := played(t, 2, line(0, "abc")...)
	for _, offset := range append([]int{3, 4}, farNumbers...) {
		wantRefused(t, n, split(0, offset), api.ErrRange)
	}
	for _, offset := range append([]int{0, 1}, farNumbers...) {
		wantRefused(t, n, split(1, offset), api.ErrRange) // nothing is seen there
	}
	do(t, n, split(0, 0), split(0, 2), split(0, 1), split(0, 1))
	wantTexts(t, n, "abc", "")
	wantOps(t, n, 0,
		write(at(1, 1), "hb", 'a'), write(at(1, 2), "mb", 'b'), write(at(1, 3), "qb", 'c'),
		cut(at(1, 4), "hb"), cut(at(1, 5), "qb"), cut(at(1, 6), "mb"), cut(at(1, 7), "mb"))
	do(t, n, erased(0, 2))
	wantRefused(t, n, split(0, 2), api.ErrRange)
}

func TestSplitWhereMarksAreFull(t *testing.T) {
	n := played(t, 2, line(0, "abc")...)
	do(t, n, repeated(20, split(0, 0), split(0, 2))...)
	for offset := range 3 {
		wantRefused(t, n, split(0, offset), api.ErrFull)
	}
	wantRefused(t, n, split(0, 3), api.ErrRange)
	wantRefused(t, n, fused(0, 1), api.ErrNone)
	do(t, n, fused(0, 2), split(0, 1))
	do(t, n, typed(1, 0, 'a'), split(1, 0))
}

func TestFuse(t *testing.T) {
	n := played(t, 2, line(0, "abc")...)
	for offset := range 3 {
		wantRefused(t, n, fused(0, offset), api.ErrNone)
	}
	do(t, n, split(0, 1), split(0, 1), split(0, 2))
	for _, offset := range append([]int{3, 4}, farNumbers...) {
		wantRefused(t, n, fused(0, offset), api.ErrRange)
	}
	wantRefused(t, n, fused(0, 0), api.ErrNone)
	wantRefused(t, n, fused(1, 0), api.ErrRange) // nothing is seen there
	do(t, n, fused(0, 1))
	wantRefused(t, n, fused(0, 1), api.ErrNone)
	do(t, n, fused(0, 2))
	wantOps(t, n, 0,
		write(at(1, 1), "hb", 'a'), write(at(1, 2), "mb", 'b'), write(at(1, 3), "qb", 'c'),
		cut(at(1, 4), "mb"), cut(at(1, 5), "mb"), cut(at(1, 6), "qb"),
		join(at(1, 7), "mb", at(1, 4), at(1, 5)), join(at(1, 8), "qb", at(1, 6)))
}

// A Fuse takes away the cuts of all that it knows, and no others.
func TestFuseOfOthersCuts(t *testing.T) {
	n := played(t, 3, typed(0, 0, 'a'), split(0, 0), sent(0, 1), delivered(0), split(1, 0), split(0, 0), fused(1, 0))
	a := []api.Op{write(at(1, 1), "hb", 'a'), cut(at(1, 2), "hb"), cut(at(1, 3), "hb")}
	b := []api.Op{cut(at(2, 1), "hb"), join(at(2, 2), "hb", at(1, 2), at(2, 1))}
	wantOps(t, n, 0, a...)
	wantOps(t, n, 1, a[0], a[1], b[0], b[1])
	wantSame(t, n, false)
	do(t, n, sent(1, 0), sent(0, 1), delivered(0), delivered(0))
	wantOps(t, n, 0, a[0], a[1], a[2], b[0], b[1])
	wantOps(t, n, 1, a[0], a[1], b[0], b[1], a[2])
	want := []api.Mark{{Place: "hb", Dot: at(1, 3)}}
	for i := range 2 {
		if got := n.docs[i].Marks(); !slices.Equal(got, want) {
			t.Errorf("node %d: got the marks %v, want %v", i, got, want)
		}
	}
}

func TestSend(t *testing.T) {
	n := played(t, 3, line(0, "abc")...)
	a := []api.Op{write(at(1, 1), "hb", 'a'), write(at(1, 2), "mb", 'b'), write(at(1, 3), "qb", 'c'), strike(at(1, 4), "hb"), cut(at(1, 5), "mb")}
	b := []api.Op{write(at(2, 1), "hc", 'x')}
	do(t, n, typed(1, 0, 'x'), sent(0, 1))
	wantUnder(t, n, 1)
	do(t, n, sent(0, 2), sent(1, 0), sent(2, 1))
	wantUnder(t, n, 4)
	wantParcel(t, n, 0, 1, a[:3]...)
	wantParcel(t, n, 1, 2, a[:3]...)
	wantParcel(t, n, 2, 0, b...)
	wantParcel(t, n, 3, 1) // of nothing
	// What is under way to it is lacked still.
	do(t, n, erased(0, 0), sent(0, 1))
	wantParcel(t, n, 4, 1, a[:4]...)
	// What came is not.
	do(t, n, delivered(0), split(0, 0), sent(0, 1), sent(1, 0), sent(1, 2))
	wantUnder(t, n, 7)
	wantParcel(t, n, 3, 1, a[:4]...)
	wantParcel(t, n, 4, 1, a[3:]...)
	wantParcel(t, n, 5, 0, b...)
	wantParcel(t, n, 6, 2, b[0], a[0], a[1], a[2])
}

// What is done behind a Send is not in the parcel.
func TestSendTellsWhatThereIsNow(t *testing.T) {
	n := played(t, 2, typed(0, 0, 'a'), sent(0, 1), typed(0, 1, 'b'), erased(0, 0), split(0, 0), delivered(0))
	wantTexts(t, n, "b", "a")
	wantOps(t, n, 1, write(at(1, 1), "hb", 'a'))
}

func TestSendWhereNothingIsLacked(t *testing.T) {
	n := played(t, 2, sent(0, 1), sent(1, 0))
	wantUnder(t, n, 2)
	wantParcel(t, n, 0, 1)
	wantParcel(t, n, 1, 0)
	do(t, n, delivered(0), delivered(0), typed(0, 0, 'a'), sent(0, 1), delivered(0), sent(0, 1), sent(1, 0))
	wantParcel(t, n, 0, 1)
	wantParcel(t, n, 1, 0)
	ahead := told(n).docs
	do(t, n, delivered(0), delivered(0))
	wantState(t, n, state{docs: ahead}, "behind parcels of nothing")
}

func TestSendToOneself(t *testing.T) {
	for nodes := 1; nodes <= api.MaxNodes; nodes++ {
		n := played(t, nodes, typed(0, 0, 'a'))
		for i := range nodes {
			wantRefused(t, n, sent(i, i), api.ErrShape)
		}
		for _, i := range append([]int{nodes, 5}, farNumbers...) {
			wantRefused(t, n, sent(i, i), api.ErrRange)
		}
	}
}

func TestSendBetweenAnyTwo(t *testing.T) {
	for from := range api.MaxNodes {
		for to := range api.MaxNodes {
			if from == to {
				continue
			}
			n := played(t, api.MaxNodes, typed(from, 0, 'a'), sent(from, to), delivered(0))
			for i := range api.MaxNodes {
				want := ""
				if i == from || i == to {
					want = "a"
				}
				if got, err := n.Text(i); got != want || err != nil {
					t.Errorf("from %d to %d: node %d has %q, %v", from, to, i, got, err)
				}
			}
		}
	}
}

func TestSendWhereItIsFull(t *testing.T) {
	n := played(t, 2, typed(0, 0, 'a'))
	do(t, n, repeated(99, sent(0, 1))...)
	wantUnder(t, n, 99)
	do(t, n, sent(1, 0))
	wantUnder(t, n, 100)
	wantRefused(t, n, sent(0, 1), api.ErrFull)
	wantRefused(t, n, sent(1, 0), api.ErrFull)
	// Others are named ahead of it.
	wantRefused(t, n, sent(1, 1), api.ErrShape)
	for _, node := range append([]int{2}, farNumbers...) {
		wantRefused(t, n, sent(node, 0), api.ErrRange)
		wantRefused(t, n, sent(0, node), api.ErrRange)
		wantRefused(t, n, sent(node, node), api.ErrRange)
	}
	do(t, n, typed(1, 0, 'b'), delivered(0), sent(0, 1))
	wantRefused(t, n, sent(0, 1), api.ErrFull)
	do(t, n, lost(99), sent(1, 0))
	wantRefused(t, n, sent(0, 1), api.ErrFull)
}

// fiveUnder has five parcels under way to node 1: of one letter, of two, .., by
// what it knows, which is nothing.
func fiveUnder(t *testing.T) *Net {
	t.Helper()
	n := made(t, 3)
	for i := range 5 {
		do(t, n, typed(0, i, 'a'+i), sent(0, 1))
	}
	return n
}

// without gives a list without its i-th, in fresh memory.
func without[T any](l []T, i int) []T { return slices.Concat(l[:i], l[i+1:]) }

func TestDeliver(t *testing.T) {
	for i := range 5 {
		n := fiveUnder(t)
		want := without(n.under, i)
		do(t, n, delivered(i))
		wantTexts(t, n, "abcde", "abcde"[:i+1], "")
		wantUnder(t, n, 4)
		if !slices.Equal(n.under, want) {
			t.Errorf("Deliver of %d: %q is under way, want %q", i, fmt.Sprint(n.under), fmt.Sprint(want))
		}
	}
}

// Those behind one that came stand one ahead then.
func TestDeliverOneByOne(t *testing.T) {
	n := fiveUnder(t)
	for i := range 5 {
		do(t, n, delivered(0))
		wantTexts(t, n, "abcde", "abcde"[:i+1], "")
		wantUnder(t, n, 4-i)
	}
	wantRefused(t, n, delivered(0), api.ErrRange)
	n = fiveUnder(t)
	for i := range 5 {
		do(t, n, delivered(4-i))
		wantTexts(t, n, "abcde", "abcde", "")
		wantUnder(t, n, 4-i)
	}
	wantOps(t, n, 1, n.docs[0].Ops()...)
}

// A parcel that is none, of each event that has one.
func TestParcelThatIsNone(t *testing.T) {
	for _, what := range []int{api.Deliver, api.Lose, api.Twice} {
		n := made(t, 3)
		for under := range 4 {
			for _, i := range append([]int{under, under + 1, 100, 101}, farNumbers...) {
				wantRefused(t, n, api.Event{What: what, A: i}, api.ErrRange)
				wantRefused(t, n, api.Event{What: what, A: i, B: 1, C: 'a'}, api.ErrRange)
			}
			do(t, n, typed(0, 0, 'a'), sent(0, 1))
		}
	}
}

// Numbers that an event does not ask for may be any.
func TestNumbersThatAreNotAsked(t *testing.T) {
	for _, x := range append([]int{0, 1, 'a'}, farNumbers...) {
		n := made(t, 2)
		do(t, n, typed(0, 0, 'a'), api.Event{What: api.Split, C: x}, api.Event{What: api.Fuse, C: x}, api.Event{What: api.Erase, C: x})
		do(t, n, api.Event{What: api.Send, B: 1, C: x}, api.Event{What: api.Twice, B: x, C: x}, api.Event{What: api.Lose, B: x, C: x})
		do(t, n, api.Event{What: api.Deliver, B: x, C: x})
		wantSame(t, n, true)
		wantUnder(t, n, 0)
	}
}

// wantStopsAtFull: the last parcel brings so many ops, then one for which there
// is no room. These stay, and the parcel is no more under way, but others are.
func wantStopsAtFull(t *testing.T, n *Net, brought int) {
	t.Helper()
	i := n.Under() - 1
	p := n.under[i]
	ops, err := op.Unpack(p.bytes)
	if err != nil || len(ops) <= brought {
		t.Fatalf("%d ops are under way, %v, want more than %d", len(ops), err, brought)
	}
	want := told(n)
	want.under = want.under[:i]
	want.docs[p.to] = stateOf(applied(t, append(want.docs[p.to].ops, ops[:brought]...)...))
	wantErrno(t, n.Do(delivered(i)), api.ErrFull, "Deliver")
	wantState(t, n, want, "behind a Deliver that found no room")
}

func TestDeliverWhereMarksAreFull(t *testing.T) {
	n := played(t, 2, typed(0, 0, 'a'), sent(0, 1), delivered(0))
	do(t, n, repeated(30, split(0, 0))...)
	do(t, n, repeated(25, split(1, 0))...)
	do(t, n, sent(1, 0), sent(0, 1))
	wantStopsAtFull(t, n, 15)
	wantStopsAtFull(t, n, 10)
	// Sent again, nothing of it comes.
	do(t, n, sent(0, 1), sent(1, 0))
	wantStopsAtFull(t, n, 0)
	wantStopsAtFull(t, n, 0)
	// Where there is room again it goes on.
	do(t, n, fused(0, 0), fused(1, 0))
	allSend(t, n)
	wantSame(t, n, true)
}

func TestDeliverWhereOpsAreFull(t *testing.T) {
	n := played(t, 2, line(0, "abc")...)
	do(t, n, typed(1, 0, 'x'))
	fillOps(t, n, 1)
	do(t, n, sent(1, 0), sent(0, 1))
	wantStopsAtFull(t, n, 0)
	wantStopsAtFull(t, n, 397)
	wantSame(t, n, false)
}

// What is known finds no fault in a full one.
func TestDeliverOfWhatIsKnownWhereOpsAreFull(t *testing.T) {
	n := played(t, 2, line(0, "abc")...)
	do(t, n, sent(0, 1), twice(0), delivered(0))
	fillOps(t, n, 1)
	ahead := told(n).docs
	do(t, n, delivered(0))
	wantState(t, n, state{docs: ahead}, "behind what is known")
	do(t, n, typed(0, 0, 'x'), sent(0, 1))
	wantStopsAtFull(t, n, 0)
}

func TestDeliverWhereLeafsAreFull(t *testing.T) {
	n := played(t, 2, line(0, "abc")...)
	fillLeafs(t, n, 1)
	do(t, n, erased(1, 3), split(1, 0))
	do(t, n, sent(1, 0), sent(0, 1))
	wantStopsAtFull(t, n, 0)
	wantStopsAtFull(t, n, 297)
}

// No event makes such parcels, but whatever is wrong with one is told, those
// ahead stay, and it is no more under way.
func TestDeliverOfAParcelThatIsRefused(t *testing.T) {
	fine := []api.Op{write(at(3, 1), "kd", 'x'), strike(at(3, 2), "hb")}
	for _, c := range []struct {
		wrong []api.Op
		want  api.Errno
	}{
		{[]api.Op{write(at(3, 4), "md", 'x')}, api.ErrState},
		{[]api.Op{write(at(3, 3), "hb", 'x')}, api.ErrClash},
		{[]api.Op{write(at(3, 3), "hb", 'x'), write(at(4, 2), "me", 'x')}, api.ErrClash},
		{[]api.Op{write(at(4, 2), "me", 'x'), write(at(3, 3), "hb", 'x'), strike(at(3, 3), "mb")}, api.ErrState},
	} {
		bytes, err := op.Pack(slices.Concat(fine, c.wrong))
		if err != nil {
			t.Fatal(err)
		}
		n := played(t, 2, line(0, "abc")...)
		do(t, n, sent(1, 0), sent(0, 1))
		n.under = slices.Insert(n.under, 1, parcel{to: 0, bytes: bytes})
		want := told(n)
		want.under = without(want.under, 1)
		want.docs[0] = stateOf(applied(t, append(want.docs[0].ops, fine...)...))
		wantErrno(t, n.Do(delivered(1)), c.want, "Deliver of ", c.wrong)
		wantState(t, n, want, "behind a Deliver of ", c.wrong)
	}
	for _, bytes := range []string{"", "\x00", "\x00\x01", "\x00\x00\x00", "\xff\xff", "abc"} {
		n := fiveUnder(t)
		n.under[2].bytes = bytes
		want := told(n)
		want.under = without(want.under, 2)
		wantErrno(t, n.Do(delivered(2)), api.ErrSyntax, "Deliver of other bytes")
		wantState(t, n, want, "behind a Deliver of other bytes")
	}
}

func TestDeliverOfAParcelThatComesTwice(t *testing.T) {
	n := played(t, 2, line(0, "abc")...)
	do(t, n, erased(0, 1), split(0, 1), sent(0, 1), twice(0), twice(1), delivered(1))
	wantSame(t, n, true)
	ahead := told(n).docs
	do(t, n, delivered(1))
	wantState(t, n, state{docs: ahead, under: n.under[:1]}, "behind one that came twice")
	// It brings nothing back that was done since.
	do(t, n, erased(1, 0), fused(1, 0))
	ahead = told(n).docs
	do(t, n, delivered(0))
	wantState(t, n, state{docs: ahead}, "behind one that came three times")
}

// orders gives all orders of the numbers below n.
func orders(n int) [][]int {
	if n == 0 {
		return [][]int{nil}
	}
	var all [][]int
	for _, l := range orders(n - 1) {
		for i := range n {
			all = append(all, slices.Insert(slices.Clone(l), i, n-1))
		}
	}
	return all
}

// manyUnder has five parcels under way to node 0, of three others, that have
// some ops in common.
func manyUnder(t *testing.T) *Net {
	t.Helper()
	n := played(t, 4, line(1, "abc")...)
	do(t, n, sent(1, 0), sent(1, 2), delivered(1), erased(2, 0), split(2, 0), typed(2, 1, 'x'), sent(2, 0))
	do(t, n, split(1, 1), sent(1, 3), delivered(2), fused(3, 1), typed(3, 3, 'y'), sent(3, 0), sent(1, 0), sent(2, 3), delivered(4), fused(3, 0), sent(3, 0))
	return n
}

// In whichever order parcels come, it comes to the same.
func TestParcelsInAnyOrder(t *testing.T) {
	want := manyUnder(t)
	do(t, want, repeated(5, delivered(0))...)
	if text, _ := want.Text(0); text != "bxcy" {
		t.Fatalf("node 0 has %q", text)
	}
	for _, order := range orders(5) {
		n := manyUnder(t)
		wantUnder(t, n, 5)
		for _, i := range order {
			do(t, n, twice(i), delivered(5)) // the second one comes: the five stand where they stood
		}
		got, whole := stateOf(n.docs[0]), stateOf(want.docs[0])
		got.ops, whole.ops = nil, nil
		if !sameDoc(got, whole) {
			t.Fatalf("in the order %v: got %v, want %v", order, got, whole)
		}
		do(t, n, repeated(5, delivered(0))...)
		got = stateOf(n.docs[0])
		got.ops = nil
		if !sameDoc(got, whole) {
			t.Fatalf("in the order %v, and once more: got %v, want %v", order, got, whole)
		}
	}
}

func TestLose(t *testing.T) {
	for i := range 5 {
		n := fiveUnder(t)
		want := told(n)
		want.under = without(want.under, i)
		do(t, n, lost(i))
		wantState(t, n, want, "behind a Lose of ", i)
		do(t, n, repeated(4, delivered(0))...)
		wantTexts(t, n, "abcde", []string{"abcde", "abcd"}[i/4])
	}
	n := fiveUnder(t)
	do(t, n, repeated(5, lost(0))...)
	wantUnder(t, n, 0)
	wantRefused(t, n, lost(0), api.ErrRange)
	wantTexts(t, n, "abcde", "", "")
	// What was lost is lacked still.
	do(t, n, sent(0, 1), delivered(0))
	wantTexts(t, n, "abcde", "abcde", "")
}

// A parcel that is lost is gone, one that is like it is not.
func TestLoseOfOneThatIsThereTwice(t *testing.T) {
	n := played(t, 2, typed(0, 0, 'a'), sent(0, 1), twice(0), lost(0))
	wantUnder(t, n, 1)
	do(t, n, delivered(0))
	wantTexts(t, n, "a", "a")
}

func TestTwice(t *testing.T) {
	for i := range 5 {
		n := fiveUnder(t)
		want := told(n)
		want.under = append(want.under, want.under[i])
		do(t, n, twice(i))
		wantState(t, n, want, "behind a Twice of ", i)
		do(t, n, delivered(5)) // it stands behind all
		wantTexts(t, n, "abcde", "abcde"[:i+1], "")
		wantUnder(t, n, 5)
		do(t, n, delivered(i))
		wantTexts(t, n, "abcde", "abcde"[:i+1], "")
	}
}

// It is the parcel as it was sent, not what is lacked now.
func TestTwiceIsTheSameParcel(t *testing.T) {
	n := played(t, 2, typed(0, 0, 'a'), sent(0, 1), typed(0, 1, 'b'), twice(0), lost(0), delivered(0))
	wantTexts(t, n, "ab", "a")
}

func TestTwiceWhereItIsFull(t *testing.T) {
	n := fiveUnder(t)
	do(t, n, repeated(94, twice(1))...)
	wantUnder(t, n, 99)
	do(t, n, twice(4))
	wantUnder(t, n, 100)
	for _, i := range []int{0, 1, 50, 98, 99} {
		wantRefused(t, n, twice(i), api.ErrFull)
	}
	// Another error is named ahead of it.
	for _, i := range append([]int{100, 101}, farNumbers...) {
		wantRefused(t, n, twice(i), api.ErrRange)
	}
	wantRefused(t, n, sent(0, 1), api.ErrFull)
	do(t, n, delivered(99))
	wantTexts(t, n, "abcde", "abcde", "")
	do(t, n, twice(98))
	wantRefused(t, n, twice(98), api.ErrFull)
	do(t, n, lost(0), twice(0))
	wantRefused(t, n, twice(0), api.ErrFull)
}

func TestTextAndDoc(t *testing.T) {
	for nodes := 1; nodes <= api.MaxNodes; nodes++ {
		n := made(t, nodes)
		for i := range nodes {
			do(t, n, typed(i, 0, 'a'+i), typed(i, 1, '-'), erased(i, 1), typed(i, 1, 'A'+i))
		}
		for i, want := range []string{"aA", "bB", "cC", "dD"}[:nodes] {
			d, err := n.Doc(i)
			if d == nil || err != nil || d.Text() != want || d.Known()[i] != 4 {
				t.Errorf("Doc(%d) of %d: got %v, %v", i, nodes, d, err)
			}
			if text, err := n.Text(i); text != want || err != nil {
				t.Errorf("Text(%d) of %d: got %q, %v, want %q", i, nodes, text, err, want)
			}
		}
		for _, i := range append([]int{nodes, nodes + 1, 4, 5}, farNumbers...) {
			ahead := told(n)
			text, err := n.Text(i)
			wantErrno(t, err, api.ErrRange, "Text of ", i)
			d, err := n.Doc(i)
			wantErrno(t, err, api.ErrRange, "Doc of ", i)
			if text != "" || d != nil {
				t.Errorf("node %d of %d: got %q, %v with an error", i, nodes, text, d)
			}
			wantState(t, n, ahead, "behind Text and Doc of ", i)
		}
	}
}

// The Doc is the Net's own: what is done is seen in one that was told already.
func TestTheDocIsTheNetsOwn(t *testing.T) {
	n := made(t, 2)
	a, _ := n.Doc(0)
	b, _ := n.Doc(1)
	do(t, n, typed(0, 0, 'a'), split(0, 0))
	if a.Text() != "a" || len(a.Marks()) != 1 || b.Text() != "" {
		t.Errorf("got %q, %v, %q", a.Text(), a.Marks(), b.Text())
	}
	do(t, n, sent(0, 1), delivered(0))
	if b.Text() != "a" || len(b.Marks()) != 1 {
		t.Errorf("got %q, %v", b.Text(), b.Marks())
	}
	do(t, n, sent(1, 0), lost(0), fused(1, 0), erased(1, 0))
	if c, _ := n.Doc(1); c != b || len(c.Book()) != 1 || c.Text() != "" {
		t.Errorf("got %v, want %v", c, b)
	}
}

func TestUnder(t *testing.T) {
	n := made(t, 2)
	for _, c := range []struct {
		e    api.Event
		want int
	}{
		{typed(0, 0, 'a'), 0}, {sent(0, 1), 1}, {sent(0, 1), 2}, {erased(0, 0), 2}, {twice(0), 3}, {twice(2), 4},
		{delivered(1), 3}, {typed(0, 0, 'b'), 3}, {split(0, 0), 3}, {fused(0, 0), 3}, {lost(2), 2}, {sent(1, 0), 3},
		{delivered(2), 2}, {delivered(0), 1}, {lost(0), 0}, {sent(1, 0), 1}, {lost(0), 0},
	} {
		do(t, n, c.e)
		wantUnder(t, n, c.want)
		wantRefused(t, n, sent(1, 1), api.ErrShape)
		wantRefused(t, n, delivered(c.want), api.ErrRange)
		wantUnder(t, n, c.want)
	}
}

func TestSameOfOneNode(t *testing.T) {
	n := made(t, 1)
	wantSame(t, n, true)
	for _, e := range append(line(0, "abc"), split(0, 1), erased(0, 0), fused(0, 0)) {
		do(t, n, e)
		wantSame(t, n, true)
	}
}

// Whichever of them differs, they are not the same.
func TestSameWhereOneHasALetterMore(t *testing.T) {
	for nodes := 2; nodes <= api.MaxNodes; nodes++ {
		for i := range nodes {
			n := made(t, nodes)
			wantSame(t, n, true)
			do(t, n, typed(i, 0, 'a'))
			wantSame(t, n, false)
			for have := 1; have < nodes; have++ {
				wantSame(t, n, false)
				do(t, n, sent(i, (i+have)%nodes), delivered(0))
			}
			wantSame(t, n, true)
		}
	}
}

// brought gives a Net of three nodes that all have one text, all of it by node 0.
func brought(t *testing.T, text string) *Net {
	t.Helper()
	n := played(t, 3, line(0, text)...)
	do(t, n, sent(0, 1), sent(0, 2), delivered(0), delivered(0))
	wantTexts(t, n, text, text, text)
	wantSame(t, n, true)
	return n
}

func TestSameWhereTheTextIsAndTheBookIsNot(t *testing.T) {
	// The same letters, at other places.
	n := played(t, 2, typed(0, 0, 'a'), typed(1, 0, 'a'))
	wantTexts(t, n, "a", "a")
	wantSame(t, n, false)
	for i := range 3 {
		// A letter that is struck already.
		n = brought(t, "ab")
		do(t, n, typed(i, 1, 'x'), erased(i, 1))
		wantTexts(t, n, "ab", "ab", "ab")
		wantSame(t, n, false)
		// Another one of two letters that are alike is struck.
		n = brought(t, "aa")
		do(t, n, erased(i, 0), erased((i+1)%3, 1), erased((i+2)%3, 1))
		wantTexts(t, n, "a", "a", "a")
		wantSame(t, n, false)
	}
}

func TestSameWhereOnlyTheMarksDiffer(t *testing.T) {
	for i := range 3 {
		n := brought(t, "ab")
		do(t, n, split(i, 1))
		wantSame(t, n, false)
		do(t, n, fused(i, 1))
		wantSame(t, n, true)
		// All are cut there, by ops of their own.
		do(t, n, split(0, 0), split(1, 0), split(2, 0))
		wantSame(t, n, false)
		allSend(t, n)
		wantSame(t, n, true)
		do(t, n, fused(i, 0))
		wantSame(t, n, false)
		do(t, n, fused((i+1)%3, 0), fused((i+2)%3, 0))
		wantSame(t, n, true)
	}
}

// It is book and Marks that are asked, not which ops made them.
func TestSameByOtherOps(t *testing.T) {
	n := brought(t, "ab")
	do(t, n, erased(0, 0), erased(1, 0))
	wantSame(t, n, false)
	do(t, n, erased(2, 0))
	wantSame(t, n, true)
	for i := range 3 {
		if known := n.docs[i].Known(); known[i] == n.docs[(i+1)%3].Known()[i] {
			t.Errorf("node %d knows %v: all have the same ops", i, known)
		}
	}
}

// What is under way is not asked.
func TestSameWithParcelsUnderWay(t *testing.T) {
	n := brought(t, "ab")
	do(t, n, sent(0, 1), sent(1, 2), twice(0))
	wantSame(t, n, true)
	n = played(t, 2, typed(0, 0, 'a'), sent(0, 1))
	wantSame(t, n, false)
	do(t, n, lost(0))
	wantSame(t, n, false)
}

func TestSameBehindAllHaveSentToEach(t *testing.T) {
	for nodes := 1; nodes <= api.MaxNodes; nodes++ {
		n := made(t, nodes)
		for i := range nodes {
			do(t, n, line(i, "abcd"[:i+1])...)
			do(t, n, erased(i, i), typed(i, 0, 'x'), split(i, 0))
		}
		wantSame(t, n, nodes == 1)
		allSend(t, n)
		allSend(t, n)
		wantSame(t, n, true)
		for i := range nodes {
			if text := n.docs[i].Text(); len(text) != nodes*(nodes+1)/2 {
				t.Errorf("node %d of %d has %q", i, nodes, text)
			}
		}
	}
}

// Looking changes nothing, and what is given out is the caller's own.
func TestWhatIsGivenOut(t *testing.T) {
	n := someNet(t)
	want := told(n)
	for i := range 3 {
		d, _ := n.Doc(i)
		for _, o := range d.Ops() {
			clear(o.Seen)
		}
		clear(d.Ops())
		clear(d.Book())
		clear(d.Marks())
		clear(d.Known())
		n.Text(i)
		n.Under()
		n.Same()
	}
	wantState(t, n, want, "behind looking at it")
	do(t, n, delivered(0), delivered(0))
	wantTexts(t, n, "abc", "xbyc", "xbyc")
}

func TestNetsBesideEachOther(t *testing.T) {
	a, b := made(t, 2), made(t, 3)
	empty := told(b)
	do(t, a, typed(0, 0, 'a'), split(0, 0), sent(0, 1))
	wantState(t, b, empty, "beside another one")
	do(t, b, typed(0, 0, 'b'), sent(0, 1), sent(0, 2), delivered(0))
	wantTexts(t, a, "a", "")
	wantTexts(t, b, "b", "b", "")
	wantUnder(t, a, 1)
	wantUnder(t, b, 1)
}
