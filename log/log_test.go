package log

import (
	"errors"
	"fmt"
	"math"
	"math/rand"
	"reflect"
	"slices"
	"strings"
	"testing"

	"leafbinder/api"
	"leafbinder/doc"
)

const tooLong = "zzzzzzzzzzzzb"

func at(who, n int) api.Dot { return api.Dot{Who: who, N: n} }

func write(d api.Dot, p string, letter int) api.Op {
	return api.Op{Dot: d, What: api.Write, Place: p, Letter: letter}
}

func strike(d api.Dot, p string) api.Op { return api.Op{Dot: d, What: api.Strike, Place: p} }

func cut(d api.Dot, p string) api.Op { return api.Op{Dot: d, What: api.Cut, Place: p} }

func join(d api.Dot, p string, seen ...api.Dot) api.Op {
	return api.Op{Dot: d, What: api.Join, Place: p, Seen: seen}
}

// someOps are of each kind, and their records of several lengths.
func someOps() []api.Op {
	return []api.Op{
		write(at(1, 1), "hb", 'a'),
		write(at(1, 2), "hnb", '~'),
		cut(at(2, 1), "hb"),
		strike(at(3, 1), "zzzzzzzzzzzb"),
		join(at(1, 3), "hb", at(2, 1), at(4, 1)),
		write(at(8, 1), "mi", ' '),
		cut(at(4, 1), "hb"), // a join saw it already
		join(at(8, 2), "mi"),
	}
}

// docState is all that a Doc tells.
type docState struct {
	book  []api.Leaf
	marks []api.Mark
	text  string
	known []int
	ops   []api.Op
}

// state is all that a Log tells.
type state struct {
	doc         docState
	bytes, safe int
}

func stateOf(d *doc.Doc) docState {
	return docState{d.Book(), d.Marks(), d.Text(), d.Known(), d.Ops()}
}

func told(l *Log) state { return state{stateOf(l.Doc()), l.Bytes(), l.Safe()} }

func sameOp(a, b api.Op) bool {
	seen := slices.Equal(a.Seen, b.Seen)
	a.Seen, b.Seen = nil, nil
	return seen && reflect.DeepEqual(a, b)
}

func sameDoc(a, b docState) bool {
	return slices.Equal(a.book, b.book) && slices.Equal(a.marks, b.marks) && a.text == b.text &&
		slices.Equal(a.known, b.known) && slices.EqualFunc(a.ops, b.ops, sameOp)
}

func wantState(t *testing.T, l *Log, want state, why ...any) {
	t.Helper()
	got := told(l)
	if !sameDoc(got.doc, want.doc) || got.bytes != want.bytes || got.safe != want.safe {
		t.Fatalf("%s: got %v, want %v", fmt.Sprint(why...), got, want)
	}
}

func wantSizes(t *testing.T, l *Log, bytes, safe int, why ...any) {
	t.Helper()
	if l.Bytes() != bytes || l.Safe() != safe {
		t.Fatalf("%s: %d bytes, %d of them safe, want %d, %d", fmt.Sprint(why...), l.Bytes(), l.Safe(), bytes, safe)
	}
}

// wantDoc of just these ops.
func wantDoc(t *testing.T, l *Log, ops []api.Op, why ...any) {
	t.Helper()
	if got, want := stateOf(l.Doc()), stateOf(applied(t, ops)); !sameDoc(got, want) {
		t.Fatalf("%s: got %v, want %v", fmt.Sprint(why...), got, want)
	}
}

// applied gives a Doc of ops that must all be new to it.
func applied(t *testing.T, ops []api.Op) *doc.Doc {
	t.Helper()
	d := doc.New()
	for _, o := range ops {
		if is, err := d.Apply(o); !is || err != nil {
			t.Fatalf("Apply(%v): got %v, %v", o, is, err)
		}
	}
	return d
}

func wantErrno(t *testing.T, err error, want api.Errno, why ...any) {
	t.Helper()
	var got api.Errno
	if !errors.As(err, &got) || got != want {
		t.Fatalf("%s: got the error %v, want %v", fmt.Sprint(why...), err, want)
	}
}

// put ops that must all be new.
func put(t *testing.T, l *Log, ops ...api.Op) {
	t.Helper()
	for _, o := range ops {
		if is, err := l.Put(o); !is || err != nil {
			t.Fatalf("Put(%v): got %v, %v, want true and no error", o, is, err)
		}
	}
}

func sync(t *testing.T, l *Log) {
	t.Helper()
	if err := l.Sync(); err != nil {
		t.Fatalf("Sync: got %v, want no error", err)
	}
}

func wantKnown(t *testing.T, l *Log, o api.Op) {
	t.Helper()
	ahead := told(l)
	if is, err := l.Put(o); is || err != nil {
		t.Fatalf("Put(%v): got %v, %v, want false and no error", o, is, err)
	}
	wantState(t, l, ahead, "after the known ", o)
}

func wantRefused(t *testing.T, l *Log, o api.Op, want api.Errno) {
	t.Helper()
	ahead := told(l)
	is, err := l.Put(o)
	wantErrno(t, err, want, "Put of ", o)
	if is {
		t.Fatalf("Put(%v): got true beside %v", o, err)
	}
	wantState(t, l, ahead, "after the refused ", o)
}

// wantStopsAtPut of an op that is new, of which half is there.
func wantStopsAtPut(t *testing.T, l *Log, o api.Op) {
	t.Helper()
	want := told(l)
	want.bytes += long(t, want.doc.ops, o) / 2
	is, err := l.Put(o)
	wantErrno(t, err, api.ErrState, "Put of ", o)
	if is {
		t.Fatalf("Put(%v): got true beside %v", o, err)
	}
	wantState(t, l, want, "after it stopped at ", o)
	wantStopped(t, l)
}

func wantStopsAtSync(t *testing.T, l *Log) {
	t.Helper()
	ahead := told(l)
	wantErrno(t, l.Sync(), api.ErrState, "Sync")
	wantState(t, l, ahead, "after it stopped at a Sync")
	wantStopped(t, l)
}

// wantStopped: each Put and Sync is refused, and nothing is changed.
func wantStopped(t *testing.T, l *Log) {
	t.Helper()
	ahead := told(l)
	ops := append(someOps(), ahead.doc.ops...)
	ops = append(ops, write(at(7, 1), "zzb", 'z'), write(at(7, 2), "zzb", 'z'), api.Op{}, cut(at(9, 1), tooLong))
	for range 2 {
		for _, o := range ops {
			wantRefused(t, l, o, api.ErrState)
		}
		wantErrno(t, l.Sync(), api.ErrState, "Sync of one that has stopped")
		wantState(t, l, ahead, "after a Sync of one that has stopped")
	}
}

// logOf ops, nothing of which is safe; and how many bytes there are behind each.
func logOf(t *testing.T, ops []api.Op) (*Log, []int) {
	t.Helper()
	l := New()
	var ends []int
	for _, o := range ops {
		put(t, l, o)
		ends = append(ends, l.Bytes())
	}
	return l, ends
}

// long tells how many bytes an op's record has, behind those of others.
func long(t *testing.T, ahead []api.Op, o api.Op) int {
	t.Helper()
	l, _ := logOf(t, ahead)
	n := l.Bytes()
	put(t, l, o)
	return l.Bytes() - n
}

// safeLog is one of ops all of which are safe.
func safeLog(t *testing.T, ops []api.Op) *Log {
	t.Helper()
	l, _ := logOf(t, ops)
	sync(t, l)
	return l
}

// wholeOf tells how many records are whole, of so many bytes.
func wholeOf(ends []int, bytes int) int {
	n := 0
	for n < len(ends) && ends[n] <= bytes {
		n++
	}
	return n
}

func TestNew(t *testing.T) {
	l := New()
	wantState(t, l, state{doc: docState{known: make([]int, 8)}}, "a new one")
	put(t, l, write(at(1, 1), "hb", 'a'))
	wantState(t, New(), state{doc: docState{known: make([]int, 8)}}, "a new one beside another")
}

func TestPut(t *testing.T) {
	l := New()
	ops := someOps()
	for i, o := range ops {
		ahead := l.Bytes()
		put(t, l, o)
		wantDoc(t, l, ops[:i+1], "after ", o)
		if n := l.Bytes() - ahead; n < 2 {
			t.Errorf("Put(%v): %d bytes came, want at least 2", o, n)
		}
		wantSizes(t, l, l.Bytes(), 0, "after ", o)
	}
	want := docState{
		book:  []api.Leaf{{Place: "hb", Letter: 'a'}, {Place: "hnb", Letter: '~'}, {Place: "mi", Letter: ' '}, {Place: "zzzzzzzzzzzb", Struck: true}},
		text:  "a~ ",
		known: []int{3, 1, 1, 1, 0, 0, 0, 2},
		ops:   ops,
	}
	wantState(t, l, state{want, l.Bytes(), 0}, "ops of each kind")
}

func TestPutOfWhatIsKnown(t *testing.T) {
	l, _ := logOf(t, someOps())
	for _, o := range someOps() {
		wantKnown(t, l, o)
		wantKnown(t, l, write(o.Dot, "hb", 'z')) // another letter is there
		wantKnown(t, l, strike(o.Dot, "nb"))
		wantKnown(t, l, join(o.Dot, "hb"))
	}
	sync(t, l)
	for _, o := range someOps() {
		wantKnown(t, l, o)
	}
}

type wrongOp struct {
	o    api.Op
	want api.Errno
}

// wrongOps behind someOps are refused by Apply.
func wrongOps() []wrongOp {
	many := make([]api.Dot, 41)
	for i := range many {
		many[i] = at(1, i+1)
	}
	next := at(2, 2)
	return []wrongOp{
		{api.Op{}, api.ErrRange},
		{write(at(0, 1), "hb", 'a'), api.ErrRange},
		{write(at(9, 1), "hb", 'a'), api.ErrRange},
		{strike(at(1, 0), "hb"), api.ErrRange},
		{cut(at(1, 10000), tooLong), api.ErrRange},
		{join(at(math.MinInt, math.MaxInt), ""), api.ErrRange},
		{api.Op{Dot: next, Place: "hb"}, api.ErrRange},
		{api.Op{Dot: next, What: 5, Place: "hb"}, api.ErrRange},
		{api.Op{Dot: next, What: math.MinInt, Place: "hb"}, api.ErrRange},
		{write(next, "", 'a'), api.ErrSyntax},
		{strike(next, "ha"), api.ErrSyntax},
		{cut(next, tooLong), api.ErrFull},
		{join(next, strings.Repeat("?", 1000)), api.ErrFull},
		{write(next, "nb", 31), api.ErrRange},
		{write(next, "nb", 127), api.ErrRange},
		{write(next, "nb", 'a'+256), api.ErrRange},
		{api.Op{Dot: next, What: api.Strike, Place: "hb", Letter: 'a'}, api.ErrShape},
		{api.Op{Dot: next, What: api.Cut, Place: "hb", Letter: -1}, api.ErrShape},
		{join(next, "hb", many...), api.ErrFull},
		{join(next, "hb", at(1, 10000)), api.ErrRange},
		{join(next, "hb", at(2, 1), at(1, 1)), api.ErrClash},
		{api.Op{Dot: next, What: api.Cut, Place: "hb", Seen: many[:1]}, api.ErrShape},
		{write(at(1, 1), "hb", 0), api.ErrRange}, // its dot is known, but it is asked later
		{write(at(2, 3), "nb", 'a'), api.ErrState},
		{write(at(2, 9999), "hb", 'z'), api.ErrState},
		{write(at(5, 2), "nb", 'a'), api.ErrState},
		{write(next, "hb", 'b'), api.ErrClash},
	}
}

func TestPutOfWhatApplyRefuses(t *testing.T) {
	l, _ := logOf(t, someOps())
	for _, c := range wrongOps() {
		wantRefused(t, l, c.o, c.want)
	}
	sync(t, l)
	for _, c := range wrongOps() {
		wantRefused(t, l, c.o, c.want)
	}
	put(t, l, write(at(2, 2), "nb", 'a'))
}

// numbered gives so many places.
func numbered(n int) []string {
	var l []string
	for i := range n {
		l = append(l, string([]byte{byte('b' + i/20), byte('b' + i%20), 'b'}))
	}
	return l
}

// fullOf ops of one author, made by their numbers, from 1 on.
func fullOf(n int, made func(n int) api.Op) []api.Op {
	var l []api.Op
	for i := range n {
		l = append(l, made(i+1))
	}
	return l
}

type fullOps struct {
	ops     []api.Op
	refused api.Op // by ErrFull
	taken   api.Op // not refused
}

func allFull() []fullOps {
	places := numbered(api.MaxLeafs)
	return []fullOps{
		{
			fullOf(api.MaxLeafs, func(n int) api.Op { return write(at(1, n), places[n-1], 'a') }),
			write(at(2, 1), "zzb", 'a'),
			strike(at(2, 1), "bbb"),
		},
		{
			fullOf(api.MaxMarks, func(n int) api.Op { return cut(at(1, n), "hb") }),
			cut(at(2, 1), "mb"),
			join(at(2, 1), "hb", at(1, 3)),
		},
		{
			fullOf(api.MaxOps, func(n int) api.Op { return join(at(1, n), "hb") }),
			join(at(2, 1), "hb"),
			api.Op{},
		},
	}
}

func TestPutWhereItIsFull(t *testing.T) {
	for _, c := range allFull() {
		l, _ := logOf(t, c.ops)
		wantRefused(t, l, c.refused, api.ErrFull)
		wantKnown(t, l, c.ops[len(c.ops)-1])
		l.Fail(1) // what is refused is no step, so there is one more
		wantRefused(t, l, c.refused, api.ErrFull)
		sync(t, l)
		wantRefused(t, l, c.refused, api.ErrFull)
		if c.taken.What == 0 {
			wantStopsAtSync(t, l)
		} else {
			wantStopsAtPut(t, l, c.taken)
		}
		l.Crash(0)
		wantDoc(t, l, c.ops, "all was safe")
		wantRefused(t, l, c.refused, api.ErrFull)
	}
}

func TestSync(t *testing.T) {
	l := New()
	sync(t, l)
	wantState(t, l, state{doc: docState{known: make([]int, 8)}}, "a Sync of nothing")
	ops := someOps()
	for i, o := range ops {
		safe := l.Safe()
		put(t, l, o)
		bytes := l.Bytes()
		wantSizes(t, l, bytes, safe, "ahead of a Sync")
		sync(t, l)
		wantSizes(t, l, bytes, bytes, "behind a Sync")
		wantDoc(t, l, ops[:i+1], "behind a Sync")
		sync(t, l)
		wantSizes(t, l, bytes, bytes, "behind a Sync once more")
		wantDoc(t, l, ops[:i+1], "behind a Sync once more")
	}
}

func TestSyncOfSeveral(t *testing.T) {
	l, ends := logOf(t, someOps()[:3])
	sync(t, l)
	wantSizes(t, l, ends[2], ends[2], "three at once")
	put(t, l, someOps()[3:]...)
	wantSizes(t, l, l.Bytes(), ends[2], "more behind them")
	sync(t, l)
	wantSizes(t, l, l.Bytes(), l.Bytes(), "all of them")
}

// Fail of each number, with Puts and Syncs in turn.
func TestFail(t *testing.T) {
	ops := someOps()
	for n := range 2 * len(ops) {
		l := New()
		l.Fail(n)
		for i, o := range ops[:n/2] {
			put(t, l, o)
			sync(t, l)
			wantSizes(t, l, l.Bytes(), l.Bytes(), "step ", i)
		}
		o := ops[n/2]
		if n%2 == 0 {
			wantStopsAtPut(t, l, o)
			continue
		}
		put(t, l, o)
		wantStopsAtSync(t, l)
	}
}

func TestFailThatIsNeverComeTo(t *testing.T) {
	for _, n := range []int{-1, -2, math.MinInt, len(someOps()) + 3, math.MaxInt} {
		l := New()
		l.Fail(n)
		sync(t, l)
		put(t, l, someOps()...)
		sync(t, l)
		sync(t, l)
		wantDoc(t, l, someOps(), "Fail of ", n)
		wantSizes(t, l, l.Bytes(), l.Bytes(), "Fail of ", n)
	}
}

func TestFailAtPutsAlone(t *testing.T) {
	for n, o := range someOps() {
		l := New()
		l.Fail(n)
		put(t, l, someOps()[:n]...)
		wantStopsAtPut(t, l, o)
	}
}

func TestFailAtSyncsAlone(t *testing.T) {
	for n := range 4 {
		l := New()
		l.Fail(n)
		for range n {
			sync(t, l)
		}
		wantStopsAtSync(t, l)
	}
}

func TestFailAtASyncWithSomethingThere(t *testing.T) {
	l, ends := logOf(t, someOps()[:2])
	sync(t, l)
	put(t, l, someOps()[2:5]...)
	l.Fail(0)
	wantStopsAtSync(t, l)
	wantSizes(t, l, l.Bytes(), ends[1], "what was safe ahead of it")
	wantDoc(t, l, someOps()[:5], "all that was put")
	l.Crash(0)
	wantDoc(t, l, someOps()[:2], "what was safe")
}

// Half of a record is rounded down: records of both kinds come.
func TestHalfOfARecord(t *testing.T) {
	odd, even := 0, 0
	for _, o := range []api.Op{
		write(at(1, 1), "hb", 'a'),
		write(at(1, 1), "hnb", 'a'),
		write(at(1, 1), "hnnb", 'a'),
		strike(at(1, 1), "hb"),
		strike(at(1, 1), "hnb"),
		join(at(1, 1), "hb", at(1, 1), at(2, 1)),
		join(at(1, 1), "hb", at(1, 1), at(2, 1), at(2, 2)),
	} {
		n := long(t, nil, o)
		if n%2 == 0 {
			even++
		} else {
			odd++
		}
		l := New()
		l.Fail(0)
		wantStopsAtPut(t, l, o)
		wantSizes(t, l, n/2, 0, "half of ", o)
		l.Crash(math.MaxInt)
		wantSizes(t, l, 0, 0, "no whole one of ", o)
	}
	if odd == 0 || even == 0 {
		t.Errorf("%d records of an odd length, %d of an even one", odd, even)
	}
}

func TestWhatIsNoStep(t *testing.T) {
	for n := range 4 {
		l, _ := logOf(t, someOps())
		l.Fail(n)
		for range n {
			noSteps(t, l)
			sync(t, l)
		}
		noSteps(t, l)
		wantStopsAtPut(t, l, write(at(2, 2), "nb", 'a'))
	}
	l, _ := logOf(t, someOps())
	l.Fail(0)
	noSteps(t, l)
	wantStopsAtSync(t, l)
}

// noSteps puts, behind someOps, what is known and what is refused.
func noSteps(t *testing.T, l *Log) {
	t.Helper()
	for _, o := range someOps() {
		wantKnown(t, l, o)
	}
	for _, c := range wrongOps() {
		wantRefused(t, l, c.o, c.want)
	}
}

// Looking is no step either.
func TestLookingIsNoStep(t *testing.T) {
	l := New()
	l.Fail(1)
	for range 3 {
		told(l)
	}
	put(t, l, someOps()[0])
	for range 3 {
		told(l)
	}
	wantStopsAtPut(t, l, someOps()[1])
}

func TestANewFailTakesThePlaceOfTheOneAhead(t *testing.T) {
	ops := someOps()
	l := New()
	l.Fail(0)
	l.Fail(2)
	put(t, l, ops[:2]...)
	l.Fail(1) // in the place of the one that was next
	put(t, l, ops[2])
	l.Fail(-1)
	put(t, l, ops[3:5]...)
	l.Fail(5)
	sync(t, l)
	l.Fail(0)
	wantStopsAtPut(t, l, ops[5])

	l = New()
	l.Fail(0)
	l.Fail(math.MinInt)
	put(t, l, ops...)
	sync(t, l)

	l = New()
	l.Fail(-1)
	l.Fail(0)
	wantStopsAtSync(t, l)
}

func TestFailWhileItHasStopped(t *testing.T) {
	for _, n := range []int{math.MinInt, -1, 0, 1, 5, math.MaxInt} {
		l, _ := logOf(t, someOps()[:3])
		sync(t, l)
		l.Fail(0)
		wantStopsAtPut(t, l, someOps()[3])
		ahead := told(l)
		l.Fail(n)
		wantState(t, l, ahead, "Fail of ", n)
		wantStopped(t, l)
		l.Crash(0) // and it is forgotten
		put(t, l, someOps()[3:]...)
		sync(t, l)
		wantDoc(t, l, someOps(), "Fail of ", n)
	}
}

// A Doc that was told ahead of a stop is as it was, too.
func TestTheDocThatWasToldAheadOfAStop(t *testing.T) {
	for i, o := range someOps() {
		l, _ := logOf(t, someOps()[:i])
		d := l.Doc()
		l.Fail(0)
		wantStopsAtPut(t, l, o)
		if !sameDoc(stateOf(d), stateOf(applied(t, someOps()[:i]))) {
			t.Errorf("Put(%v) stopped, but came to the Doc: %v", o, stateOf(d))
		}
	}
}

// The Doc is the Log's own: what is put is seen in one that was told already.
func TestTheDocIsTheLogsOwn(t *testing.T) {
	l := New()
	d := l.Doc()
	for i, o := range someOps() {
		put(t, l, o)
		if !sameDoc(stateOf(d), stateOf(applied(t, someOps()[:i+1]))) {
			t.Errorf("after %v its Doc is %v", o, stateOf(d))
		}
	}
}

// wantCrash of a Log of ops, of which so many were safe: at these bytes to keep.
func wantCrash(t *testing.T, l *Log, keep int, ops []api.Op, ends []int, safe int) {
	t.Helper()
	atSafe := 0
	if safe > 0 {
		atSafe = ends[safe-1]
	}
	// From the end backwards, so that no sum is too great.
	kept := max(0, min(keep, l.Bytes()-atSafe))
	n := wholeOf(ends, atSafe+kept)
	l.Crash(keep)
	wantState(t, l, told(safeLog(t, ops[:n])), "Crash of ", keep, ", ", safe, " were safe")
}

// Each number of bytes to keep, with each number of ops that are safe.
func TestCrash(t *testing.T) {
	ops := someOps()
	_, ends := logOf(t, ops)
	all := ends[len(ends)-1]
	for safe := range len(ops) + 1 {
		keeps := []int{math.MinInt, -all, math.MaxInt, math.MaxInt - all, math.MaxInt - 1}
		for keep := -2; keep <= all+2; keep++ {
			keeps = append(keeps, keep)
		}
		for _, keep := range keeps {
			l := safeLog(t, ops[:safe])
			put(t, l, ops[safe:]...)
			wantCrash(t, l, keep, ops, ends, safe)
		}
	}
}

func TestCrashAtTheEndsOfARecord(t *testing.T) {
	ops := someOps()
	for i := range ops {
		ahead := safeLog(t, ops[:i]).Bytes()
		n := long(t, ops[:i], ops[i])
		for _, c := range []struct{ keep, left int }{
			{math.MinInt, i},
			{-1, i},
			{0, i},
			{1, i},
			{n / 2, i},
			{n - 1, i},
			{n, i + 1},
			{n + 1, i + 1},
		} {
			l := safeLog(t, ops[:i])
			put(t, l, ops[i:]...)
			l.Crash(c.keep)
			left := min(c.left, len(ops))
			wantDoc(t, l, ops[:left], "Crash of ", c.keep)
			want := ahead
			if left > i {
				want += n
			}
			wantSizes(t, l, want, want, "Crash of ", c.keep)
		}
	}
}

func TestCrashOfNothing(t *testing.T) {
	for _, keep := range []int{math.MinInt, -1, 0, 1, 2, 100, math.MaxInt} {
		l := New()
		l.Crash(keep)
		wantState(t, l, told(New()), "Crash of ", keep)
		l.Crash(keep)
		wantState(t, l, told(New()), "Crash of ", keep, " once more")
		put(t, l, someOps()...)
		sync(t, l)
		wantState(t, l, told(safeLog(t, someOps())), "what came behind it")
	}
}

func TestCrashWhereAllIsSafe(t *testing.T) {
	for _, keep := range []int{math.MinInt, -1, 0, 1, math.MaxInt} {
		l := safeLog(t, someOps())
		ahead := told(l)
		l.Crash(keep)
		wantState(t, l, ahead, "Crash of ", keep)
		l.Crash(keep)
		wantState(t, l, ahead, "Crash of ", keep, " once more")
	}
}

// What the first one left is safe: the next one takes nothing of it.
func TestCrashTwice(t *testing.T) {
	ops := someOps()
	l, ends := logOf(t, ops)
	l.Crash(ends[4] + 1)
	want := told(safeLog(t, ops[:5]))
	wantState(t, l, want, "the first one")
	l.Crash(-1)
	wantState(t, l, want, "the second one")
	put(t, l, ops[5:]...)
	l.Crash(0)
	wantState(t, l, want, "the third one")
	put(t, l, ops[5:]...)
	l.Crash(ends[5] - ends[4])
	wantState(t, l, told(safeLog(t, ops[:6])), "the fourth one")
}

// The half of a record that a Fail left goes in each case: it was never safe.
func TestCrashBehindAFailAtAPut(t *testing.T) {
	ops := someOps()
	_, ends := logOf(t, ops)
	for i := range ops {
		for safe := range i + 1 {
			for keep := -1; keep <= ends[i]+1; keep++ {
				l := safeLog(t, ops[:safe])
				put(t, l, ops[safe:i]...)
				l.Fail(0)
				wantErrno(t, second(l.Put(ops[i])), api.ErrState, "Put of ", ops[i])
				wantCrash(t, l, keep, ops, ends[:i], safe)
			}
		}
	}
}

func second(_ bool, err error) error { return err }

func TestCrashBehindAFailAtASync(t *testing.T) {
	ops := someOps()
	_, ends := logOf(t, ops)
	for keep := -1; keep <= ends[len(ends)-1]; keep++ {
		l := safeLog(t, ops[:3])
		put(t, l, ops[3:]...)
		l.Fail(0)
		wantErrno(t, l.Sync(), api.ErrState, "Sync")
		wantCrash(t, l, keep, ops, ends, 3)
	}
}

// Behind a Crash it answers as a new one with the ops that are left.
func TestItGoesOn(t *testing.T) {
	ops := someOps()
	for i := range ops {
		l := safeLog(t, ops[:i])
		put(t, l, ops[i:]...)
		l.Crash(0)
		for _, o := range ops[:i] {
			wantKnown(t, l, o)
		}
		lost := l.Doc().Known()[0] + 1 // of author 1, or none yet
		wantRefused(t, l, write(at(1, lost+1), "nb", 'x'), api.ErrState)
		for k, o := range ops[i:] {
			put(t, l, o) // it is new again
			wantDoc(t, l, ops[:i+k+1], "behind a Crash")
		}
		wantSizes(t, l, l.Bytes(), safeLog(t, ops[:i]).Bytes(), "ahead of a Sync")
		sync(t, l)
		wantState(t, l, told(safeLog(t, ops)), "behind a Sync")
	}
}

func TestWhatWasLostMayComeOtherwise(t *testing.T) {
	l := safeLog(t, []api.Op{write(at(1, 1), "hb", 'a')})
	put(t, l, write(at(1, 2), "mb", 'b'), write(at(2, 1), "nb", 'c'))
	l.Crash(3)
	wantRefused(t, l, write(at(1, 3), "nb", 'd'), api.ErrState)
	put(t, l, write(at(1, 2), "mb", 'x')) // another letter, by the same dot
	if got := l.Doc().Text(); got != "ax" {
		t.Errorf("got %q, want %q", got, "ax")
	}
}

func TestWhatFailSaidIsForgotten(t *testing.T) {
	ops := someOps()
	for _, n := range []int{0, 1, 2, 3, 7} {
		l := New()
		l.Fail(n)
		l.Crash(0)
		put(t, l, ops...)
		sync(t, l)
		wantState(t, l, told(safeLog(t, ops)), "Fail of ", n, " ahead of a Crash")

		l, _ = logOf(t, ops[:1])
		l.Fail(n + 2)
		put(t, l, ops[1:3]...)
		l.Crash(math.MaxInt)
		put(t, l, ops[3:]...)
		sync(t, l)
		wantState(t, l, told(safeLog(t, ops)), "Fail of ", n+2, " that had begun")

		l.Fail(0) // a new one holds
		wantStopsAtSync(t, l)
	}
}

func TestItStopsOftenAndGoesOn(t *testing.T) {
	l := New()
	for i, o := range someOps() {
		l.Fail(0)
		wantStopsAtPut(t, l, o)
		l.Crash(math.MaxInt)
		wantState(t, l, told(safeLog(t, someOps()[:i])), "stopped at ", o)
		l.Fail(1)
		put(t, l, o)
		wantStopsAtSync(t, l)
		l.Crash(math.MaxInt)
		wantState(t, l, told(safeLog(t, someOps()[:i+1])), "stopped behind ", o)
	}
}

// What a join saw that is still to come is known behind a Crash, too.
func TestACutBehindACrashThatAJoinSaw(t *testing.T) {
	saw := join(at(1, 1), "hb", at(2, 1))
	l := safeLog(t, []api.Op{saw})
	l.Crash(0)
	put(t, l, cut(at(2, 1), "hb"))
	if m := l.Doc().Marks(); len(m) != 0 {
		t.Errorf("got the marks %v, want none", m)
	}

	l, _ = logOf(t, []api.Op{saw})
	l.Crash(0) // the join is lost
	put(t, l, cut(at(2, 1), "hb"))
	if m := l.Doc().Marks(); !slices.Equal(m, []api.Mark{{Place: "hb", Dot: at(2, 1)}}) {
		t.Errorf("got the marks %v, want that of the cut", m)
	}
}

func TestOpsAtTheirBounds(t *testing.T) {
	var many []api.Dot
	for i := range api.MaxMarks {
		many = append(many, at(1+i/5, 9995+i%5))
	}
	ops := []api.Op{
		join(at(8, 1), "zzzzzzzzzzzi", many...),
		write(at(8, 2), "zzzzzzzzzzzi", '~'),
		write(at(8, 3), "bb", ' '),
		join(at(1, 1), "bb", many[:1]...),
	}
	l, ends := logOf(t, ops)
	for i := range ops {
		l.Crash(ends[i] - l.Safe())
		wantState(t, l, told(safeLog(t, ops[:i+1])), "ops at their bounds")
		put(t, l, ops[i+1:]...)
	}
}

// A full one, with a Sync now and then, is kept to the last one that was safe.
func TestAFullLog(t *testing.T) {
	ops := fullOf(api.MaxOps, func(n int) api.Op { return strike(at(1+(n-1)%8, 1+(n-1)/8), "hb") })
	l := safeLog(t, ops[:250])
	safe := l.Safe()
	put(t, l, ops[250:]...)
	wantRefused(t, l, strike(at(1, 51), "hb"), api.ErrFull)
	all := l.Bytes()
	l.Crash(all - safe - 1)
	wantDoc(t, l, ops[:399], "but for the last byte")
	put(t, l, ops[399])
	wantSizes(t, l, all, l.Safe(), "the last one again")
	l.Crash(all)
	wantDoc(t, l, ops, "all of it")
	wantRefused(t, l, strike(at(1, 51), "hb"), api.ErrFull)
}

func TestNothingHandedInIsWrittenIntoOrKept(t *testing.T) {
	for _, fail := range []int{-1, 1} {
		memory := []api.Dot{at(2, 1), at(3, 1), at(4, 1), at(5, 1)}
		handed := slices.Clone(memory)
		l := New()
		l.Fail(fail)
		put(t, l, join(at(1, 1), "hb", handed[:2]...))
		l.Put(join(at(1, 2), "hb", handed[1:3]...))
		l.Sync()
		if !slices.Equal(handed, memory) {
			t.Errorf("what was handed in is %v now, was %v", handed, memory)
		}
		want := told(l)
		for i := range handed {
			handed[i] = at(7, 7)
		}
		wantState(t, l, want, "after the list was changed")
	}
	handed := []api.Dot{at(2, 1)}
	l := New()
	put(t, l, join(at(1, 1), "hb", handed...))
	handed[0] = at(3, 1)
	l.Crash(math.MaxInt)
	wantDoc(t, l, []api.Op{join(at(1, 1), "hb", at(2, 1))}, "behind a Crash")
}

// What the Doc gave out is the caller's own.
func TestWhatIsGivenOut(t *testing.T) {
	l, _ := logOf(t, someOps())
	want := told(l)
	given := l.Doc().Ops()
	for i := range given {
		for k := range given[i].Seen {
			given[i].Seen[k] = at(7, 7)
		}
		given[i] = api.Op{}
	}
	clear(l.Doc().Book())
	clear(l.Doc().Marks())
	clear(l.Doc().Known())
	wantState(t, l, want, "after what it gave was changed")
	l.Crash(math.MaxInt)
	wantDoc(t, l, someOps(), "behind a Crash")
}

// What was told ahead of a Crash stays as it was told.
func TestACrashDoesNotChangeWhatIsGivenOut(t *testing.T) {
	l, _ := logOf(t, someOps())
	ahead := told(l)
	want := told(safeLog(t, someOps()))
	l.Crash(0)
	put(t, l, write(at(1, 1), "mb", 'z'), cut(at(1, 2), "mb"))
	if !sameDoc(ahead.doc, want.doc) {
		t.Errorf("what was told is %v now, was %v", ahead.doc, want.doc)
	}
}

func TestLogsBesideEachOther(t *testing.T) {
	a, b := New(), New()
	put(t, a, someOps()[:4]...)
	wantState(t, b, told(New()), "beside another")
	put(t, b, write(at(1, 1), "nb", 'x'))
	sync(t, a)
	wantSizes(t, b, b.Bytes(), 0, "a Sync beside it")
	want := told(b)
	a.Fail(0)
	wantStopsAtSync(t, a)
	wantState(t, b, want, "a stop beside it")
	put(t, b, write(at(1, 2), "zb", 'y'))
	b.Crash(0)
	wantDoc(t, b, nil, "a Crash of one")
	wantDoc(t, a, someOps()[:4], "a Crash beside it")
	wantStopped(t, a)
	put(t, b, someOps()...)
}

// model is a plain list of ops, and how long their records are.
type model struct {
	ops     []api.Op
	longs   []int
	half    int // bytes behind the last record
	safe    int // ops
	toGo    int
	stopped bool
}

func (m *model) bytesOf(n int) int {
	all := 0
	for _, long := range m.longs[:n] {
		all += long
	}
	return all
}

func (m *model) state(t *testing.T) state {
	return state{stateOf(applied(t, m.ops)), m.bytesOf(len(m.ops)) + m.half, m.bytesOf(m.safe)}
}

// step tells whether it stops here.
func (m *model) step() bool {
	m.toGo--
	m.stopped = m.toGo == -1
	return m.stopped
}

func (m *model) put(t *testing.T, o api.Op) (bool, error) {
	if m.stopped {
		return false, api.ErrState
	}
	if is, err := applied(t, m.ops).Apply(o); !is || err != nil {
		return false, err
	}
	n := long(t, m.ops, o)
	if m.step() {
		m.half = n / 2
		return false, api.ErrState
	}
	m.ops, m.longs = append(m.ops, o), append(m.longs, n)
	return true, nil
}

func (m *model) sync() error {
	if m.stopped || m.step() {
		return api.ErrState
	}
	m.safe = len(m.ops)
	return nil
}

func (m *model) crash(keep int) {
	n := m.safe
	for n < len(m.ops) && m.longs[n] <= keep {
		keep -= m.longs[n]
		n++
	}
	*m = model{ops: m.ops[:n], longs: m.longs[:n], safe: n, toGo: -1}
}

func (m *model) count(who int) int {
	n := 0
	for _, o := range m.ops {
		if o.Dot.Who == who {
			n++
		}
	}
	return n
}

// anyOp of few places and authors, so that ops meet; now and then a wrong one.
func anyOp(r *rand.Rand, m *model) api.Op {
	who := 1 + r.Intn(4)
	n := max(1, m.count(who)+1-r.Intn(2)*r.Intn(3)+r.Intn(2)*r.Intn(2))
	p := []string{"bb", "hb", "hc", "hnd", "mb", "zze"}[r.Intn(6)]
	switch r.Intn(9) {
	case 0:
		return strike(at(who, n), p)
	case 1:
		return cut(at(who, n), p)
	case 2:
		return join(at(who, n), p, at(1, 1+r.Intn(5)), at(2, 1+r.Intn(5)), at(3, 1+r.Intn(5)))
	case 3:
		wrong := wrongOps()
		return wrong[r.Intn(len(wrong))].o
	}
	return write(at(who, n), p, 'a'+r.Intn(20)/19)
}

func errno(err error) api.Errno {
	var e api.Errno
	if err != nil && !errors.As(err, &e) {
		return -1
	}
	return e
}

// play a step of both, and tell what it was, and whether both answered the same.
func play(t *testing.T, r *rand.Rand, l *Log, m *model) (string, bool) {
	switch r.Intn(16) {
	case 0, 1:
		got, want := l.Sync(), m.sync()
		return fmt.Sprint("Sync: ", got, ", want ", want), errno(got) == errno(want)
	case 2:
		n := r.Intn(12) - 2
		l.Fail(n)
		m.toGo = n
		return fmt.Sprint("Fail of ", n), true
	case 3:
		if !m.stopped && r.Intn(4) > 0 {
			return "nothing", true
		}
		keep := r.Intn(80) - 5
		l.Crash(keep)
		m.crash(keep)
		return fmt.Sprint("Crash of ", keep), true
	}
	o := anyOp(r, m)
	is, err := l.Put(o)
	want, wantErr := m.put(t, o)
	why := fmt.Sprint("Put of ", o, ": ", is, ", ", err, ", want ", want, ", ", wantErr)
	return why, is == want && errno(err) == errno(wantErr)
}

func TestLongPlay(t *testing.T) {
	stops, lost := 0, 0
	for seed := range 40 {
		r := rand.New(rand.NewSource(int64(seed)))
		l, m := New(), &model{toGo: -1}
		for step := range 300 {
			stopped, had := m.stopped, len(m.ops)
			why, is := play(t, r, l, m)
			if !is {
				t.Fatalf("seed %d, step %d: %s", seed, step, why)
			}
			wantState(t, l, m.state(t), "seed ", seed, ", step ", step, ": ", why)
			if m.stopped && !stopped {
				stops++
			}
			lost += max(0, had-len(m.ops))
		}
	}
	if stops < 100 || lost < 100 {
		t.Errorf("it stopped %d times and lost %d ops: the play is too tame", stops, lost)
	}
}

// What is answered hangs on the calls alone.
func TestTheSameCallsAreAnsweredTheSame(t *testing.T) {
	played := func() (*Log, string) {
		r := rand.New(rand.NewSource(7))
		l, m := New(), &model{toGo: -1}
		all := ""
		for range 200 {
			why, _ := play(t, r, l, m)
			all += why + "\n"
		}
		return l, all
	}
	a, said := played()
	b, again := played()
	if said != again {
		t.Error("the same calls were answered otherwise")
	}
	wantState(t, a, told(b), "the same calls")
}
