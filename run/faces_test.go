package run_test

import (
	"errors"
	"testing"

	"leafbinder/api"
	"leafbinder/back"
	"leafbinder/book"
	"leafbinder/cache"
	"leafbinder/causal"
	"leafbinder/cursor"
	"leafbinder/diff"
	"leafbinder/dir"
	"leafbinder/doc"
	"leafbinder/dot"
	"leafbinder/edit"
	"leafbinder/find"
	"leafbinder/link"
	"leafbinder/log"
	"leafbinder/marks"
	"leafbinder/net"
	"leafbinder/op"
	"leafbinder/place"
	"leafbinder/plain"
	"leafbinder/run"
	"leafbinder/stat"
	"leafbinder/sync"
)

// What the chapters list: this file does not build if a layer's face is another one.

var (
	_ func(string) error                        = place.Check
	_ func(string, string, int) (string, error) = place.Between
	_ func(string) (int, error)                 = place.Who
	_ func(string, string) (int, error)         = place.Room
)

var (
	_ func(api.Dot) error                   = dot.Check
	_ func([]int) error                     = dot.Vector
	_ func([]int, api.Dot) (bool, error)    = dot.Has
	_ func([]int, api.Dot) ([]int, error)   = dot.Add
	_ func([]int, []int) ([]int, error)     = dot.Merge
	_ func([]int, []int) (int, bool, error) = dot.Compare
	_ func([]int) (string, error)           = dot.Print
	_ func(string) ([]int, error)           = dot.Parse
)

var (
	_ func([]api.Leaf) error                            = book.Check
	_ func([]api.Leaf, string) (int, bool)              = book.Find
	_ func([]api.Leaf) (string, error)                  = book.Text
	_ func([]api.Leaf, int) (int, error)                = book.At
	_ func([]api.Leaf, string) (int, error)             = book.Offset
	_ func([]api.Leaf, string, int) ([]api.Leaf, error) = book.Write
	_ func([]api.Leaf, string) ([]api.Leaf, error)      = book.Strike
)

var (
	_ func([]api.Mark) error                                  = marks.Check
	_ func([]api.Mark, api.Mark) ([]api.Mark, error)          = marks.Cut
	_ func([]api.Mark, string, []api.Dot) ([]api.Mark, error) = marks.Join
	_ func([]api.Mark) ([]string, error)                      = marks.Places
	_ func([]api.Mark, string) ([]api.Dot, error)             = marks.Seen
)

var (
	_ func(api.Op) error             = op.Check
	_ func(api.Op) (string, error)   = op.Encode
	_ func(string) (api.Op, error)   = op.Decode
	_ func([]api.Op) (string, error) = op.Pack
	_ func(string) ([]api.Op, error) = op.Unpack
)

var (
	_ func() *doc.Doc                      = doc.New
	_ func(*doc.Doc, api.Op) (bool, error) = (*doc.Doc).Apply
	_ func(*doc.Doc) []api.Leaf            = (*doc.Doc).Book
	_ func(*doc.Doc) []api.Mark            = (*doc.Doc).Marks
	_ func(*doc.Doc) string                = (*doc.Doc).Text
	_ func(*doc.Doc) []int                 = (*doc.Doc).Known
	_ func(*doc.Doc) []api.Op              = (*doc.Doc).Ops
)

var (
	_ func([]api.Leaf, []api.Mark) ([]api.Stretch, error) = dir.Stretches
	_ func([]api.Leaf, []api.Mark, int) (int, int, error) = dir.Locate
	_ func([]api.Leaf, []api.Mark, int) (string, error)   = dir.Slice
	_ func([]api.Leaf, []api.Mark, string) (int, error)   = dir.Of
)

var (
	_ func(*doc.Doc, int, int, string) ([]api.Op, error) = edit.Insert
	_ func(*doc.Doc, int, int, int) ([]api.Op, error)    = edit.Delete
	_ func(*doc.Doc, int, int) ([]api.Op, error)         = edit.Split
	_ func(*doc.Doc, int, int) ([]api.Op, error)         = edit.Fuse
	_ func(*doc.Doc, []api.Op) error                     = edit.Do
)

var (
	_ func([]api.Leaf, int) (string, error)            = cursor.Anchor
	_ func([]api.Leaf, string) (int, error)            = cursor.Resolve
	_ func([]api.Leaf, string, string) (string, error) = cursor.Range
)

var (
	_ func(*doc.Doc) *causal.Buffer             = causal.New
	_ func(*causal.Buffer, api.Op) (int, error) = (*causal.Buffer).Put
	_ func(*causal.Buffer) []api.Dot            = (*causal.Buffer).Waits
	_ func(*causal.Buffer) *doc.Doc             = (*causal.Buffer).Doc
)

var (
	_ func([]api.Op, []int) ([]api.Op, error)    = sync.Lacks
	_ func(*doc.Doc, *doc.Doc) (int, int, error) = sync.Both
	_ func(*doc.Doc, []int) (string, error)      = sync.Parcel
	_ func(*doc.Doc, string) (int, error)        = sync.Open
)

var (
	_ func(int, int) (*link.End, error) = link.New
	_ func(*link.End, string) error     = (*link.End).Send
	_ func(*link.End) []api.Frame       = (*link.End).Out
	_ func(*link.End, api.Frame) error  = (*link.End).Hear
	_ func(*link.End)                   = (*link.End).Tick
	_ func(*link.End) []string          = (*link.End).Got
	_ func(*link.End) int               = (*link.End).Left
)

var (
	_ func(int) (*cache.Cache, error)            = cache.New
	_ func(*cache.Cache, string, string) error   = (*cache.Cache).Load
	_ func(*cache.Cache, string) (string, error) = (*cache.Cache).Get
	_ func(*cache.Cache, string) error           = (*cache.Cache).Drop
	_ func(*cache.Cache) []string                = (*cache.Cache).Places
	_ func(*cache.Cache) int                     = (*cache.Cache).Used
)

var (
	_ func() *log.Log                      = log.New
	_ func(*log.Log, api.Op) (bool, error) = (*log.Log).Put
	_ func(*log.Log) error                 = (*log.Log).Sync
	_ func(*log.Log, int)                  = (*log.Log).Crash
	_ func(*log.Log, int)                  = (*log.Log).Fail
	_ func(*log.Log) *doc.Doc              = (*log.Log).Doc
	_ func(*log.Log) int                   = (*log.Log).Bytes
	_ func(*log.Log) int                   = (*log.Log).Safe
)

var (
	_ func(int) (*net.Net, error)           = net.New
	_ func(*net.Net, api.Event) error       = (*net.Net).Do
	_ func(*net.Net, int) (string, error)   = (*net.Net).Text
	_ func(*net.Net, int) (*doc.Doc, error) = (*net.Net).Doc
	_ func(*net.Net) int                    = (*net.Net).Under
	_ func(*net.Net) bool                   = (*net.Net).Same
)

var (
	_ func(string, string) ([]api.Edit, error)     = diff.Diff
	_ func(string, []api.Edit) (string, error)     = diff.Apply
	_ func([]api.Edit) int                         = diff.Cost
	_ func(string, []api.Edit) ([]api.Edit, error) = diff.Turn
)

var (
	_ func(*doc.Doc, int) (api.Op, error)        = back.Last
	_ func(*doc.Doc, int, int) ([]api.Op, error) = back.Undo
)

var (
	_ func(string, string) ([]int, error)                   = find.All
	_ func(*doc.Doc, int, string, string) ([]api.Op, error) = find.Replace
	_ func(string, int) ([]string, error)                   = find.Lines
	_ func(string) ([]string, error)                        = find.Words
)

var (
	_ func([]api.Leaf) ([]int, error)    = stat.Written
	_ func([]api.Leaf) (int, error)      = stat.Struck
	_ func([]api.Leaf) ([][2]int, error) = stat.Runs
	_ func([]api.Leaf) (int, error)      = stat.Longest
)

var _ func(string) string = run.Run

// wrapped is an error that is none of the numbers, but wraps one.
type wrapped struct{ error }

func (w wrapped) Unwrap() error { return w.error }

// TestErrnoNumbers: the numbers and names of the document's P3.
func TestErrnoNumbers(t *testing.T) {
	names := []string{"OK", "ErrRange", "ErrSyntax", "ErrShape", "ErrFull", "ErrNone", "ErrState", "ErrClash", "ErrDeep"}
	numbers := []api.Errno{api.OK, api.ErrRange, api.ErrSyntax, api.ErrShape, api.ErrFull, api.ErrNone, api.ErrState, api.ErrClash, api.ErrDeep}
	for i, e := range numbers {
		if int(e) != i || e.Error() != names[i] {
			t.Errorf("%s is %d, want %s %d", e.Error(), e, names[i], i)
		}
		if got := plain.Told(wrapped{e}); got != e {
			t.Errorf("Told of what wraps %v is %v", e, got)
		}
	}
	if plain.Told(nil) != api.OK || plain.Told(errors.New("another one")) != -1 {
		t.Error("Told of nil, or of another error, is wrong")
	}
}

// TestNumbersOfTheChapters: those that stand in the chapters with their values.
func TestNumbersOfTheChapters(t *testing.T) {
	got := [...]int{api.MaxWho, api.MaxPlace, api.MaxText, api.MaxLeafs, api.MaxMarks, api.MaxOps, api.MaxNodes, api.MaxUnder, api.MaxRun}
	want := [...]int{8, 12, 200, 300, 40, 400, 4, 100, 3000}
	if got != want {
		t.Errorf("numbers %v, want %v", got, want)
	}
}
