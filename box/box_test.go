package box

import (
	"runtime"
	"slices"
	"strings"
	"testing"
	"time"
	"unsafe"

	"tailor/api"
)

func file(name, text string) api.File {
	return api.File{Name: name, Text: text}
}

// newBox makes a box of files that may be.
func newBox(t *testing.T, files ...api.File) *Box {
	t.Helper()
	b, err := New(files)
	if b == nil || err != api.OK {
		t.Fatalf("New(%q) = %v, %d", files, b, err)
	}
	return b
}

// wantFiles: also that nothing is left aside.
func wantFiles(t *testing.T, b *Box, want ...api.File) {
	t.Helper()
	if got := b.Files(); !slices.Equal(got, want) {
		t.Fatalf("Files() = %q, want %q", got, want)
	}
	if b.aside != nil {
		t.Fatalf("%q is left aside", *b.aside)
	}
}

// numbered tells some files, whose names are in their order.
func numbered(count int) []api.File {
	var files []api.File
	for i := range count {
		files = append(files, file(string(rune('a'+i)), strings.Repeat("(", i)))
	}
	return files
}

// TestNewErrors: P9.
func TestNewErrors(t *testing.T) {
	longest := strings.Repeat("n", api.MaxName)
	tooLong := longest + "n"
	for _, c := range []struct {
		files []api.File
		want  api.Errno
	}{
		{numbered(api.MaxFiles + 1), api.ErrLong},
		{numbered(3 * api.MaxFiles), api.ErrLong},
		{make([]api.File, api.MaxFiles+1), api.ErrLong},
		{[]api.File{file(tooLong, "")}, api.ErrLong},
		{[]api.File{file(strings.Repeat("n", 1<<20), "")}, api.ErrLong},
		{[]api.File{file("a", ""), file("b", ""), file(tooLong, "")}, api.ErrLong},
		{[]api.File{file(tooLong, ""), file(tooLong, "")}, api.ErrLong},
		{[]api.File{file("", ""), file(tooLong, "")}, api.ErrLong},
		{[]api.File{file("a", ""), file("a", ""), file(tooLong, "")}, api.ErrLong},
		{append(numbered(api.MaxFiles), file("a", "")), api.ErrLong},
		{[]api.File{file("", "a")}, api.ErrName},
		{[]api.File{file("a", ""), file("", "")}, api.ErrName},
		{make([]api.File, api.MaxFiles), api.ErrName},
		{[]api.File{file("a", ""), file("a", "")}, api.ErrName},
		{[]api.File{file("a", "1"), file("b", "2"), file("a", "3")}, api.ErrName},
		{[]api.File{file(longest, ""), file(longest, "")}, api.ErrName},
		{append(numbered(api.MaxFiles-1), file("c", "")), api.ErrName},
	} {
		if b, err := New(c.files); b != nil || err != c.want {
			t.Errorf("New(%q) = %v, %d, want %d", c.files, b, err, c.want)
		}
	}
}

// TestFiles: P9: what New takes, and in which order Files tells it.
func TestFiles(t *testing.T) {
	longest := strings.Repeat("n", api.MaxName)
	for _, c := range []struct {
		files, want []api.File
	}{
		{nil, nil},
		{[]api.File{}, nil},
		{[]api.File{file("a", "")}, []api.File{file("a", "")}},
		{numbered(api.MaxFiles), numbered(api.MaxFiles)},
		{[]api.File{file(longest, "1"), file(longest[1:], "2")}, []api.File{file(longest[1:], "2"), file(longest, "1")}},
		{
			[]api.File{file("b", "1"), file("a", "2"), file("c", "3")},
			[]api.File{file("a", "2"), file("b", "1"), file("c", "3")},
		},
		{
			[]api.File{file("ab", "1"), file("b", "2"), file("\xff", "3"), file("é", "4"), file("a", "5"), file("B", "6"), file("\x00", "7"), file(" ", "8"), file("10", "9"), file("9", "")},
			[]api.File{file("\x00", "7"), file(" ", "8"), file("10", "9"), file("9", ""), file("B", "6"), file("a", "5"), file("ab", "1"), file("b", "2"), file("é", "4"), file("\xff", "3")},
		},
		{
			[]api.File{file("bytes", "\x00\xff"), file("long", strings.Repeat("a", 3*api.MaxText)), file("open", "(")},
			[]api.File{file("bytes", "\x00\xff"), file("long", strings.Repeat("a", 3*api.MaxText)), file("open", "(")},
		},
	} {
		wantFiles(t, newBox(t, c.files...), c.want...)
	}
}

// withError is a report that tells an error; changed and same are reports that tell none.
func withError(name string, err api.Errno, place int) api.Report {
	return api.Report{Name: name, Err: err, Place: place}
}

func changed(name string) api.Report {
	return api.Report{Name: name, Changed: true}
}

func same(name string) api.Report {
	return api.Report{Name: name}
}

func wantReports(t *testing.T, what string, got []api.Report, number int, want []api.Report, wantNumber int) {
	t.Helper()
	if !slices.Equal(got, want) || number != wantNumber {
		t.Fatalf("%s = %+v, %d, want %+v, %d", what, got, number, want, wantNumber)
	}
}

// mixed tells files of all sorts.
func mixed() []api.File {
	return []api.File{
		file("blank", " \n"),
		file("byte", "a \x80"),
		file("close", "(a) )"),
		file("empty", ""),
		file("good", "(f a b)\n"),
		file("long", strings.Repeat("a", api.MaxText+1)),
		file("open", "a (b"),
		file("wide", "(f   a b)"),
	}
}

// TestCheck: P10.
func TestCheck(t *testing.T) {
	b := newBox(t, mixed()...)
	for _, c := range []struct {
		names  []string
		width  int
		want   []api.Report
		number int
	}{
		{nil, 80, nil, 0},
		{nil, 0, nil, 0},
		{[]string{"good"}, 80, []api.Report{same("good")}, 0},
		{[]string{"good"}, 7, []api.Report{same("good")}, 0},
		{[]string{"good"}, 6, []api.Report{changed("good")}, 1},
		{[]string{"wide"}, 80, []api.Report{changed("wide")}, 1},
		{[]string{"blank"}, 80, []api.Report{changed("blank")}, 1},
		{[]string{"empty"}, 80, []api.Report{same("empty")}, 0},
		{[]string{"empty", "good"}, 80, []api.Report{same("empty"), same("good")}, 0},
		{[]string{"good", "empty", "good"}, 80, []api.Report{same("good"), same("empty"), same("good")}, 0},
		{[]string{"wide", "good"}, 80, []api.Report{changed("wide"), same("good")}, 1},
		{[]string{"good", "wide", "wide"}, 80, []api.Report{same("good"), changed("wide"), changed("wide")}, 1},
		{[]string{"byte"}, 80, []api.Report{withError("byte", api.ErrByte, 2)}, 1},
		{[]string{"long", "good"}, 80, []api.Report{withError("long", api.ErrLong, 0), same("good")}, 1},
		{[]string{"open", "close", "open"}, 80, []api.Report{withError("open", api.ErrOpen, 2), withError("close", api.ErrClose, 4), withError("open", api.ErrOpen, 2)}, 1},
		{[]string{"close", "wide"}, 80, []api.Report{withError("close", api.ErrClose, 4), changed("wide")}, 1},
		{[]string{"none"}, 80, []api.Report{withError("none", api.ErrName, 0)}, 2},
		{[]string{""}, 80, []api.Report{withError("", api.ErrName, 0)}, 2},
		{[]string{"goo", "good", "goodd", "GOOD"}, 80, []api.Report{withError("goo", api.ErrName, 0), same("good"), withError("goodd", api.ErrName, 0), withError("GOOD", api.ErrName, 0)}, 2},
		{[]string{"zzz", "wide", "a"}, 80, []api.Report{withError("zzz", api.ErrName, 0), changed("wide"), withError("a", api.ErrName, 0)}, 2},
		{[]string{"none", "close"}, 80, []api.Report{withError("none", api.ErrName, 0), withError("close", api.ErrClose, 4)}, 2},
		{[]string{"close", "none"}, 80, []api.Report{withError("close", api.ErrClose, 4), withError("none", api.ErrName, 0)}, 2},
		{[]string{"none", "none"}, 0, []api.Report{withError("none", api.ErrName, 0), withError("none", api.ErrName, 0)}, 2},
		{[]string{"good", "none", "close"}, 0, []api.Report{withError("good", api.ErrWidth, 0), withError("none", api.ErrName, 0), withError("close", api.ErrWidth, 0)}, 2},
		{[]string{strings.Repeat("good", 1<<18)}, 80, []api.Report{withError(strings.Repeat("good", 1<<18), api.ErrName, 0)}, 2},
	} {
		got, number := b.Check(c.names, c.width)
		wantReports(t, "Check", got, number, c.want, c.number)
		wantFiles(t, b, mixed()...)
	}
}

// TestWidths: P10 and P11: a width that may not be, ahead of all that Format says of a text.
func TestWidths(t *testing.T) {
	for _, width := range []int{0, -1, api.MaxWidth + 1, 1<<63 - 1, -1 << 63} {
		b := newBox(t, mixed()...)
		var names []string
		var want []api.Report
		for _, f := range mixed() {
			names = append(names, f.Name)
			want = append(want, withError(f.Name, api.ErrWidth, 0))
		}
		got, number := b.Check(names, width)
		wantReports(t, "Check", got, number, want, 2)
		got, number = b.Fix(names, width, -1)
		wantReports(t, "Fix", got, number, want, 2)
		wantFiles(t, b, mixed()...)
	}
	for _, width := range []int{1, api.MaxWidth} {
		b := newBox(t, file("a", "(f x)"))
		got, number := b.Check([]string{"a"}, width)
		wantReports(t, "Check", got, number, []api.Report{changed("a")}, 1)
		got, number = b.Fix([]string{"a"}, width, -1)
		wantReports(t, "Fix", got, number, []api.Report{changed("a")}, 1)
		wantFiles(t, b, file("a", "(f x)\n"))
	}
}

// TestFix: P11, where no step fails.
func TestFix(t *testing.T) {
	for _, c := range []struct {
		names  []string
		width  int
		want   []api.Report
		number int
		now    []api.File // those of mixed that have become others
	}{
		{nil, 80, nil, 0, nil},
		{[]string{"good", "empty"}, 80, []api.Report{same("good"), same("empty")}, 0, nil},
		{[]string{"wide"}, 80, []api.Report{changed("wide")}, 1, []api.File{file("wide", "(f a b)\n")}},
		{[]string{"wide"}, 6, []api.Report{changed("wide")}, 1, []api.File{file("wide", "(f a\n   b)\n")}},
		{[]string{"good"}, 6, []api.Report{changed("good")}, 1, []api.File{file("good", "(f a\n   b)\n")}},
		{[]string{"blank"}, 6, []api.Report{changed("blank")}, 1, []api.File{file("blank", "")}},
		{[]string{"wide", "wide", "wide"}, 80, []api.Report{changed("wide"), same("wide"), same("wide")}, 1, []api.File{file("wide", "(f a b)\n")}},
		{[]string{"wide", "good", "blank"}, 6, []api.Report{changed("wide"), changed("good"), changed("blank")}, 1, []api.File{file("wide", "(f a\n   b)\n"), file("good", "(f a\n   b)\n"), file("blank", "")}},
		{[]string{"close"}, 80, []api.Report{withError("close", api.ErrClose, 4)}, 1, nil},
		{[]string{"byte", "wide", "long", "open"}, 80, []api.Report{withError("byte", api.ErrByte, 2), changed("wide"), withError("long", api.ErrLong, 0), withError("open", api.ErrOpen, 2)}, 1, []api.File{file("wide", "(f a b)\n")}},
		{[]string{"none", "wide", ""}, 80, []api.Report{withError("none", api.ErrName, 0), changed("wide"), withError("", api.ErrName, 0)}, 2, []api.File{file("wide", "(f a b)\n")}},
	} {
		for _, fail := range []int{-1, -1 << 63, 6, 1<<63 - 1} {
			b := newBox(t, mixed()...)
			got, number := b.Fix(c.names, c.width, fail)
			wantReports(t, "Fix", got, number, c.want, c.number)
			wantFiles(t, b, with(mixed(), c.now)...)
		}
	}
}

// with tells files, some of which have become others.
func with(files, now []api.File) []api.File {
	for i, f := range files {
		for _, n := range now {
			if n.Name == f.Name {
				files[i] = n
			}
		}
	}
	return files
}

// TestFailingSteps: P11: each step of a call, and those that are not made.
func TestFailingSteps(t *testing.T) {
	before := []api.File{file("a", " 1"), file("b", "2\n"), file("c", " 3"), file("d", ")"), file("e", " 4")}
	after := []api.File{file("a", "1\n"), file("b", "2\n"), file("c", "3\n"), file("d", ")"), file("e", "4\n")}
	names := []string{"e", "b", "d", "a", "c"}
	failed := func(name string) api.Report { return withError(name, api.ErrIO, 0) }
	for _, c := range []struct {
		fail   int
		told   []api.Report // of e, a and c
		number int
		stays  []api.File
	}{
		{-1 << 63, []api.Report{changed("e"), changed("a"), changed("c")}, 1, nil},
		{-1, []api.Report{changed("e"), changed("a"), changed("c")}, 1, nil},
		{0, []api.Report{failed("e"), changed("a"), changed("c")}, 2, before[4:]},
		{1, []api.Report{failed("e"), changed("a"), changed("c")}, 2, before[4:]},
		{2, []api.Report{changed("e"), failed("a"), changed("c")}, 2, before[:1]},
		{3, []api.Report{changed("e"), failed("a"), changed("c")}, 2, before[:1]},
		{4, []api.Report{changed("e"), changed("a"), failed("c")}, 2, before[2:3]},
		{5, []api.Report{changed("e"), changed("a"), failed("c")}, 2, before[2:3]},
		{6, []api.Report{changed("e"), changed("a"), changed("c")}, 1, nil},
		{1<<63 - 1, []api.Report{changed("e"), changed("a"), changed("c")}, 1, nil},
	} {
		b := newBox(t, before...)
		got, number := b.Fix(names, 80, c.fail)
		want := []api.Report{c.told[0], same("b"), withError("d", api.ErrClose, 0), c.told[1], c.told[2]}
		wantReports(t, "Fix", got, number, want, c.number)
		wantFiles(t, b, with(slices.Clone(after), c.stays)...)
		b.Fix(names, 80, -1)
		wantFiles(t, b, after...)
	}
}

// TestFailingStepsOfOneName: P11: a name that is there several times, each time as the file is then.
func TestFailingStepsOfOneName(t *testing.T) {
	failed := withError("a", api.ErrIO, 0)
	for fail, want := range [][]api.Report{
		{failed, changed("a"), same("a")},
		{failed, changed("a"), same("a")},
		{changed("a"), same("a"), same("a")},
		{changed("a"), same("a"), same("a")},
	} {
		b := newBox(t, file("a", "( x )"))
		got, number := b.Fix([]string{"a", "a", "a"}, 80, fail)
		wantReports(t, "Fix", got, number, want, max(1, badness(want[0])))
		wantFiles(t, b, file("a", "(x)\n"))
	}
}

// TestStepsBeginAnew: P11: each call numbers its own steps, and a file that is laid out already takes none.
func TestStepsBeginAnew(t *testing.T) {
	b := newBox(t, file("a", "1"), file("b", "2\n"), file("c", "("))
	for _, fail := range []int{0, 1, 0} {
		got, number := b.Fix([]string{"b", "none", "c", "a"}, 80, fail)
		wantReports(t, "Fix", got, number, []api.Report{same("b"), withError("none", api.ErrName, 0), withError("c", api.ErrOpen, 0), withError("a", api.ErrIO, 0)}, 2)
		wantFiles(t, b, file("a", "1"), file("b", "2\n"), file("c", "("))
	}
	got, number := b.Fix([]string{"b", "b"}, 80, 0)
	wantReports(t, "Fix", got, number, []api.Report{same("b"), same("b")}, 0)
}

// TestAsideIsTakenAway: P11: what the first step has written, on both ways out and on the good one.
func TestAsideIsTakenAway(t *testing.T) {
	for fail, want := range []string{"old", "old", "new"} {
		b := newBox(t, file("a", "old"))
		f := fixing{box: b, fail: fail}
		if replaced := f.replace(0, "new"); replaced != (want == "new") || f.steps != min(fail+1, 2) {
			t.Errorf("fail %d: replaced is %t, by %d steps", fail, replaced, f.steps)
		}
		wantFiles(t, b, file("a", want))
	}
	b := newBox(t, file("a", "old"))
	f := fixing{box: b, fail: 0}
	if f.writeAside("new") || b.aside == nil || *b.aside != "new" {
		t.Errorf("the first step leaves nothing to be taken away")
	}
}

// TestTooLongToBeReadAgain: P11: such a text is Format's all the same, and then it is ErrLong.
func TestTooLongToBeReadAgain(t *testing.T) {
	text := strings.Repeat("(begin a ", 20) + strings.Repeat("x(y)", 200) + strings.Repeat(")", 20)
	b := newBox(t, file("a", text), file("b", "c"))
	got, number := b.Check([]string{"a", "a"}, 1)
	wantReports(t, "Check", got, number, []api.Report{changed("a"), changed("a")}, 1)
	got, number = b.Fix([]string{"a", "a"}, 1, 1)
	wantReports(t, "Fix", got, number, []api.Report{withError("a", api.ErrIO, 0), changed("a")}, 2)
	long := b.Files()[0].Text
	if len(long) <= api.MaxText {
		t.Fatalf("the file has only %d bytes", len(long))
	}
	b = newBox(t, file("a", text), file("b", "c"))
	got, number = b.Fix([]string{"a", "b", "a", "a"}, 1, -1)
	tooLong := withError("a", api.ErrLong, 0)
	wantReports(t, "Fix", got, number, []api.Report{changed("a"), changed("b"), tooLong, tooLong}, 1)
	wantFiles(t, b, file("a", long), file("b", "c\n"))
	got, number = b.Fix([]string{"a"}, 80, 0)
	wantReports(t, "Fix", got, number, []api.Report{tooLong}, 1)
	got, number = b.Check([]string{"a", "b"}, 80)
	wantReports(t, "Check", got, number, []api.Report{tooLong, same("b")}, 1)
	wantFiles(t, b, file("a", long), file("b", "c\n"))
}

// TestNoFiles: P9 to P11.
func TestNoFiles(t *testing.T) {
	b := newBox(t)
	want := []api.Report{withError("a", api.ErrName, 0), withError("", api.ErrName, 0)}
	got, number := b.Check([]string{"a", ""}, 80)
	wantReports(t, "Check", got, number, want, 2)
	got, number = b.Fix([]string{"a", ""}, 80, 0)
	wantReports(t, "Fix", got, number, want, 2)
	got, number = b.Fix(nil, 80, 0)
	wantReports(t, "Fix", got, number, nil, 0)
	wantFiles(t, b)
}

// TestManyNames: P1: as many as one likes.
func TestManyNames(t *testing.T) {
	b := newBox(t, numbered(api.MaxFiles)...)
	names := slices.Repeat([]string{"a", "b", "c", "none"}, 100000)
	want := slices.Repeat([]api.Report{same("a"), withError("b", api.ErrOpen, 0), withError("c", api.ErrOpen, 1), withError("none", api.ErrName, 0)}, 100000)
	got, number := b.Check(names, 80)
	wantReports(t, "Check", got, number, want, 2)
	got, number = b.Fix(names, 80, 7)
	wantReports(t, "Fix", got, number, want, 2)
}

// TestListsAreNotShared: P2.
func TestListsAreNotShared(t *testing.T) {
	files := []api.File{file("b", " 1"), file("a", " 2")}
	given := slices.Clone(files)
	b := newBox(t, files...)
	if !slices.Equal(files, given) {
		t.Errorf("New has made %q of what was handed in", files)
	}
	files[0], files[1] = file("z", "9"), file("y", "8")
	wantFiles(t, b, file("a", " 2"), file("b", " 1"))
	told := b.Files()
	other := b.Files()
	_ = append(told[:1], file("x", "7"))
	told[0].Name = "w"
	wantFiles(t, b, file("a", " 2"), file("b", " 1"))
	if !slices.Equal(other, []api.File{file("a", " 2"), file("b", " 1")}) {
		t.Errorf("two answers of Files share room: %q", other)
	}
	names := []string{"b", "none", "b"}
	for _, call := range []func() ([]api.Report, int){
		func() ([]api.Report, int) { return b.Check(names, 80) },
		func() ([]api.Report, int) { return b.Fix(names, 80, 0) },
	} {
		first, _ := call()
		second, _ := call()
		kept := slices.Clone(second)
		for i := range first {
			first[i] = withError("changed", api.ErrIO, 5)
		}
		_ = append(first, first...)
		if !slices.Equal(second, kept) || !slices.Equal(names, []string{"b", "none", "b"}) {
			t.Errorf("lists share room: %+v, %q", second, names)
		}
	}
	wantFiles(t, b, file("a", " 2"), file("b", "1\n"))
}

// TestTextsAreNotKept: P2: neither by a box nor by a report.
func TestTextsAreNotKept(t *testing.T) {
	name, text := strings.Clone("name"), strings.Clone("text")
	b := newBox(t, file(name, text))
	got := b.Files()[0]
	if unsafe.StringData(got.Name) == unsafe.StringData(name) || unsafe.StringData(got.Text) == unsafe.StringData(text) {
		t.Errorf("the box keeps the memory of what was handed in")
	}
	for _, asked := range []string{strings.Clone("name"), strings.Clone("none")} {
		reports, _ := b.Check([]string{asked}, 80)
		if unsafe.StringData(reports[0].Name) == unsafe.StringData(asked) {
			t.Errorf("the report on %q keeps the memory of what was handed in", asked)
		}
	}
}

// TestTwoBoxes: P2: by turns, each is as if it were alone.
func TestTwoBoxes(t *testing.T) {
	one, two := newBox(t, file("a", " 1"), file("b", "( 1 )")), newBox(t, file("a", "(2 2)"), file("c", " "))
	got, number := one.Fix([]string{"a", "c"}, 80, 2)
	wantReports(t, "Fix", got, number, []api.Report{changed("a"), withError("c", api.ErrName, 0)}, 2)
	got, number = two.Fix([]string{"a", "b", "c"}, 80, 2)
	wantReports(t, "Fix", got, number, []api.Report{changed("a"), withError("b", api.ErrName, 0), withError("c", api.ErrIO, 0)}, 2)
	got, number = one.Check([]string{"a", "b"}, 80)
	wantReports(t, "Check", got, number, []api.Report{same("a"), changed("b")}, 1)
	wantFiles(t, one, file("a", "1\n"), file("b", "( 1 )"))
	wantFiles(t, two, file("a", "(2 2)\n"), file("c", " "))
}

// TestGoroutinesHaveEnded: P1.
func TestGoroutinesHaveEnded(t *testing.T) {
	var names []string
	for _, f := range mixed() {
		names = append(names, f.Name)
	}
	before := runtime.NumGoroutine()
	for range 200 {
		b := newBox(t, mixed()...)
		b.Check(names, 80)
		b.Fix(names, 1, 1)
	}
	for range 200 {
		if runtime.NumGoroutine() <= before {
			return
		}
		time.Sleep(5 * time.Millisecond)
	}
	t.Errorf("%d goroutines before, %d after", before, runtime.NumGoroutine())
}
