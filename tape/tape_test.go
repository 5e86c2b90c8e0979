package tape_test

import (
	"fmt"
	"math/rand"
	"regexp"
	"slices"
	"strconv"
	"strings"
	"testing"

	"filbert/api"
	"filbert/auto"
	"filbert/plain"
	"filbert/tape"
)

var bases = []int{api.Fib, 2, 3, 4, 5, api.MaxBase}

// letters: of each base, how many there are of so many tracks.
var letters = map[int][]int{
	api.Fib: {1, 2, 4, 8, 16, 32},
	2:       {1, 2, 4, 8, 16, 32},
	3:       {1, 3, 9, 27},
	4:       {1, 4, 16},
	5:       {1, 5, 25},
	6:       {1, 6, 36},
}

// eachShape calls f with every base and every count of tracks that go together.
func eachShape(f func(base, tracks int)) {
	for _, base := range bases {
		for tracks := range letters[base] {
			f(base, tracks)
		}
	}
}

// still: an automaton of so many states, none of which leads to another.
func still(base, tracks, states int) api.Auto {
	a := api.Auto{Base: base, Tracks: tracks, Ends: make([]bool, states)}
	for state := range states {
		a.Next = append(a.Next, slices.Repeat([]int{state}, letters[base][tracks]))
	}
	return a
}

// wild: an automaton of so many states that lead anywhere.
func wild(source *rand.Rand, base, tracks, states int) api.Auto {
	a := still(base, tracks, states)
	for state := range states {
		a.Ends[state] = source.Intn(2) == 0
		for x := range a.Next[state] {
			a.Next[state][x] = source.Intn(states)
		}
	}
	return a
}

func odd() api.Auto {
	return api.Auto{Base: 2, Tracks: 1, Next: [][]int{{0, 1}, {1, 0}}, Ends: []bool{false, true}}
}

func clone(a api.Auto) api.Auto {
	b := a
	b.Ends = slices.Clone(a.Ends)
	b.Next = nil
	for _, nexts := range a.Next {
		b.Next = append(b.Next, slices.Clone(nexts))
	}
	return b
}

func equal(a, b api.Auto) bool {
	return a.Base == b.Base && a.Tracks == b.Tracks && slices.Equal(a.Ends, b.Ends) && slices.EqualFunc(a.Next, b.Next, slices.Equal)
}

func none(a api.Auto) bool { return a.Base == 0 && a.Tracks == 0 && a.Next == nil && a.Ends == nil }

func wantText(t *testing.T, a api.Auto, want string) {
	t.Helper()
	if got, err := tape.Print(a); err != nil || got != want {
		t.Errorf("Print(%v): got %q %v, want %q", a, got, err, want)
	}
}

func wantNoText(t *testing.T, a api.Auto, errno api.Errno) {
	t.Helper()
	if got, err := tape.Print(a); got != "" || plain.Told(err) != errno {
		t.Errorf("Print(%v): got %q %v, want %v", a, got, err, errno)
	}
}

func wantAuto(t *testing.T, text string, want api.Auto) {
	t.Helper()
	if got, line, err := tape.Parse(text); err != nil || line != 0 || !equal(got, want) {
		t.Errorf("Parse(%q): got %v %d %v, want %v", text, got, line, err, want)
	}
}

func wantNoAuto(t *testing.T, text string, line int, errno api.Errno) {
	t.Helper()
	if got, at, err := tape.Parse(text); !none(got) || at != line || plain.Told(err) != errno {
		t.Errorf("Parse(%q): got %v %d %v, want %d %v", text, got, at, err, line, errno)
	}
}

func TestY1Examples(t *testing.T) {
	wantText(t, odd(), "2 1 2\n- 0 1\n+ 1 0\n")
	wantAuto(t, "2 1 2\n- 0 1\n+ 1 0\n", odd())
	wantNoAuto(t, "2 1 2\n- 0 1\n+ 1 2\n", 2, api.ErrRange)
	wantNoAuto(t, "2 1 1\n- 0\n", 1, api.ErrSyntax)
}

func TestY1ThereAndBack(t *testing.T) {
	source := rand.New(rand.NewSource(17))
	eachShape(func(base, tracks int) {
		for _, states := range []int{1, 2, 9, 10, 11, api.MaxStates} {
			a := wild(source, base, tracks, states)
			text := slowly(a)
			wantText(t, a, text)
			wantAuto(t, text, a)
		}
	})
}

// slowly writes an automaton by the library.
func slowly(a api.Auto) string {
	text := fmt.Sprintln(a.Base, a.Tracks, len(a.Next))
	for state, nexts := range a.Next {
		row := strings.Trim(fmt.Sprint(nexts), "[]")
		if a.Ends[state] {
			text += "+ " + row + "\n"
		} else {
			text += "- " + row + "\n"
		}
	}
	return text
}

func TestY1NoTrack(t *testing.T) {
	a := api.Auto{Base: api.Fib, Next: [][]int{{1}, {1}}, Ends: []bool{true, false}}
	wantText(t, a, "1 0 2\n+ 1\n- 1\n")
	wantAuto(t, "1 0 2\n+ 1\n- 1\n", a)
	wantNoAuto(t, "1 0 2\n+ 1\n-\n", 2, api.ErrSyntax)
	wantNoAuto(t, "1 0 2\n+ 1\n- 1 1\n", 2, api.ErrSyntax)
}

func TestY1PrintOfWrongAutomata(t *testing.T) {
	wantNoText(t, api.Auto{}, api.ErrRange)
	for _, change := range []struct {
		how   func(a *api.Auto)
		errno api.Errno
	}{
		{func(a *api.Auto) { a.Base = 0 }, api.ErrRange},
		{func(a *api.Auto) { a.Base = api.MaxBase + 1 }, api.ErrRange},
		{func(a *api.Auto) { a.Tracks = -1 }, api.ErrRange},
		{func(a *api.Auto) { a.Tracks = api.MaxTracks + 1 }, api.ErrRange},
		{func(a *api.Auto) { a.Base, a.Tracks = 3, 4 }, api.ErrFull},
		{func(a *api.Auto) { a.Next = nil }, api.ErrNone},
		{func(a *api.Auto) { a.Ends = nil }, api.ErrShape},
		{func(a *api.Auto) { a.Ends = append(a.Ends, true) }, api.ErrShape},
		{func(a *api.Auto) { a.Next[1] = a.Next[1][:1] }, api.ErrShape},
		{func(a *api.Auto) { a.Next[1] = append(a.Next[1], 0) }, api.ErrShape},
		{func(a *api.Auto) { a.Next[1][1] = 2 }, api.ErrRange},
		{func(a *api.Auto) { a.Next[0][0] = -1 }, api.ErrRange},
	} {
		a := odd()
		change.how(&a)
		wantNoText(t, a, change.errno)
	}
	wantNoText(t, still(2, 1, api.MaxStates+1), api.ErrFull)
}

func TestY1LinesOfNoForm(t *testing.T) {
	for _, head := range []string{
		"", " ", "2", "2 ", "2 1", "2 1 ", "2 1 1 ", "2 1 1 1", "2 1 1 x", " 2 1 1", "2  1 1", "2 1  1",
		"02 1 1", "2 01 1", "2 1 01", "2 1 00", "2 1 1000", "2 1000 1", "1000 1 1", "2 1 0001",
		"+2 1 1", "2 +1 1", "2 1 +1", "-2 1 1", "2 -1 1", "2 1 -1", "2 1 -0", "2 1 1_0", "2 1 0x1", "2 1 1\r", "2\t1 1", "x 1 1", "2 1 ١",
	} {
		wantNoAuto(t, head, 0, api.ErrSyntax)
		wantNoAuto(t, head+"\n", 0, api.ErrSyntax)
		wantNoAuto(t, head+"\n- 0 0\n", 0, api.ErrSyntax)
	}
	for _, row := range []string{
		"", " ", "-", "+", "- ", "- 0", "- 0 ", "- 0 0 ", "- 0 0 0", "-  0 0", "- 0  0", " - 0 0", "0 0", "-0 0", "* 0 0", "-- 0 0", "+- 0 0", "−  0 0",
		"- 00 0", "- 0 00", "- 0 01", "- 0 1000", "- 0 -0", "- 0 +0", "- -1 0", "- 0 x", "- x 0", "- 0 0\r", "-\t0 0", "- 0 0_0", "- 0x0 0",
	} {
		wantNoAuto(t, "2 1 2\n"+row, 1, api.ErrSyntax)
		wantNoAuto(t, "2 1 2\n"+row+"\n+ 0 0\n", 1, api.ErrSyntax)
		wantNoAuto(t, "2 1 2\n+ 0 0\n"+row+"\n", 2, api.ErrSyntax)
		wantNoAuto(t, "2 1 2\n+ 0 0\n"+row+"\n- 5 5\n", 2, api.ErrSyntax)
	}
}

func TestY1LinesWithoutEnd(t *testing.T) {
	wantNoAuto(t, "2 1 1", 0, api.ErrSyntax)
	wantNoAuto(t, "2 1 2\n", 1, api.ErrSyntax)
	wantNoAuto(t, "2 1 2\n- 0 0", 1, api.ErrSyntax)
	wantNoAuto(t, "2 1 2\n- 0 0\n", 2, api.ErrSyntax)
	wantNoAuto(t, "2 1 2\n- 0 0\n- 0 0", 2, api.ErrSyntax)
	wantNoAuto(t, "2 1 1\n- 0 5", 1, api.ErrSyntax)
}

func TestY1BehindTheLastState(t *testing.T) {
	wantNoAuto(t, "2 1 1\n- 0 0\n\n", 2, api.ErrSyntax)
	wantNoAuto(t, "2 1 1\n- 0 0\n ", 2, api.ErrSyntax)
	wantNoAuto(t, "2 1 1\n- 0 0\n- 0 0\n", 2, api.ErrSyntax)
	wantNoAuto(t, "2 1 1\n- 0 0\n- 0 0\nx", 2, api.ErrSyntax)
	wantNoAuto(t, "2 1 2\n- 0 0\n- 1 1\n2 1 1\n", 3, api.ErrSyntax)
	wantNoAuto(t, "2 1 1\n- 0 1\n- 0 0\n", 1, api.ErrRange)
}

func TestY1WrongNumbersAhead(t *testing.T) {
	wantNoAuto(t, "0 1 1\n- 0 0\n", 0, api.ErrRange)
	wantNoAuto(t, "7 1 1\n- 0 0\n", 0, api.ErrRange)
	wantNoAuto(t, "999 999 999\n", 0, api.ErrRange)
	wantNoAuto(t, "2 6 1\n", 0, api.ErrRange)
	wantNoAuto(t, "6 6 1\n", 0, api.ErrRange)
	wantNoAuto(t, "6 3 1\n", 0, api.ErrFull)
	wantNoAuto(t, "3 4 0\n", 0, api.ErrFull)
	wantNoAuto(t, "7 1 0\n", 0, api.ErrRange)
	wantNoAuto(t, "2 6 81\n", 0, api.ErrRange)
	wantNoAuto(t, "2 1 0\n", 0, api.ErrNone)
	wantNoAuto(t, "2 1 0\n- 0 0\n", 0, api.ErrNone)
	wantNoAuto(t, "2 1 81\n", 0, api.ErrFull)
	wantNoAuto(t, "2 1 999\nx\n", 0, api.ErrFull)
	wantNoAuto(t, "7 1 1\nx\n", 0, api.ErrRange)
	// A line that does not end is told of ahead of what its numbers are.
	wantNoAuto(t, "7 1 1", 0, api.ErrSyntax)
	wantNoAuto(t, "2 1 0", 0, api.ErrSyntax)
	wantNoAuto(t, "2 1 81", 0, api.ErrSyntax)
}

func TestY1WrongNexts(t *testing.T) {
	wantNoAuto(t, "2 1 1\n- 0 1\n", 1, api.ErrRange)
	wantNoAuto(t, "2 1 1\n- 1 0\n", 1, api.ErrRange)
	wantNoAuto(t, "2 1 2\n- 0 1\n- 999 0\n", 2, api.ErrRange)
	wantNoAuto(t, "2 1 2\n- 0 2\nx\n", 1, api.ErrRange)
	wantNoAuto(t, "2 1 2\n- 2 x\n", 1, api.ErrSyntax)
	wantNoAuto(t, "2 1 2\n- 2\n", 1, api.ErrSyntax)
	wantNoAuto(t, "2 1 2\n- 2 2 2\n", 1, api.ErrSyntax)
}

var (
	headForm = regexp.MustCompile(`^(0|[1-9][0-9]{0,2}) (0|[1-9][0-9]{0,2}) (0|[1-9][0-9]{0,2})\n$`)
	rowForm  = regexp.MustCompile(`^[+-]( (0|[1-9][0-9]{0,2}))*\n$`)
)

// bySteps reads a text by patterns, line by line.
func bySteps(text string) (api.Auto, int, api.Errno) {
	lines := strings.SplitAfter(text, "\n")
	found := headForm.FindStringSubmatch(lines[0])
	if found == nil {
		return api.Auto{}, 0, api.ErrSyntax
	}
	a := api.Auto{Base: decimal(found[1]), Tracks: decimal(found[2])}
	states := decimal(found[3])
	a.Next, a.Ends = make([][]int, states), make([]bool, states)
	if a.Base < 1 || a.Base > 6 || a.Tracks > 5 {
		return api.Auto{}, 0, api.ErrRange
	}
	if a.Tracks >= len(letters[a.Base]) {
		return api.Auto{}, 0, api.ErrFull
	}
	if states == 0 {
		return api.Auto{}, 0, api.ErrNone
	}
	if states > 80 {
		return api.Auto{}, 0, api.ErrFull
	}
	for state := range states {
		line := lines[state+1]
		pieces := strings.Fields(line)
		if !rowForm.MatchString(line) || len(pieces) != 1+letters[a.Base][a.Tracks] {
			return api.Auto{}, state + 1, api.ErrSyntax
		}
		a.Ends[state] = pieces[0] == "+"
		for _, piece := range pieces[1:] {
			if decimal(piece) >= states {
				return api.Auto{}, state + 1, api.ErrRange
			}
			a.Next[state] = append(a.Next[state], decimal(piece))
		}
	}
	if lines[states+1] != "" {
		return api.Auto{}, states + 1, api.ErrSyntax
	}
	return a, 0, api.OK
}

func decimal(text string) int {
	n, err := strconv.Atoi(text)
	if err != nil {
		panic(err)
	}
	return n
}

func TestY1ChangedTexts(t *testing.T) {
	source := rand.New(rand.NewSource(171))
	const bytes = "0123456789+- \nx"
	told := map[api.Errno]int{}
	for range 40 {
		eachShape(func(base, tracks int) {
			text := slowly(wild(source, base, tracks, 1+source.Intn(4)))
			for range 20 {
				changed := text
				for range 1 + source.Intn(2) {
					at := source.Intn(len(changed))
					with := string(bytes[source.Intn(len(bytes))])
					switch source.Intn(4) {
					case 0:
						changed = changed[:at] + with + changed[at:]
					case 1:
						changed = changed[:at] + with + changed[at+1:]
					case 2:
						changed = changed[:at] + changed[at+1:]
					default:
						changed = changed[:at+1]
					}
				}
				want, line, errno := bySteps(changed)
				told[errno]++
				if errno == api.OK {
					wantAuto(t, changed, want)
					wantText(t, want, changed)
				} else {
					wantNoAuto(t, changed, line, errno)
				}
			}
		})
	}
	for _, errno := range []api.Errno{api.OK, api.ErrRange, api.ErrFull, api.ErrNone, api.ErrSyntax} {
		if told[errno] < 10 {
			t.Errorf("%v was told %d times: the test is too weak", errno, told[errno])
		}
	}
}

func TestY1EachBeginning(t *testing.T) {
	source := rand.New(rand.NewSource(1717))
	text := slowly(wild(source, 3, 1, 12))
	for end := range len(text) {
		wantNoAuto(t, text[:end], strings.Count(text[:end], "\n"), api.ErrSyntax)
	}
}

func TestY1EachByte(t *testing.T) {
	for x := range 256 {
		c := string([]byte{byte(x)})
		for _, text := range []string{c, c + "\n", "2 1 1" + c, "2 1 1\n" + c + " 0 0\n", "2 1 2\n- 0 0\n- 0 " + c + "\n", "2 1 1\n- 0 0\n" + c} {
			want, line, errno := bySteps(text)
			if errno == api.OK {
				wantAuto(t, text, want)
			} else {
				wantNoAuto(t, text, line, errno)
			}
		}
	}
}

func TestY1LongTexts(t *testing.T) {
	for _, piece := range []string{" ", "\n", "1", "1 ", "- 0\n", "\x00"} {
		long := strings.Repeat(piece, 3_000_000)
		wantEarly := func(text string, line int) {
			t.Helper()
			if _, at, err := tape.Parse(text); at != line || plain.Told(err) != api.ErrSyntax {
				t.Errorf("Parse of much of %q: got %d %v, want %d ErrSyntax", piece, at, err, line)
			}
		}
		wantEarly(long, 0)
		wantEarly("2 1 1\n- "+long, 1)
		wantEarly("2 1 1\n- 0 0\n"+long, 2)
	}
}

func TestY1GreatestText(t *testing.T) {
	a := still(api.MaxBase, 2, api.MaxStates)
	text, err := tape.Print(a)
	if err != nil || strings.Count(text, "\n") != api.MaxStates+1 {
		t.Fatalf("Print of the greatest automaton: got %q %v", text, err)
	}
	wantAuto(t, text, a)
	wantNoAuto(t, strings.Replace(text, " 79\n", " 80\n", 1), api.MaxStates, api.ErrRange)
	wantNoAuto(t, text+"\n", api.MaxStates+1, api.ErrSyntax)
}

func TestY1BehindTheLength(t *testing.T) {
	a := odd()
	nexts := [][]int{{0, 1, 7}, {1, 0, 7}, {7}}
	a.Next = nexts[:2]
	a.Next[0], a.Next[1] = nexts[0][:2], nexts[1][:2]
	a.Ends = []bool{false, true, true}[:2]
	wantText(t, a, "2 1 2\n- 0 1\n+ 1 0\n")
	if nexts[2][0] != 7 || a.Next[0][:3][2] != 7 || a.Next[1][:3][2] != 7 || !a.Ends[:3][2] {
		t.Error("Print wrote behind a list's length")
	}
}

func TestY1ArgumentsStay(t *testing.T) {
	source := rand.New(rand.NewSource(1))
	a := wild(source, 3, 2, 20)
	kept := clone(a)
	if _, err := tape.Print(a); err != nil || !equal(a, kept) {
		t.Errorf("Print changed what it was given, or told %v", err)
	}
}

func TestY1FreshMemory(t *testing.T) {
	const text = "2 1 3\n- 0 1\n+ 1 2\n- 2 0\n"
	first, _, err := tape.Parse(text)
	if err != nil {
		t.Fatal(err)
	}
	want := clone(first)
	second, _, err := tape.Parse(text)
	if err != nil {
		t.Fatal(err)
	}
	for state := range first.Next {
		_ = append(first.Next[state], 9, 9, 9)
		first.Ends[state] = !first.Ends[state]
	}
	if !slices.EqualFunc(first.Next, want.Next, slices.Equal) {
		t.Error("rows share memory")
	}
	for _, nexts := range first.Next {
		clear(nexts)
	}
	if !equal(second, want) {
		t.Error("answers share memory")
	}
	wantAuto(t, text, want)
}

func TestY1WhatIsParsedIsAnAutomaton(t *testing.T) {
	a, _, err := tape.Parse("1 1 2\n+ 0 1\n- 1 1\n")
	if err != nil {
		t.Fatal(err)
	}
	if err := auto.Check(a); err != nil {
		t.Errorf("Check of what was parsed: %v", err)
	}
	if ok, err := auto.Takes(a, []int{0, 0}); err != nil || !ok {
		t.Errorf("Takes of what was parsed: got %v %v", ok, err)
	}
}
