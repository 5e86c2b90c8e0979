package text_test

import (
	"math"
	"math/rand"
	"regexp"
	"slices"
	"strings"
	"testing"

	"filbert/api"
	"filbert/formula"
	"filbert/plain"
	"filbert/text"
)

// Nodes as they are meant to be.
func eq(num int, coefs ...int) api.Node { return api.Node{Op: api.Eq, Num: num, Coefs: coefs} }
func lt(num int, coefs ...int) api.Node { return api.Node{Op: api.Lt, Num: num, Coefs: coefs} }
func at(w, v, num int) api.Node         { return api.Node{Op: api.At, Word: w, Var: v, Num: num} }
func like(w, v, w2, o int) api.Node {
	return api.Node{Op: api.Like, Word: w, Var: v, Word2: w2, Other: o}
}
func not() api.Node       { return api.Node{Op: api.Not} }
func and() api.Node       { return api.Node{Op: api.And} }
func or() api.Node        { return api.Node{Op: api.Or} }
func some(v int) api.Node { return api.Node{Op: api.Some, Var: v} }
func all(v int) api.Node  { return api.Node{Op: api.All, Var: v} }

// of lists nodes.
func of(f ...api.Node) []api.Node { return f }

// nots: so many of them, and a node behind.
func nots(many int, n api.Node) []api.Node {
	return append(slices.Repeat(of(not()), many), n)
}

func clone(f []api.Node) []api.Node {
	var c []api.Node
	for _, n := range f {
		n.Coefs = slices.Clone(n.Coefs)
		c = append(c, n)
	}
	return c
}

func equal(f, g []api.Node) bool {
	return slices.EqualFunc(f, g, func(a, b api.Node) bool {
		return a.Op == b.Op && a.Var == b.Var && a.Other == b.Other && a.Word == b.Word && a.Word2 == b.Word2 && a.Num == b.Num && slices.Equal(a.Coefs, b.Coefs)
	})
}

func wantPrint(t *testing.T, f []api.Node, want string) {
	t.Helper()
	was := clone(f)
	if got, err := text.Print(f); got != want || err != nil {
		t.Errorf("Print(%v): got %q %v, want %q", f, got, err, want)
	}
	if !equal(f, was) {
		t.Errorf("%v was written into: %v", was, f)
	}
}

func wantNoPrint(t *testing.T, f []api.Node, errno api.Errno) {
	t.Helper()
	if got, err := text.Print(f); got != "" || plain.Told(err) != errno {
		t.Errorf("Print(%v): got %q %v, want %v", f, got, err, errno)
	}
}

func wantParse(t *testing.T, s string, want []api.Node) {
	t.Helper()
	if got, place, err := text.Parse(s); !equal(got, want) || place != 0 || err != nil {
		t.Errorf("Parse(%q): got %v %d %v, want %v 0", s, got, place, err, want)
	}
}

func wantNoParse(t *testing.T, s string, place int, errno api.Errno) {
	t.Helper()
	if got, at, err := text.Parse(s); got != nil || at != place || plain.Told(err) != errno {
		t.Errorf("Parse(%q): got %v %d %v, want %d %v", s, got, at, err, place, errno)
	}
}

// pairs are formulas, and the texts that are made of them.
func pairs() []struct {
	f []api.Node
	s string
} {
	return []struct {
		f []api.Node
		s string
	}{
		{of(all(0), some(1), or(), eq(0, 1, -2), eq(-1, 1, -2)), "Aa:Eb:(a=2b|a=2b+1)"},
		{of(eq(0)), "0=0"},
		{of(lt(0)), "0<0"},
		{of(eq(5)), "5=0"},
		{of(eq(-5)), "0=5"},
		{of(lt(1)), "1<0"},
		{of(lt(-1)), "0<1"},
		{of(eq(60)), "60=0"},
		{of(lt(-60)), "0<60"},
		{of(eq(0, 1)), "a=0"},
		{of(eq(0, -1)), "0=a"},
		{of(eq(3, -1)), "3=a"},
		{of(eq(-3, -1)), "0=a+3"},
		{of(eq(0, 12)), "12a=0"},
		{of(lt(0, -12)), "0<12a"},
		{of(lt(0, 1, -1)), "a<b"},
		{of(lt(0, -1, 1)), "b<a"},
		{of(lt(7, 2, 3, -1)), "2a+3b+7<c"},
		{of(lt(-7, 2, 3, -1)), "2a+3b<c+7"},
		{of(eq(1, 1, 1, 1, 1, 1)), "a+b+c+d+e+1=0"},
		{of(eq(-1, -1, -1, -1, -1, -1)), "0=a+b+c+d+e+1"},
		{of(eq(60, 4, -2, 3, -2, 1)), "4a+3c+e+60=2b+2d"},
		{of(eq(0, 0, 0, 0, 0, 1)), "e=0"},
		{of(eq(0, 0, 2, 0, -3)), "2b=3d"},
		{of(at(0, 0, 0)), "@0[a]=0"},
		{of(at(2, 4, 9)), "@2[e]=9"},
		{of(at(1, 3, 1)), "@1[d]=1"},
		{of(like(0, 0, 0, 0)), "@0[a]=@0[a]"},
		{of(like(0, 1, 2, 4)), "@0[b]=@2[e]"},
		{of(like(2, 2, 1, 3)), "@2[c]=@1[d]"},
		{of(not(), eq(0)), "~0=0"},
		{of(not(), not(), lt(0, 1)), "~~a<0"},
		{of(and(), eq(0, 1), lt(0, 0, 1)), "(a=0&b<0)"},
		{of(or(), at(1, 0, 1), like(0, 0, 0, 1)), "(@1[a]=1|@0[a]=@0[b])"},
		{of(and(), or(), eq(1), eq(2), or(), eq(3), eq(4)), "((1=0|2=0)&(3=0|4=0))"},
		{of(and(), eq(1), or(), eq(2), and(), eq(3), eq(4)), "(1=0&(2=0|(3=0&4=0)))"},
		{of(or(), and(), and(), eq(1), eq(2), eq(3), eq(4)), "(((1=0&2=0)&3=0)|4=0)"},
		{of(not(), and(), eq(1), not(), eq(2)), "~(1=0&~2=0)"},
		{of(some(0), eq(0, 1)), "Ea:a=0"},
		{of(some(4), lt(0, 0, 0, 0, 0, 1)), "Ee:e<0"},
		{of(all(2), all(3), eq(0, 0, 0, 1, -1)), "Ac:Ad:c=d"},
		{of(all(0), not(), some(0), eq(0, 1)), "Aa:~Ea:a=0"},
		{of(or(), some(1), eq(0, 0, 1), all(1), eq(0, 0, 1)), "(Eb:b=0|Ab:b=0)"},
		{nots(39, eq(0)), strings.Repeat("~", 39) + "0=0"},
	}
}

// X1, X2: a formula is written so, and is told back.
func TestPairs(t *testing.T) {
	for _, p := range pairs() {
		wantPrint(t, p.f, p.s)
		wantParse(t, p.s, p.f)
	}
}

// X1: whatever Check says of a formula, Print says.
func TestPrintErrors(t *testing.T) {
	wantNoPrint(t, nil, api.ErrNone)
	wantNoPrint(t, of(), api.ErrNone)
	wantNoPrint(t, nots(40, eq(0)), api.ErrFull)
	wantNoPrint(t, slices.Repeat(of(api.Node{Op: -1}), 41), api.ErrFull)
	for _, op := range []int{math.MinInt, -1, 0, 10, math.MaxInt} {
		wantNoPrint(t, of(api.Node{Op: op}), api.ErrRange)
	}
	for _, v := range []int{math.MinInt, -1, 5, math.MaxInt} {
		wantNoPrint(t, of(some(v), eq(0)), api.ErrRange)
		wantNoPrint(t, of(all(v), eq(0)), api.ErrRange)
		wantNoPrint(t, of(at(0, v, 0)), api.ErrRange)
		wantNoPrint(t, of(like(0, v, 0, 0)), api.ErrRange)
		wantNoPrint(t, of(like(0, 0, 0, v)), api.ErrRange)
	}
	for _, w := range []int{math.MinInt, -1, 3, math.MaxInt} {
		wantNoPrint(t, of(at(w, 0, 0)), api.ErrRange)
		wantNoPrint(t, of(like(w, 0, 0, 0)), api.ErrRange)
		wantNoPrint(t, of(like(0, 0, w, 0)), api.ErrRange)
	}
	for _, num := range []int{math.MinInt, -1, 10, math.MaxInt} {
		wantNoPrint(t, of(at(0, 0, num)), api.ErrRange)
	}
	for _, num := range []int{math.MinInt, -61, 61, math.MaxInt} {
		wantNoPrint(t, of(eq(num)), api.ErrRange)
		wantNoPrint(t, of(lt(num)), api.ErrRange)
	}
	for _, coef := range []int{math.MinInt, -13, 13, math.MaxInt} {
		wantNoPrint(t, of(eq(0, coef)), api.ErrRange)
	}
	wantNoPrint(t, of(eq(0, 7, -6)), api.ErrRange)
	wantNoPrint(t, of(eq(0, 1, 1, 1, 1, 1, 1)), api.ErrRange)
	wantNoPrint(t, of(eq(0, 1, 0)), api.ErrShape)
	wantNoPrint(t, of(api.Node{Op: api.Not, Num: 1}, eq(0)), api.ErrShape)
	wantNoPrint(t, of(eq(0), eq(0)), api.ErrShape)
	wantNoPrint(t, of(not()), api.ErrNone)
	wantNoPrint(t, of(and(), eq(0)), api.ErrNone)
}

// X2: parts in any order, more than once, less those of the other side.
func TestParseSums(t *testing.T) {
	for _, c := range []struct {
		s    string
		want api.Node
	}{
		{"a+a=b+0", eq(0, 2, -1)},
		{"b+a=0", eq(0, 1, 1)},
		{"1+a+2+3a=4", eq(-1, 4)},
		{"e+d+c+b+a<0", lt(0, 1, 1, 1, 1, 1)},
		{"1a=0a", eq(0, 1)},
		{"0a=0", eq(0)},
		{"0e+a=0", eq(0, 1)},
		{"0+0=0+0", eq(0)},
		{"a=a", eq(0)},
		{"a<a", lt(0)},
		{"a+b=b", eq(0, 1)},
		{"a+b=a", eq(0, 0, 1)},
		{"b=2b+a", eq(0, -1, -1)},
		{"a+3=3+b", eq(0, 1, -1)},
		{"13a=a", eq(0, 12)},
		{"999a=999a", eq(0)},
		{"999a+1=998a", eq(1, 1)},
		{"999=939", eq(60)},
		{"939<999", lt(-60)},
		{"100+100+100=299", eq(1)},
		{"10a+100=9a+90", eq(10, 1)},
		{"7+2a+0b+0=3c+2c+4+0e", eq(3, 2, 0, -5)},
	} {
		wantParse(t, c.s, of(c.want))
	}
	wantParse(t, "~(a=a&b+b<2b+1)", of(not(), and(), eq(0), lt(-1)))
}

// allBytes lists each byte, as a text of its own.
func allBytes() []string {
	var list []string
	for b := range 256 {
		list = append(list, string([]byte{byte(b)}))
	}
	return list
}

// X2: behind each beginning just these bytes may follow; any other one is the first with which no text goes on.
func TestParseFollow(t *testing.T) {
	const (
		number = "0123456789"
		vars   = "abcde"
		part   = number + vars
		claim  = part + "~(EA@"
	)
	for _, c := range []struct{ begin, may string }{
		{"", claim},
		{"~", claim},
		{"~~", claim},
		{"(", claim},
		{"((", claim},
		{"E", vars},
		{"A", vars},
		{"Ea", ":"},
		{"Ae", ":"},
		{"Ea:", claim},
		{"Aa:Eb:", claim},
		{"a", "+=<"},
		{"e", "+=<"},
		{"0", vars + "+=<"},
		{"1", part + "+=<"},
		{"10", part + "+=<"},
		{"100", vars + "+=<"},
		{"999", vars + "+=<"},
		{"0a", "+=<"},
		{"12a", "+=<"},
		{"a+", part},
		{"1+", part},
		{"1+0", vars + "+=<"},
		{"a+b", "+=<"},
		{"a=", part},
		{"a<", part},
		{"a=b", "+"},
		{"a=0", vars + "+"},
		{"a=1", part + "+"},
		{"a=12", part + "+"},
		{"a=123", vars + "+"},
		{"a=123b", "+"},
		{"a<b+", part},
		{"@", number},
		{"@0", "["},
		{"@1", number + "["},
		{"@12", number + "["},
		{"@123", "["},
		{"@0[", vars},
		{"@0[a", "]"},
		{"@0[a]", "="},
		{"@0[a]=", number + "@"},
		{"@0[a]=0", ""},
		{"@0[a]=1", number},
		{"@0[a]=12", number},
		{"@0[a]=123", ""},
		{"@0[a]=@", number},
		{"@0[a]=@0", "["},
		{"@0[a]=@1", number + "["},
		{"@0[a]=@123", "["},
		{"@0[a]=@0[", vars},
		{"@0[a]=@0[b", "]"},
		{"@0[a]=@0[b]", ""},
		{"(a", "+=<"},
		{"(a=b", "+&|"},
		{"(a=0", vars + "+&|"},
		{"(a=1", part + "+&|"},
		{"(@0[a]=0", "&|"},
		{"(@0[a]=1", number + "&|"},
		{"(@0[a]=@0[b]", "&|"},
		{"(~a=b", "+&|"},
		{"(Ea:a=b", "+&|"},
		{"(a=b&", claim},
		{"(a=b|", claim},
		{"(a=b&c", "+=<"},
		{"(a=b&c=d", "+)"},
		{"(a=b|c=0", vars + "+)"},
		{"(a=b|@0[a]=1", number + ")"},
		{"(a=b|@0[a]=@0[b]", ")"},
		{"(a=b&c=d)", ""},
		{"~(a=b&c=d)", ""},
		{"Ea:(a=b&c=d)", ""},
		{"((a=b&c=d)", "&|"},
		{"((a=b&c=d)|", claim},
		{"((a=b&c=d)|e=0", vars + "+)"},
		{"(a=b&(c=d|e=0)", ")"},
		{"(a=b&(c=d|e=0))", ""},
	} {
		for _, next := range allBytes() {
			s := c.begin + next
			_, place, err := text.Parse(s)
			if strings.Contains(c.may, next) {
				// What is wrong, if anything, is that it is over too early, or what Check says.
				if err != nil && place != len(s) {
					t.Errorf("Parse(%q): got %d %v, though it can go on", s, place, err)
				}
				continue
			}
			for _, behind := range []string{"", "a", "=0", "&a=0)", ")", "\x00"} {
				wantNoParse(t, s+behind, len(c.begin), api.ErrSyntax)
			}
		}
	}
}

// X2: a text that ends too early, at each of its places.
func TestParseTooEarly(t *testing.T) {
	wantNoParse(t, "", 0, api.ErrSyntax)
	for _, s := range []string{"12a+3", "a", "0", "999", "~", "~~", "(", "((((", "(a=b", "(a=b&c=d", "Ea", "Aa:", "@0[a]", "@0[a]=@1[b", "a=", "a<", "a=b+", "0=0+"} {
		wantNoParse(t, s, len(s), api.ErrSyntax)
	}
	for _, p := range pairs() {
		for long := range len(p.s) {
			got, _, err := text.Parse(p.s[:long])
			// A piece may be a text itself, as a=1 is of a=12.
			if err == nil {
				if !isClaim(p.s[:long]) {
					t.Errorf("Parse(%q): got %v, though it is over too early", p.s[:long], got)
				}
				continue
			}
			wantNoParse(t, p.s[:long], long, api.ErrSyntax)
		}
	}
}

// X2: what no text has.
func TestParseWrong(t *testing.T) {
	for _, c := range []struct {
		s     string
		place int
	}{
		{"a=01", 3},
		{"00=0", 1},
		{"a=1000", 5},
		{"1000a=0", 3},
		{"a=-1", 2},
		{"-a=0", 0},
		{"+a=0", 0},
		{"a==b", 2},
		{"a=b=c", 3},
		{"a<=b", 2},
		{"a>b", 1},
		{"a = b", 1},
		{" a=b", 0},
		{"a=b ", 3},
		{"a=b\n", 3},
		{"a=b)", 3},
		{"(a=b)", 4},
		{"a=b&c=d", 3},
		{"(a=b&c=d|e=0)", 8},
		{"f=0", 0},
		{"a=f", 2},
		{"aa=0", 1},
		{"a2=0", 1},
		{"2*a=0", 1},
		{"a+=0", 2},
		{"a++b=0", 2},
		{"a+b+=0", 4},
		{"e:a=0", 1},
		{"Ef:a=0", 1},
		{"EA:a=0", 1},
		{"E:a=0", 1},
		{"Eab:a=0", 2},
		{"~", 1},
		{"!a=0", 0},
		{"@[a]=0", 1},
		{"@a[a]=0", 1},
		{"@-1[a]=0", 1},
		{"@00[a]=0", 2},
		{"@01[a]=0", 2},
		{"@1000[a]=0", 4},
		{"@0a=0", 2},
		{"@0[0]=0", 3},
		{"@0[f]=0", 3},
		{"@0[a]<0", 5},
		{"@0[a]=a", 6},
		{"@0[a]=1b", 7},
		{"@0[a]=1+1", 7},
		{"@0[a]=00", 7},
		{"@0[a]=1000", 9},
		{"@0[a]=@0[b]+1", 11},
		{"@0[a]=@0[b]=@0[c]", 11},
		{"1=@0[a]", 2},
		{"a+@0[a]=1", 2},
		{"\x00", 0},
		{"\xff", 0},
		{"a=b\x00", 3},
		{"\u00e4=b", 0},
	} {
		wantNoParse(t, c.s, c.place, api.ErrSyntax)
	}
}

// X2: Check's error of what comes, at the place behind the text, and behind what is wrong with the text itself.
func TestParseCheck(t *testing.T) {
	for _, s := range []string{
		"13a=0", "0=13a", "a+12b=0", "7a<6b", "12a=1b", "999a=0", "61=0", "0<61", "a=999", "a+60+1=0",
		"@3[a]=0", "@10[a]=0", "@999[a]=0", "@0[a]=10", "@0[a]=999", "@3[a]=@0[a]", "@0[a]=@3[a]", "@0[a]=@12[a]",
		"~13a=0", "(a=0&13a=0)", "(13a=0|a=0)", "Ea:13a=0",
	} {
		wantNoParse(t, s, len(s), api.ErrRange)
		wantNoParse(t, s+")", len(s), api.ErrSyntax)
	}
	wantNoParse(t, "13a=0+", 6, api.ErrSyntax)
	wantNoParse(t, "(13a=0&", 7, api.ErrSyntax)
	full := strings.Repeat("~", 40)
	wantNoParse(t, full+"0=0", 43, api.ErrFull)
	wantNoParse(t, full+"13a=0", 45, api.ErrFull)
	wantNoParse(t, full+"01=0", 41, api.ErrSyntax)
	wantNoParse(t, full, 40, api.ErrSyntax)
	wantNoParse(t, strings.Repeat("~", 39)+"13a=0", 44, api.ErrRange)
	wantNoParse(t, strings.Repeat("(0=0|", 20)+"0=0"+strings.Repeat(")", 20), 123, api.ErrFull)
}

// X2: as many bytes as may be, and one more.
func TestParseLong(t *testing.T) {
	zeros := strings.Repeat("0+", 998)
	wantParse(t, zeros+"0=2a", of(eq(0, -2)))
	wantParse(t, strings.Repeat("a+", 499)+"a="+strings.Repeat("a+", 499)+"a", of(eq(0)))
	wantNoParse(t, zeros+"0=10a", 0, api.ErrFull)
	wantNoParse(t, strings.Repeat("999+", 499)+"99=0", 2000, api.ErrRange)
	wantNoParse(t, strings.Repeat("999a+", 399)+"99a=0", 2000, api.ErrRange)
	for _, s := range []string{"~", "(", "(~", "Ea:A", "a", "0+", "a=", "\x00", "x"} {
		long := strings.Repeat(s, 2000/len(s))
		_, place, err := text.Parse(long)
		if plain.Told(err) != api.ErrSyntax || place > len(long) {
			t.Errorf("Parse of %q again and again: got %d %v", s, place, err)
		}
		wantNoParse(t, long+"0", 0, api.ErrFull)
	}
	wantNoParse(t, strings.Repeat("~", 2000), 2000, api.ErrSyntax)
	wantNoParse(t, strings.Repeat("(", 2000), 2000, api.ErrSyntax)
	wantNoParse(t, strings.Repeat("~", 1997)+"0=0", 2000, api.ErrFull)
	wantNoParse(t, strings.Repeat("~", 1998)+"0=0", 0, api.ErrFull)
	wantNoParse(t, strings.Repeat("\xff", 100000), 0, api.ErrFull)
}

// tree makes a formula of at most so many nodes, at least one.
func tree(r *rand.Rand, most int) []api.Node {
	switch k := r.Intn(9); {
	case k < 2 && most >= 3:
		first := tree(r, most-2)
		second := tree(r, most-1-len(first))
		return append(append(of(api.Node{Op: api.And + r.Intn(2)}), first...), second...)
	case k < 4 && most >= 2:
		return append(of(api.Node{Op: api.Some + r.Intn(2), Var: r.Intn(5)}), tree(r, most-1)...)
	case k < 5 && most >= 2:
		return append(of(not()), tree(r, most-1)...)
	case k < 6:
		return of(at(r.Intn(3), r.Intn(5), r.Intn(10)))
	case k < 7:
		return of(like(r.Intn(3), r.Intn(5), r.Intn(3), r.Intn(5)))
	}
	return of(sum(r))
}

// sum makes an Eq or Lt.
func sum(r *rand.Rand) api.Node {
	n := api.Node{Op: api.Eq + r.Intn(2), Num: r.Intn(121) - 60}
	if r.Intn(4) == 0 {
		n.Num = 0
	}
	left := 12
	for range r.Intn(6) {
		coef := r.Intn(2*left+1) - left
		left -= max(coef, -coef)
		n.Coefs = append(n.Coefs, coef)
	}
	n.Coefs = formula.Trim(n.Coefs)
	return n
}

// X1, X2: each formula is told back, by a text that is just one of its form.
func TestToldBack(t *testing.T) {
	r := rand.New(rand.NewSource(13))
	for range 20000 {
		f := tree(r, 1+r.Intn(40))
		was := clone(f)
		s, err := text.Print(f)
		if err != nil || !equal(f, was) {
			t.Fatalf("Print(%v): %v, and it is %v now", was, err, f)
		}
		if !isClaim(s) {
			t.Fatalf("Print(%v): %q is no claim", f, s)
		}
		wantParse(t, s, f)
	}
}

// The form of what a claim is made of.
const (
	aNumber = `(0|[1-9][0-9]?[0-9]?)`
	aPart   = `(` + aNumber + `?[a-e]|` + aNumber + `)`
	aSum    = aPart + `(\+` + aPart + `)*`
	anOut   = `@` + aNumber + `\[[a-e]\]`
)

// The longest match is taken: else a number would end ahead of its last digits.
var (
	outputs = longest(anOut + `=(` + anOut + `|` + aNumber + `)`)
	sums    = longest(aSum + `[=<]` + aSum)
	joins   = longest(`~X|[EA][a-e]:X|\(X[&|]X\)`)
)

func longest(form string) *regexp.Regexp {
	re := regexp.MustCompile(form)
	re.Longest()
	return re
}

// isClaim tells whether a text has the form of a claim, whatever Check says of it.
func isClaim(s string) bool {
	if strings.Contains(s, "X") {
		return false
	}
	return reduce(s) == "X"
}

// reduce puts X for each piece of a text that is a claim, from within.
func reduce(s string) string {
	s = sums.ReplaceAllString(outputs.ReplaceAllString(s, "X"), "X")
	for {
		to := joins.ReplaceAllString(s, "X")
		if to == s {
			return s
		}
		s = to
	}
}

// garble changes a text in a few places.
func garble(r *rand.Rand, s string) string {
	const known = "abcde0123456789+=<@[]~(&|)EA:"
	b := []byte(s)
	for range r.Intn(4) {
		at := r.Intn(len(b) + 1)
		c := known[r.Intn(len(known))]
		if r.Intn(8) == 0 {
			c = byte(r.Intn(256))
		}
		switch {
		case r.Intn(3) == 0:
			b = slices.Insert(b, at, c)
		case at < len(b) && r.Intn(2) == 0:
			b[at] = c
		case at < len(b):
			b = slices.Delete(b, at, at+1)
		}
	}
	return string(b)
}

// X2: just what has the form is read, and where reading stops nothing helps that follows.
func TestParseAnything(t *testing.T) {
	r := rand.New(rand.NewSource(31))
	read, wrong := 0, 0
	for range 40000 {
		s, err := text.Print(tree(r, 1+r.Intn(8)))
		if err != nil {
			t.Fatal(err)
		}
		s = garble(r, s)
		f, place, err := text.Parse(s)
		if isClaim(s) != (plain.Told(err) != api.ErrSyntax) {
			t.Fatalf("Parse(%q): got %v %d %v", s, f, place, err)
		}
		switch plain.Told(err) {
		case api.OK:
			read++
			if _, err := formula.Check(f); err != nil || place != 0 {
				t.Fatalf("Parse(%q): got %v %d, of which Check says %v", s, f, place, err)
			}
			again, err := text.Print(f)
			if err != nil {
				t.Fatal(err)
			}
			wantParse(t, again, f)
		case api.ErrSyntax:
			wrong++
			if f != nil || place < 0 || place > len(s) {
				t.Fatalf("Parse(%q): got %v %d", s, f, place)
			}
			wantStop(t, s, place)
		default:
			wantNoParse(t, s, len(s), plain.Told(err))
		}
	}
	if read < 1000 || wrong < 1000 {
		t.Errorf("only %d were read, and %d wrong", read, wrong)
	}
}

// wantStop: what stands ahead of the place can go on, and stops at no place ahead of its end; with the byte at the place it stops there.
func wantStop(t *testing.T, s string, place int) {
	t.Helper()
	if _, at, err := text.Parse(s[:place]); err != nil && at != place {
		t.Fatalf("Parse(%q): got %d %v", s[:place], at, err)
	}
	if !goesOn(s[:place]) {
		t.Fatalf("Parse(%q): got %d, but no text goes on behind that", s, place)
	}
	if place == len(s) {
		return
	}
	wantNoParse(t, s[:place+1], place, api.ErrSyntax)
	if goesOn(s[:place+1]) {
		t.Fatalf("Parse(%q): got %d, but a text can go on with that byte", s, place)
	}
}

// goesOn tells whether some text begins so: first what is begun within a claim is brought to its end, then what was opened around it.
func goesOn(begin string) bool {
	for _, end := range []string{"", "0", "a=0", "=0", "a:a=0", ":a=0", "0[a]=0", "[a]=0", "a]=0", "]=0", "0[a]", "[a]", "a]", "]"} {
		if closes(begin + end) {
			return true
		}
	}
	return false
}

// closes tells whether brackets that are open make a claim of a text, if they are closed, with or without a second part.
func closes(s string) bool {
	open := max(0, strings.Count(s, "(")-strings.Count(s, ")"))
	for range open + 1 {
		if isClaim(s) {
			return true
		}
		if brief := reduce(s + ")"); strings.HasSuffix(brief, "X") {
			s += ")"
		} else {
			s += "&a=0)"
		}
	}
	return false
}

// P2: what comes out is the caller's, and no two lists share any memory.
func TestFresh(t *testing.T) {
	const s = "(a+b=c&(b<d|Ae:a=e))"
	want := of(and(), eq(0, 1, 1, -1), or(), lt(0, 0, 1, 0, -1), all(4), eq(0, 1, 0, 0, 0, -1))
	first, _, err := text.Parse(s)
	if err != nil {
		t.Fatal(err)
	}
	second, _, err := text.Parse(s)
	if err != nil {
		t.Fatal(err)
	}
	for i := range first {
		coefs := first[i].Coefs[:cap(first[i].Coefs)]
		for j := range coefs {
			coefs[j] = 77
		}
		for j := range first {
			if j > i && !slices.Equal(first[j].Coefs, want[j].Coefs) {
				t.Errorf("Coefs of %d and of %d share memory", i, j)
			}
		}
	}
	if !equal(second, want) {
		t.Errorf("two answers share memory: got %v, want %v", second, want)
	}
	wantParse(t, s, want)
}
