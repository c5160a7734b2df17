package regex_test

import (
	"fmt"
	"math/rand"
	"slices"
	"strings"
	"testing"

	"milestone/api"
	"milestone/regex"
)

func same(t *testing.T, what string, got, want any) {
	t.Helper()
	if got != want {
		t.Errorf("%s = %v, want %v", what, got, want)
	}
}

func device(name string) api.Regex { return api.Regex{Op: api.RDevice, Name: name} }

func class(name string) api.Regex { return api.Regex{Op: api.RClass, Name: name} }

func anyOne() api.Regex { return api.Regex{Op: api.RAny} }

func seq(kids ...api.Regex) api.Regex { return api.Regex{Op: api.RSeq, Kids: kids} }

func alt(kids ...api.Regex) api.Regex { return api.Regex{Op: api.RAlt, Kids: kids} }

func star(kid api.Regex) api.Regex { return api.Regex{Op: api.RStar, Kids: []api.Regex{kid}} }

func plus(kid api.Regex) api.Regex { return api.Regex{Op: api.RPlus, Kids: []api.Regex{kid}} }

func opt(kid api.Regex) api.Regex { return api.Regex{Op: api.ROpt, Kids: []api.Regex{kid}} }

// Some devices' expressions that many tests have.
var a, b, c = device("a"), device("b"), device("c")

// chain is a device under so many nodes, in turn of the three kinds with one Kid.
func chain(nodes int) api.Regex {
	r := device("a")
	for i := range nodes - 1 {
		r = api.Regex{Op: api.RStar + api.RegexOp(i%3), Kids: []api.Regex{r}}
	}
	return r
}

// wide is a node of a kind with so many devices as Kids.
func wide(op api.RegexOp, kids int) api.Regex {
	return api.Regex{Op: op, Kids: slices.Repeat([]api.Regex{device("a")}, kids)}
}

// told is all fields of all nodes, as a text that can be compared.
func told(r api.Regex) string {
	var s strings.Builder
	fmt.Fprintf(&s, "%d%q", r.Op, r.Name)
	if len(r.Kids) > 0 {
		s.WriteByte('[')
		for _, k := range r.Kids {
			s.WriteString(told(k))
		}
		s.WriteByte(']')
	}
	return s.String()
}

// isZero tells whether an expression is the zero value.
func isZero(r api.Regex) bool { return r.Op == 0 && r.Name == "" && len(r.Kids) == 0 }

// wordsOf are words of these texts, in one line with a blank between two.
func wordsOf(l ...string) []api.Word {
	var out []api.Word
	col := 1
	for _, s := range l {
		out = append(out, api.Word{Text: s, Line: 1, Col: col})
		col += len(s) + 1
	}
	return out
}

// askRead asks Read and Parse for the expression of words, which are told with blanks between.
func askRead(t *testing.T, s string, want api.Regex) {
	t.Helper()
	if r, at, e := regex.Read(wordsOf(strings.Fields(s)...)...); told(r) != told(want) || at != 0 || e != api.OK {
		t.Errorf("Read(%.80s) = %.200s, %d, %v, want %.200s", s, told(r), at, e, told(want))
	}
	askParse(t, s, want)
}

// askParse asks for a text's expression.
func askParse(t *testing.T, s string, want api.Regex) {
	t.Helper()
	if r, line, col, e := regex.Parse(s); told(r) != told(want) || line != 0 || col != 0 || e != api.OK {
		t.Errorf("Parse(%.80q) = %.200s at %d, %d: %v, want %.200s", s, told(r), line, col, e, told(want))
	}
}

// askNoRead asks Read for an error with a number, and Parse for it at that word's place. Words are told with blanks between.
func askNoRead(t *testing.T, s string, number int, want api.Errno) {
	t.Helper()
	l := wordsOf(strings.Fields(s)...)
	if r, at, e := regex.Read(l...); !isZero(r) || at != number || e != want {
		t.Errorf("Read(%.80s) = %.200s, %d, %v, want %v with %d", s, told(r), at, e, want, number)
	}
	text := strings.Join(strings.Fields(s), " ")
	col := len(text) + 1
	if number < len(l) {
		col = l[number].Col
	}
	askFault(t, text, 1, col, want)
}

// askTooGreat asks for one of Check's errors, which have no place.
func askTooGreat(t *testing.T, s string, want api.Errno) {
	t.Helper()
	if r, at, e := regex.Read(wordsOf(strings.Fields(s)...)...); !isZero(r) || at != 0 || e != want {
		t.Errorf("Read(%.80s) = %.200s, %d, %v, want %v with 0", s, told(r), at, e, want)
	}
	askFault(t, s, 0, 0, want)
}

// askFault asks for an error at its place, and that there is no expression beside it.
func askFault(t *testing.T, s string, line, col int, want api.Errno) {
	t.Helper()
	if r, gotLine, gotCol, e := regex.Parse(s); !isZero(r) || gotLine != line || gotCol != col || e != want {
		t.Errorf("Parse(%.80q) = %.200s at %d, %d: %v, want %v at %d, %d", s, told(r), gotLine, gotCol, e, want, line, col)
	}
}

// askCheck asks Check, and all calls that answer its error, and that all beside it is zero.
func askCheck(t *testing.T, r api.Regex, want api.Errno) {
	t.Helper()
	if e := regex.Check(r); e != want {
		t.Errorf("Check(%.80s) = %v, want %v", told(r), e, want)
	}
	s, e := regex.Print(r)
	if e != want || (s == "") != (want != api.OK) {
		t.Errorf("Print(%.80s) = %.80q, %v, want %v", told(r), s, e, want)
	}
	for _, path := range [][]api.Who{nil, {who("a")}, {who("a", "x"), who("b")}} {
		if ok, e := regex.Match(r, path...); e != want || ok && want != api.OK {
			t.Errorf("Match(%.80s, %v) = %v, %v, want %v", told(r), path, ok, e, want)
		}
	}
	if devices, classes, e := regex.Names(r); e != want || want != api.OK && len(devices)+len(classes) > 0 {
		t.Errorf("Names(%.80s) = %v, %v, %v, want %v", told(r), devices, classes, e, want)
	}
}

// askSize asks Size.
func askSize(t *testing.T, r api.Regex, nodes, deep int) {
	t.Helper()
	if gotNodes, gotDeep := regex.Size(r); gotNodes != nodes || gotDeep != deep {
		t.Errorf("Size = %d, %d, want %d, %d", gotNodes, gotDeep, nodes, deep)
	}
}

// askPrint asks for an expression's text, and for the expression of that text.
func askPrint(t *testing.T, r api.Regex, want string) {
	t.Helper()
	if s, e := regex.Print(r); s != want || e != api.OK {
		t.Errorf("Print(%.80s) = %q, %v, want %q", told(r), s, e, want)
	}
	askParse(t, want, r)
}

// askSame asks Same both ways round.
func askSame(t *testing.T, a, b api.Regex, want bool) {
	t.Helper()
	if regex.Same(a, b) != want || regex.Same(b, a) != want {
		t.Errorf("Same(%.80s, %.80s) is not %v", told(a), told(b), want)
	}
}

func who(name string, classes ...string) api.Who { return api.Who{Name: name, Classes: classes} }

// pathOf is a path of devices told with blanks between, each with its classes behind a colon and commas between.
func pathOf(s string) []api.Who {
	var path []api.Who
	for _, w := range strings.Fields(s) {
		name, classes, has := strings.Cut(w, ":")
		d := who(name)
		if has {
			d.Classes = strings.Split(classes, ",")
		}
		path = append(path, d)
	}
	return path
}

// askMatch asks whether a path is one of a text's expression.
func askMatch(t *testing.T, s, path string, want bool) {
	t.Helper()
	r := parsed(t, s)
	if ok, e := regex.Match(r, pathOf(path)...); ok != want || e != api.OK {
		t.Errorf("Match(%s, %s) = %v, %v, want %v", s, path, ok, e, want)
	}
}

// askNames asks for names, told with blanks between.
func askNames(t *testing.T, r api.Regex, devices, classes string) {
	t.Helper()
	l, m, e := regex.Names(r)
	if !slices.Equal(l, strings.Fields(devices)) || !slices.Equal(m, strings.Fields(classes)) || e != api.OK {
		t.Errorf("Names(%.80s) = %v, %v, %v, want %s, %s", told(r), l, m, e, devices, classes)
	}
}

// parsed is the expression of a text that is one.
func parsed(t *testing.T, s string) api.Regex {
	t.Helper()
	r, line, col, e := regex.Parse(s)
	if e != api.OK {
		t.Fatalf("Parse(%.80q): %v at %d, %d", s, e, line, col)
	}
	return r
}

// mayBeByWords tells whether an expression may be, its limits left out.
func mayBeByWords(r api.Regex) bool {
	bare, kids := r.Name == "", len(r.Kids)
	for _, k := range r.Kids {
		if !mayBeByWords(k) || k.Op == r.Op && (r.Op == api.RSeq || r.Op == api.RAlt) {
			return false
		}
	}
	switch r.Op {
	case api.RDevice, api.RClass:
		return name.MatchString(r.Name) && kids == 0
	case api.RAny:
		return bare && kids == 0
	case api.RSeq:
		return bare && kids != 1
	case api.RAlt:
		return bare && kids > 1
	case api.RStar, api.RPlus, api.ROpt:
		return bare && kids == 1
	}
	return false
}

// eachSmall goes through all expressions that may be, with at most so many nodes, over two devices, a class and RAny.
func eachSmall(nodes int, do func(r api.Regex)) {
	by := [][]api.Regex{nil}
	for n := 1; n <= nodes; n++ {
		by = append(by, ofSize(n, by))
		for _, r := range by[n] {
			do(r)
		}
	}
}

// ofSize are all of so many nodes, of those that have fewer.
func ofSize(n int, by [][]api.Regex) []api.Regex {
	if n == 1 {
		return []api.Regex{a, b, class("x"), anyOne(), seq()}
	}
	var l []api.Regex
	for _, r := range by[n-1] {
		l = append(l, star(r), plus(r), opt(r))
	}
	var rows func(left int, kids []api.Regex)
	rows = func(left int, kids []api.Regex) {
		if left == 0 && len(kids) > 1 {
			for _, r := range []api.Regex{seq(slices.Clone(kids)...), alt(slices.Clone(kids)...)} {
				if mayBeByWords(r) {
					l = append(l, r)
				}
			}
		}
		for size := 1; size <= left; size++ {
			for _, k := range by[size:min(size+1, len(by))] {
				for _, r := range k {
					rows(left-size, append(slices.Clone(kids), r))
				}
			}
		}
	}
	rows(n-1, nil)
	return l
}

// someExpression is one that may be, of at most so many nodes and so deep.
func someExpression(r *rand.Rand, nodes, deep int) api.Regex {
	for {
		x := grown(r, nodes, deep)
		if mayBeByWords(x) {
			return x
		}
	}
}

func grown(r *rand.Rand, nodes, deep int) api.Regex {
	if nodes < 3 || deep < 2 || r.Intn(8) == 0 {
		return []api.Regex{a, b, c, class("x"), class("y"), anyOne(), seq()}[r.Intn(7)]
	}
	if op := api.RSeq + api.RegexOp(r.Intn(5)); op > api.RAlt {
		return api.Regex{Op: op, Kids: []api.Regex{grown(r, nodes-1, deep-1)}}
	} else {
		kids := 2 + r.Intn(min(4, nodes-2))
		x := api.Regex{Op: op}
		for range kids {
			k := grown(r, (nodes-1)/kids, deep-1)
			for k.Op == op {
				k = grown(r, (nodes-1)/kids, deep-1)
			}
			x.Kids = append(x.Kids, k)
		}
		return x
	}
}

// somePath is one of devices with some of the classes.
func somePath(r *rand.Rand, most int) []api.Who {
	var path []api.Who
	for range r.Intn(most + 1) {
		w := who([]string{"a", "b", "c", "d"}[r.Intn(4)])
		for _, class := range []string{"x", "y", "z"} {
			if r.Intn(2) == 0 {
				w.Classes = append(w.Classes, class)
			}
		}
		path = append(path, w)
	}
	return path
}

// eachPath goes through all paths of at most so many of the devices a, b with class x, and c.
func eachPath(most int, do func(path []api.Who)) {
	var grow func(path []api.Who)
	grow = func(path []api.Who) {
		do(path)
		if len(path) < most {
			for _, w := range []api.Who{who("a"), who("b", "x"), who("c")} {
				grow(append(slices.Clone(path), w))
			}
		}
	}
	grow(nil)
}
