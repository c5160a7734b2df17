package invar_test

import (
	"math/rand"
	"slices"
	"strings"
	"testing"

	"milestone/api"
	"milestone/invar"
	"milestone/regex"
)

// askByWords asks Parse for what the document says of a text, and tells the error.
func askByWords(t *testing.T, s string) api.Errno {
	t.Helper()
	want, line, col, e := parseByWords(s)
	if e == api.OK {
		askParse(t, s, want...)
	} else {
		askFault(t, s, line, col, e)
	}
	return e
}

// spoiltText is a text with some of its words changed, so that it is right or not.
func spoiltText(r *rand.Rand, s string) string {
	lines := strings.Split(s, "\n")
	for range 1 + r.Intn(2) {
		i, j := r.Intn(len(lines)), r.Intn(len(lines))
		l := strings.Fields(lines[i])
		if len(l) == 0 {
			continue
		}
		k, m := r.Intn(len(l)), r.Intn(len(l))
		switch r.Intn(8) {
		case 0:
			l = slices.Delete(l, k, k+1)
		case 1:
			l = slices.Insert(l, k, l[m])
		case 2, 3:
			l[k] = strings.Fields("invariant packets from hops count path a x , == <= >= = < -> - 7 0 63 64 65 1x ( ) | * $ . 2147483648")[r.Intn(29)]
		case 4:
			l = l[:k]
		case 5:
			lines[i], lines[j] = lines[j], lines[i]
			continue
		case 6:
			lines = slices.Insert(lines, j, lines[i])
			continue
		case 7:
			l[k], l[m] = l[m], l[k]
		}
		lines[i] = strings.Join(l, " ")
	}
	return strings.Join(lines, "\n")
}

// P12.3, of texts that are right, and of some that nearly are.
func TestSomeTextsByWords(t *testing.T) {
	r := rand.New(rand.NewSource(12))
	come := map[api.Errno]int{}
	for range 20000 {
		l := someInvariants(r)
		s := someText(r, l)
		askParse(t, s, l...)
		come[askByWords(t, spoiltText(r, s))]++
		if t.Failed() {
			return
		}
	}
	for _, e := range []api.Errno{api.OK, api.ErrInvariant, api.ErrName, api.ErrCube, api.ErrNumber, api.ErrRange, api.ErrSyntax, api.ErrSame} {
		if come[e] == 0 {
			t.Errorf("%v never came", e)
		}
	}
}

// spoiltInvariant is one with a field changed, so that it may be or not.
func spoiltInvariant(r *rand.Rand, v api.Invariant) api.Invariant {
	v = deep(v)
	texts := []string{"", "A", "B2", "_", "a", "a-", "zz", "7", "%", "x1", "0", "1x "}
	text := texts[r.Intn(len(texts))]
	i := r.Intn(len(v.Ingress))
	switch r.Intn(10) {
	case 0:
		v.Name = text
	case 1:
		v.Packets = text
	case 2:
		v.Packets = strings.Repeat("x", r.Intn(2*api.MaxBits))
	case 3:
		v.Ingress = slices.Insert(v.Ingress, i, text)
	case 4:
		v.Ingress[i] = text
	case 5:
		v.Ingress = v.Ingress[:i]
	case 6:
		v.Hops += r.Intn(129) - 64
	case 7:
		v.Count += r.Intn(129) - 64
	case 8:
		v.Compare += r.Intn(7) - 3
	case 9:
		v.Path = api.Regex{Op: api.RegexOp(r.Intn(10)), Name: text, Kids: []api.Regex{v.Path}[:r.Intn(2)]}
	}
	return v
}

// P12.1, P12.2, P12.4 and P12.5, of invariants that may be, and of some that nearly are.
func TestSomeInvariantsByWords(t *testing.T) {
	r := rand.New(rand.NewSource(121))
	come := map[api.Errno]int{}
	for range 20000 {
		v := someInvariant(r)
		askMay(t, "one that may be", v, api.OK)
		askLine(t, v, strings.TrimSuffix(printByWords([]api.Invariant{v}), "\n"))
		w := spoiltInvariant(r, v)
		want := regex.Check(w.Path)
		if !mayBeByWords(w) {
			want = api.ErrInvariant
		}
		come[want]++
		askMay(t, "one that is changed", w, want)
		askSame(t, "one that is changed", v, w, told(v) == told(w))
		if want == api.OK {
			askLine(t, w, strings.TrimSuffix(printByWords([]api.Invariant{w}), "\n"))
		}
		askChecksByWords(t, r, w, want)
		if t.Failed() {
			t.Log(told(v), told(w))
			return
		}
	}
	for _, e := range []api.Errno{api.OK, api.ErrInvariant, api.ErrRegex} {
		if come[e] < 500 {
			t.Errorf("%v came only %d times", e, come[e])
		}
	}
}

// askChecksByWords asks Check of an invariant, of which Form answers this error, and of some topology.
func askChecksByWords(t *testing.T, r *rand.Rand, v api.Invariant, form api.Errno) {
	t.Helper()
	devices := []string{"A", "B2", "_", "a", "a-", "count", "from", "hops", "invariant", "packets", "path", "x", "zz"}
	x := net(max(1, min(len(v.Packets)+r.Intn(20)/19, api.MaxBits)), devices...)
	if r.Intn(2) == 0 {
		i := r.Intn(len(devices))
		x.Devices = slices.Delete(x.Devices, i, i+1)
	}
	want := form
	if form == api.OK && len(v.Packets) != x.Width {
		want = api.ErrWidth
	} else if form == api.OK {
		named := append(devicesOf(v.Path), v.Ingress...)
		for _, name := range named {
			if !slices.ContainsFunc(x.Devices, func(d api.Device) bool { return d.Name == name }) {
				want = api.ErrUnknown
			}
		}
	}
	askCheck(t, "some topology", v, x, want)
}

// devicesOf are the Names of all RDevice.
func devicesOf(r api.Regex) []string {
	var l []string
	if r.Op == api.RDevice {
		l = append(l, r.Name)
	}
	for _, k := range r.Kids {
		l = append(l, devicesOf(k)...)
	}
	return l
}

// P12.5: what is printed is read as itself; what is read is printed so that it is read as the same, and is printed again as it was.
func TestThereAndBack(t *testing.T) {
	r := rand.New(rand.NewSource(125))
	for range 10000 {
		l := someInvariants(r)
		askPrint(t, printByWords(l), l...)
		x, _, _, e := invar.Parse(someText(r, l))
		same(t, "Parse", e, api.OK)
		s, at, e := invar.Print(x...)
		same(t, "Print", e, api.OK)
		same(t, "its number", at, 0)
		y, _, _, e := invar.Parse(s)
		same(t, "Parse of Print", e, api.OK)
		again, _, e := invar.Print(y...)
		same(t, "Print again", e, api.OK)
		if !slices.EqualFunc(x, y, invar.Same) || again != s || told(x...) != told(y...) {
			t.Fatalf("%q is read as %s, printed as %q", s, told(y...), again)
		}
	}
}

// P12.5 at the limits of all fields.
func TestThereAndBackAtTheLimits(t *testing.T) {
	v := with(func(v *api.Invariant) {
		v.Name, v.Packets = strings.Repeat("n", api.MaxName), strings.Repeat("x", api.MaxBits)
		v.Hops, v.Count, v.Ingress = api.MaxHops, api.MaxCount, nil
		for _, name := range names("d", api.MaxDevices) {
			v.Ingress = append(v.Ingress, name+strings.Repeat("-", api.MaxName-5))
		}
	})
	long := strings.Repeat("-", 9)
	for _, path := range []api.Regex{nested(50), seq(slices.Repeat([]api.Regex{device("d" + long)}, api.MaxRegex-1)...), alt(slices.Repeat([]api.Regex{class("c" + long)}, api.MaxRegex-1)...), repeated(anyOne(), api.MaxDeep-1)} {
		v.Path = path
		askPrint(t, printByWords([]api.Invariant{v}), v)
	}
	l := several(api.MaxInvariants)
	for i := range l {
		l[i].Ingress, l[i].Path = names("d", api.MaxDevices), nested(i%51)
	}
	askPrint(t, printByWords(l), l...)
}

// Any bytes at all are answered, with a place just where there is an error that has one.
func TestAnyBytes(t *testing.T) {
	r := rand.New(rand.NewSource(127))
	for range 20000 {
		s := []byte(someText(r, []api.Invariant{someInvariant(r)}))
		for range 1 + r.Intn(3) {
			s[r.Intn(len(s))] = byte(r.Intn(256))
		}
		askByWords(t, string(s))
	}
}
