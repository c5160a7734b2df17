package dump_test

import (
	"encoding/binary"
	"slices"
	"strings"
	"testing"

	"milestone/api"
	"milestone/bdd"
	"milestone/dump"
)

func same(t *testing.T, what string, got, want any) {
	t.Helper()
	if got != want {
		t.Errorf("%s = %v, want %v", what, got, want)
	}
}

// makeTable makes a table that may be made.
func makeTable(t *testing.T, bits, limit int) *bdd.Table {
	t.Helper()
	x, e := bdd.New(bits, limit)
	if e != api.OK {
		t.Fatalf("New(%d, %d): %v", bits, limit, e)
	}
	return x
}

// cubesOf is the ref of the headers of some texts.
func cubesOf(t *testing.T, x *bdd.Table, l ...string) api.Ref {
	t.Helper()
	var refs []api.Ref
	for _, s := range l {
		r, e := x.Cube(s)
		same(t, "Cube("+s+")'s error", e, api.OK)
		refs = append(refs, r)
	}
	r, e := x.Or(refs...)
	same(t, "Or's error", e, api.OK)
	return r
}

// headers are all of so many bits, as numbers of two digits rise.
func headers(bits int) []string {
	out := []string{""}
	for range bits {
		var longer []string
		for _, h := range out {
			longer = append(longer, h+"0", h+"1")
		}
		out = longer
	}
	return out
}

// texts are all functions of so many bits: of each header, in order, whether it holds.
func texts(bits int) []string { return headers(1 << bits) }

// everyFunction makes all functions of a table in the order of their texts.
func everyFunction(t *testing.T, x *bdd.Table, texts []string) map[string]api.Ref {
	t.Helper()
	refs := map[string]api.Ref{}
	for _, s := range texts {
		var in []string
		for i, h := range headers(x.Bits()) {
			if s[i] == '1' {
				in = append(in, h)
			}
		}
		refs[s] = cubesOf(t, x, in...)
	}
	return refs
}

// textIn is the text of a table's function.
func textIn(t *testing.T, x *bdd.Table, a api.Ref) string {
	t.Helper()
	var b strings.Builder
	for _, h := range headers(x.Bits()) {
		in, e := x.Has(a, h)
		same(t, "Has' error", e, api.OK)
		if in {
			b.WriteByte('1')
		} else {
			b.WriteByte('0')
		}
	}
	return b.String()
}

// bytesOf are those of a list, by the document's words; of an end those of its number.
func bytesOf(bits int, l []api.Node, end int) []byte {
	b := []byte{byte(bits)}
	b = binary.BigEndian.AppendUint32(b, uint32(len(l)))
	if len(l) == 0 {
		b = append(b, byte(end))
	}
	for _, n := range l {
		b = append(b, byte(n.Bit))
		b = binary.BigEndian.AppendUint32(b, uint32(n.Low))
		b = binary.BigEndian.AppendUint32(b, uint32(n.High))
	}
	return b
}

// alike is the list of the headers whose first half is their second one, worked out by the document's words.
type alike struct {
	half int
	list []api.Node
	at   map[string]int
}

// number is the number of what is left of the function behind some bits: what of them is not answered yet.
func (a *alike) number(bit int, open string) int {
	if bit == 2*a.half {
		return 1
	}
	key := string(rune(bit)) + open
	if n, ok := a.at[key]; ok {
		return n
	}
	node := api.Node{Bit: bit}
	switch {
	case bit < a.half:
		node.Low = a.number(bit+1, open+"0")
		node.High = a.number(bit+1, open+"1")
	case open[0] == '0':
		node.Low = a.number(bit+1, open[1:])
	default:
		node.High = a.number(bit+1, open[1:])
	}
	a.list = append(a.list, node)
	a.at[key] = len(a.list) + 1
	return a.at[key]
}

// alikeList is the list of the headers of twice so many bits whose halves are the same.
func alikeList(half int) []api.Node {
	a := &alike{half: half, at: map[string]int{}}
	a.number(0, "")
	return a.list
}

// askWrite asks for bytes, and how many they are.
func askWrite(t *testing.T, x *bdd.Table, a api.Ref, want []byte) {
	t.Helper()
	before := x.Size()
	b, e := dump.Write(x, a)
	if e != api.OK || !slices.Equal(b, want) {
		t.Errorf("Write(%d) = %.60v, %v, want %.60v", a, b, e, want)
	}
	n, e := dump.Size(x, a)
	if n != len(want) || e != api.OK {
		t.Errorf("Size(%d) = %d, %v, want %d", a, n, e, len(want))
	}
	same(t, "the table's size", x.Size(), before)
}

// askRead asks for the ref of bytes.
func askRead(t *testing.T, x *bdd.Table, b []byte, want api.Ref) {
	t.Helper()
	if a, at, e := dump.Read(x, b); a != want || at != 0 || e != api.OK {
		t.Errorf("Read(%.60v) = %d, %d, %v, want %d", b, a, at, e, want)
	}
}

// askFault asks for an error at its place, that nothing is beside it, and that the table has not changed.
func askFault(t *testing.T, x *bdd.Table, b []byte, place int, want api.Errno) {
	t.Helper()
	before := x.Size()
	if a, at, e := dump.Read(x, b); a != 0 || at != place || e != want {
		t.Errorf("Read(%.60v) = %d, %d, %v, want %v at %d", b, a, at, e, want, place)
	}
	same(t, "the table's size", x.Size(), before)
}

// askMove asks for refs.
func askMove(t *testing.T, from, to *bdd.Table, l []api.Ref, want []api.Ref) {
	t.Helper()
	if got, e := dump.Move(from, to, l...); e != api.OK || !slices.Equal(got, want) {
		t.Errorf("Move(%v) = %v, %v, want %v", l, got, e, want)
	}
}

// askNoMove asks for an error with nothing beside it, and for the size of the other table behind it.
func askNoMove(t *testing.T, from, to *bdd.Table, l []api.Ref, want api.Errno, size int) {
	t.Helper()
	if got, e := dump.Move(from, to, l...); e != want || len(got) != 0 {
		t.Errorf("Move(%v) = %v, %v, want %v", l, got, e, want)
	}
	same(t, "the other table's size", to.Size(), size)
}
