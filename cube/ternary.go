package cube

import "milestone/api"

// wordBits is how many places one word of a set holds.
const wordBits = 64

// places is a set of places of a cube. As words, two cubes are held against each other in a few steps, however wide they are: Left and Apart ask that of millions of pairs.
type places [(api.MaxBits + wordBits - 1) / wordBits]uint64

func (p *places) add(i int) {
	p[i/wordBits] |= 1 << (i % wordBits)
}

func (p places) has(i int) bool {
	return p[i/wordBits]>>(i%wordBits)&1 == 1
}

// ternary is a cube. A place in ones is in fixed, too, so that alike cubes are alike structs.
type ternary struct {
	fixed places // not free
	ones  places // 1
}

// read turns texts into cubes: ErrCube, if one is none, ahead of ErrWidth, if they are not equally wide.
func read(l ...string) (cubes []ternary, e api.Errno) {
	defer func() {
		if recover() != nil {
			cubes, e = nil, api.ErrCube
		}
	}()
	cubes = make([]ternary, len(l))
	for i, c := range l {
		cubes[i] = mustBeCube(c)
	}
	for _, c := range l {
		if len(c) != len(l[0]) {
			return nil, api.ErrWidth
		}
	}
	return cubes, api.OK
}

// mustBeCube panics at a text that is no cube: whatever else is handed in beside it, nothing is to be done then.
func mustBeCube(c string) ternary {
	if len(c) < 1 || len(c) > api.MaxBits {
		panic(api.ErrCube)
	}
	var t ternary
	for i := range len(c) {
		switch c[i] {
		case '0', '1':
			t.fix(i, c[i] == '1')
		case 'x':
		default:
			panic(api.ErrCube)
		}
	}
	return t
}

// fix makes a free place 0 or 1.
func (t *ternary) fix(i int, one bool) {
	t.fixed.add(i)
	if one {
		t.ones.add(i)
	}
}

func (t ternary) text(width int) string {
	s := make([]byte, width)
	for i := range s {
		switch {
		case t.ones.has(i):
			s[i] = '1'
		case t.fixed.has(i):
			s[i] = '0'
		default:
			s[i] = 'x'
		}
	}
	return string(s)
}

func texts(l []ternary, width int) []string {
	out := make([]string, len(l))
	for i, t := range l {
		out[i] = t.text(width)
	}
	return out
}

func (t ternary) meets(u ternary) bool {
	for w := range t.fixed {
		if (t.ones[w]^u.ones[w])&t.fixed[w]&u.fixed[w] != 0 {
			return false
		}
	}
	return true
}

// meet holds only of cubes that do meet: a place that is 0 in one and 1 in the other would come out as 1.
func (t ternary) meet(u ternary) ternary {
	for w := range u.fixed {
		t.fixed[w] |= u.fixed[w]
		t.ones[w] |= u.ones[w]
	}
	return t
}

func (t ternary) inside(u ternary) bool {
	for w := range t.fixed {
		if u.fixed[w]&^t.fixed[w] != 0 || (t.ones[w]^u.ones[w])&u.fixed[w] != 0 {
			return false
		}
	}
	return true
}

// cut puts the parts of t without u behind those that are there.
func (t ternary) cut(u ternary, width int, parts []ternary) []ternary {
	if !t.meets(u) {
		return append(parts, t)
	}
	for i := range width {
		if t.fixed.has(i) || !u.fixed.has(i) {
			continue
		}
		one := u.ones.has(i)
		part := t
		part.fix(i, !one)
		parts = append(parts, part)
		t.fix(i, one) // up to here t is now what both have in common, as later parts ask
	}
	return parts
}

// cutEach puts the parts of each of l without u one behind the other. It stops at more than MaxCubes, since within one round they only grow.
func cutEach(l []ternary, u ternary, width int, parts []ternary) []ternary {
	for _, t := range l {
		parts = t.cut(u, width, parts)
		if len(parts) > api.MaxCubes {
			break
		}
	}
	return parts
}
