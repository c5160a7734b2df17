package bdd_test

import (
	"fmt"
	"math/rand"
	"slices"
	"testing"

	"milestone/api"
	"milestone/bdd"
)

// model is a table by the document's words: the texts of what is told, by refs.
type model struct {
	bits  int
	limit int
	told  map[api.Ref]string
	old   []api.Ref // refs that were told ahead of a Keep
}

func newModel(bits, limit int) *model {
	m := &model{bits: bits, limit: limit}
	m.forget()
	return m
}

func (m *model) forget() {
	for r := range m.told {
		if r > 1 {
			m.old = append(m.old, r)
		}
	}
	slices.Sort(m.old)
	m.told = map[api.Ref]string{0: textOf(m.bits, func(string) bool { return false }), 1: textOf(m.bits, func(string) bool { return true })}
}

// size is how many nodes the told functions and some more have together.
func (m *model) size(more ...string) int {
	var l []string
	for _, s := range m.told {
		l = nodesOf(s, l)
	}
	for _, s := range more {
		l = nodesOf(s, l)
	}
	return len(l)
}

// texts are those of refs, if all are told.
func (m *model) texts(l []api.Ref) ([]string, bool) {
	var out []string
	for _, r := range l {
		s, ok := m.told[r]
		if !ok {
			return nil, false
		}
		out = append(out, s)
	}
	return out, true
}

// heard holds an answer against the text that it should stand for, and takes it down.
func (m *model) heard(s string, r api.Ref, e api.Errno) error {
	if m.size(s) > m.limit {
		if r != 0 || e != api.ErrFull {
			return fmt.Errorf("%d, %v; it is full", r, e)
		}
		return nil
	}
	if e != api.OK {
		return fmt.Errorf("%v", e)
	}
	for other, text := range m.told {
		if (other == r) != (text == s) {
			return fmt.Errorf("%d of %s; %d of %s is told", r, s, other, text)
		}
	}
	if slices.Contains(m.old, r) {
		return fmt.Errorf("%d was another one's, ahead of a Keep", r)
	}
	m.told[r] = s
	return nil
}

// player makes calls that nobody chose by hand.
type player struct {
	*model
	x   *bdd.Table
	rnd *rand.Rand
}

// refs are some that are told, and seldom one that is not.
func (p *player) refs(n int) []api.Ref {
	known := []api.Ref{}
	for r := range p.told {
		known = append(known, r)
	}
	slices.Sort(known)
	var l []api.Ref
	for range n {
		switch {
		case len(p.old) > 0 && p.rnd.Intn(60) == 0:
			l = append(l, p.old[p.rnd.Intn(len(p.old))])
		case p.rnd.Intn(60) == 0:
			l = append(l, api.Ref(p.rnd.Intn(200)-20))
		default:
			l = append(l, known[p.rnd.Intn(len(known))])
		}
	}
	return l
}

// join asks for a function of others.
func (p *player) join(l []api.Ref, how func(l []bool) bool, r api.Ref, e api.Errno) error {
	texts, ok := p.texts(l)
	if !ok {
		if r != 0 || e != api.ErrRef {
			return fmt.Errorf("%v: %d, %v", l, r, e)
		}
		return nil
	}
	return p.heard(joined(how, 1<<p.bits, texts...), r, e)
}

// play makes one call.
func (p *player) play() (string, error) {
	switch p.rnd.Intn(9) {
	case 0, 1:
		s := make([]byte, p.bits)
		for i := range s {
			s[i] = "01x"[p.rnd.Intn(3)]
		}
		r, e := p.x.Cube(string(s))
		return "Cube " + string(s), p.heard(textOf(p.bits, func(h string) bool { return fits(h, string(s)) }), r, e)
	case 2:
		l := p.refs(p.rnd.Intn(5))
		r, e := p.x.And(l...)
		return fmt.Sprint("And ", l), p.join(l, all, r, e)
	case 3:
		l := p.refs(p.rnd.Intn(5))
		r, e := p.x.Or(l...)
		return fmt.Sprint("Or ", l), p.join(l, one, r, e)
	case 4:
		l := p.refs(1)
		r, e := p.x.Not(l[0])
		return fmt.Sprint("Not ", l), p.join(l, not, r, e)
	case 5:
		l := p.refs(2)
		r, e := p.x.Diff(l[0], l[1])
		return fmt.Sprint("Diff ", l), p.join(l, diff, r, e)
	case 6:
		l := p.refs(3)
		r, e := p.x.Ite(l[0], l[1], l[2])
		return fmt.Sprint("Ite ", l), p.join(l, ite, r, e)
	case 7:
		s := joined(func([]bool) bool { return p.rnd.Intn(2) == 0 }, 1<<p.bits)
		if ownNode(s) == "1" {
			s = p.told[0] // its list has no nodes, and such a list is no
		}
		r, at, e := p.x.Make(listOf(s, p.bits))
		if at != 0 {
			return "Make " + s, fmt.Errorf("place %d", at)
		}
		return "Make " + s, p.heard(s, r, e)
	}
	if p.rnd.Intn(4) > 0 {
		return "nothing", nil
	}
	return p.keep()
}

// keep lets go of all but some.
func (p *player) keep() (string, error) {
	l := p.refs(p.rnd.Intn(4))
	what := fmt.Sprint("Keep ", l)
	kept, e := p.x.Keep(l...)
	texts, ok := p.texts(l)
	if !ok {
		if kept != nil || e != api.ErrRef {
			return what, fmt.Errorf("%v, %v", kept, e)
		}
		return what, nil
	}
	if e != api.OK || len(kept) != len(l) {
		return what, fmt.Errorf("%v, %v", kept, e)
	}
	p.forget()
	for i, r := range kept {
		if err := p.heard(texts[i], r, api.OK); err != nil {
			return what, err
		}
	}
	return what, nil
}

// look holds all that is to be seen against the model.
func (p *player) look() error {
	if got, want := p.x.Size(), p.size(); got != want || got > p.limit {
		return fmt.Errorf("size %d, want %d", got, want)
	}
	for r := api.Ref(-2); r < 150; r++ {
		s, told := p.told[r]
		l, e := p.x.List(r)
		if !told && (l != nil || e != api.ErrRef) {
			return fmt.Errorf("List(%d): %v, %v; it is not told", r, l, e)
		}
		if told && (!slices.Equal(l, listOf(s, p.bits)) || e != api.OK) {
			return fmt.Errorf("List(%d): %v, %v; it is %s", r, l, e, s)
		}
	}
	return nil
}

func TestModel(t *testing.T) {
	for bits := 1; bits <= 4; bits++ {
		for _, limit := range []int{0, 1, 2, 3, 4, 5, 6, 8, 11, 15, 30, 1000} {
			for seed := range int64(4) {
				p := &player{model: newModel(bits, limit), x: makeTable(t, bits, limit), rnd: rand.New(rand.NewSource(seed))}
				for range 60 {
					what, err := p.play()
					if err == nil {
						err = p.look()
					}
					if err != nil {
						t.Fatalf("%d bits, limit %d, seed %d: %s: %v", bits, limit, seed, what, err)
					}
				}
			}
		}
	}
}

// TestAgain: the same calls tell the same refs, whatever failed or was only looked at between them, and whatever another table does.
func TestAgain(t *testing.T) {
	for seed := range int64(20) {
		var told [2][]api.Ref
		for run := range told {
			rnd := rand.New(rand.NewSource(seed))
			x, other := makeTable(t, 5, 40), makeTable(t, 5, 40)
			l := []api.Ref{0, 1}
			for i := range 60 {
				var r api.Ref
				var e api.Errno
				a, b, c := l[rnd.Intn(len(l))], l[rnd.Intn(len(l))], l[rnd.Intn(len(l))]
				s := make([]byte, 5)
				for j := range s {
					s[j] = "01xx"[rnd.Intn(4)]
				}
				switch rnd.Intn(4) {
				case 0:
					r, e = x.Cube(string(s))
				case 1:
					r, e = x.And(a, b, c)
				case 2:
					r, e = x.Or(a, b, c)
				case 3:
					r, e = x.Ite(a, b, c)
				}
				if e == api.OK {
					l = append(l, r)
				}
				if i%20 == 19 {
					kept, _ := x.Keep(l[len(l)-1], l[len(l)/2])
					l = append([]api.Ref{0, 1}, kept...)
				}
				told[run] = append(told[run], r)
				if run == 1 {
					other.Cube(string(s))
					x.Cube("?")
					x.Not(-1)
					x.Keep(l[0], -1)
					x.Make([]api.Node{{Bit: 4, High: 1}, {Bit: 9}})
					x.Cubes(l[len(l)-1], 100)
					x.List(l[len(l)-1])
				}
			}
		}
		if !slices.Equal(told[0], told[1]) {
			t.Errorf("seed %d: %v, %v", seed, told[0], told[1])
		}
	}
}
