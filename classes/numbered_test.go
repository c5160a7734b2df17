package classes

import (
	"fmt"
	"slices"
	"testing"

	"milestone/api"
	"milestone/bdd"
)

// fourBits are the 16 headers of four bits, each a class of its own.
func fourBits(x *bdd.Table) []api.Class {
	var l []api.Class
	for i := range 16 {
		where, _ := x.Cube(fmt.Sprintf("%04b", i))
		l = append(l, api.Class{Where: where, Action: api.Action{Kind: api.All, Ports: []string{fmt.Sprintf("p%02d", i)}}})
	}
	return l
}

// Where the sheet has no room to tell classes apart, they are all asked.
func TestNumbersWithoutRoom(t *testing.T) {
	x, _ := bdd.New(4, api.MaxNodes)
	set, _ := x.Cube("01x1")
	all := []int{0, 1, 2, 3, 4, 5, 6, 7, 8, 9, 10, 11, 12, 13, 14, 15}
	told := 0
	for limit := range 60 {
		small, _ := bdd.New(4, limit)
		n := newNumbered(&sheet{Table: small}, x, fourBits(x))
		switch met := n.meets(x, set); {
		case slices.Equal(met, []int{5, 7}):
			told++
		case !slices.Equal(met, all):
			t.Errorf("with %d nodes: %v", limit, met)
		}
	}
	if told == 0 || told == 60 {
		t.Errorf("told apart %d times of 60", told)
	}
}

// Changes are the same, whatever room there is to find them.
func TestShiftsWithoutRoom(t *testing.T) {
	x, _ := bdd.New(4, api.MaxNodes)
	low, _ := x.Cube("0xxx")
	high, _ := x.Cube("1xxx")
	a := []api.Class{{Where: low, Action: api.Action{Kind: api.Drop}}, {Where: high, Action: api.Action{Kind: api.All, Ports: []string{"p09"}}}}
	b := fourBits(x)
	want := fmt.Sprint(shifts(newSheet(4), x, a, b))
	for limit := range 60 {
		small, _ := bdd.New(4, limit)
		if got := shifts(&sheet{Table: small}, x, a, b); len(got) != 15 || fmt.Sprint(got) != want {
			t.Errorf("with %d nodes: %v", limit, got)
		}
	}
}

func TestNumbersOfOneClass(t *testing.T) {
	x, _ := bdd.New(1, api.MaxNodes)
	n := newNumbered(newSheet(1), x, []api.Class{{Where: yes}})
	set, _ := x.Cube("1")
	if met := n.meets(x, set); !slices.Equal(met, []int{0}) {
		t.Errorf("meets = %v", met)
	}
}
