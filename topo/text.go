package topo

import (
	"strconv"
	"strings"

	"milestone/api"
	"milestone/words"
)

// text is the lines of a topology that may be.
func text(t api.Topo) string {
	var b strings.Builder
	say(&b, "width", strconv.Itoa(t.Width))
	for _, d := range t.Devices {
		say(&b, deviceWords(d)...)
	}
	for _, l := range t.Links {
		say(&b, "link", t.Devices[l.A].Name, l.PortA, "->", t.Devices[l.B].Name, l.PortB)
	}
	return b.String()
}

// say puts a line of words to a text.
func say(b *strings.Builder, l ...string) {
	// Words of a topology that may be are never refused.
	line, _ := words.Say(l...)
	b.WriteString(line)
	b.WriteByte('\n')
}

func deviceWords(d api.Device) []string {
	l := []string{"device", d.Name}
	l = append(l, listWords("class", d.Classes)...)
	return append(l, listWords("port", d.Ports)...)
}

// listWords are names behind the word that tells what they are of; without names there are none.
func listWords(of string, names []string) []string {
	var l []string
	mark := of
	for _, name := range names {
		l = append(l, mark, name)
		mark = ","
	}
	return l
}
