package stow_test

import (
	"fmt"
	"strings"
	"testing"

	"stow/stow"
)

// What the tests lay into archives.

const block = 512

var zeros = strings.Repeat("\x00", block)

// head is what a header is made of; size and magic, if they are empty, are those of an ordinary one.
type head struct {
	name, prefix, link string
	typ                byte
	size, magic        string
}

// raw lays a header's fields, with its right sum.
func (h head) raw(length int) string {
	b := make([]byte, block)
	if h.size == "" {
		h.size = fmt.Sprintf("%011o\x00", length)
	}
	if h.magic == "" {
		h.magic = "ustar"
	}
	copy(b[0:100], h.name)
	copy(b[124:136], h.size)
	b[156] = h.typ
	copy(b[157:257], h.link)
	copy(b[257:262], h.magic)
	copy(b[345:500], h.prefix)
	return summed(string(b))
}

// with is the header and its data, filled up.
func (h head) with(data string) string { return h.raw(len(data)) + filled(data) }

// filled fills the last block up with what is no zero, since it may be anything.
func filled(data string) string {
	return data + strings.Repeat("#", (block-len(data)%block)%block)
}

func sumOf(h string) int {
	n := 8 * int(' ')
	for i := 0; i < block; i++ {
		if i < 148 || i >= 156 {
			n += int(h[i])
		}
	}
	return n
}

// withSum lays a text over the field of the sum.
func withSum(h, sum string) string { return h[:148] + sum + h[148+len(sum):] }

// summed lays the right sum into a header (what is behind it stays).
func summed(h string) string { return withSum(h, fmt.Sprintf("%06o\x00 ", sumOf(h))) }

func file(name, data string) string { return head{name: name, typ: '0'}.with(data) }

func dir(name string) string { return head{name: name, typ: '5'}.with("") }

func link(name, to string) string { return head{name: name, link: to, typ: '2'}.with("") }

func pax(data string) string { return head{name: "pax", typ: 'x'}.with(data) }

// record is one with the length that it has.
func record(key, value string) string {
	rest := " " + key + "=" + value + "\n"
	n := len(rest)
	for len(fmt.Sprint(n))+len(rest) != n {
		n++
	}
	return fmt.Sprint(n) + rest
}

// answer is what Read answers, as one text.
func answer(entries []stow.Entry, err stow.Errno, place int) string {
	var b strings.Builder
	for _, e := range entries {
		fmt.Fprintf(&b, "{%d %q %q %q} ", e.Kind, e.Path, e.Link, e.Data)
	}
	return fmt.Sprintf("%serror %d, place %d", b.String(), err, place)
}

func wantRead(t *testing.T, what, archive string, entries []stow.Entry, err stow.Errno, place int) {
	t.Helper()
	if got, want := answer(stow.Read(archive)), answer(entries, err, place); got != want {
		t.Errorf("%s: %.400s, want %.400s", what, got, want)
	}
}
