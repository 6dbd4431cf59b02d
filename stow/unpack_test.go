package stow_test

import (
	"fmt"
	"strings"
	"testing"

	"stow/stow"
	"stow/world"
)

// under is what lies under the target, as one text: d/ is a directory, f=text a file, l>text a link.
func under(w *world.World) string {
	var list []string
	for _, p := range w.Tree() {
		list = append(list, p.Path+[]string{"?", "/", "=", ">"}[p.Kind]+p.Text)
	}
	return strings.Join(list, " ")
}

// places reads a tree from such a text: its paths are from the top.
func places(text string) []world.Place {
	var list []world.Place
	for _, s := range strings.Fields(text) {
		at := strings.IndexAny(s, "=>")
		if at < 0 {
			list = append(list, world.Place{Path: s, Kind: world.Dir})
			continue
		}
		list = append(list, world.Place{Path: s[:at], Kind: map[byte]int{'=': world.File, '>': world.Link}[s[at]], Text: s[at+1:]})
	}
	return list
}

// wantUnpack unpacks where nobody else changes anything and every call can be done.
func wantUnpack(t *testing.T, what string, tree []world.Place, archive, refused string, err stow.Errno, place int, want string) {
	t.Helper()
	w := world.New(tree, nil, nil)
	list, e, at := stow.Unpack(w, archive)
	if fmt.Sprint(list) != refused || e != err || at != place {
		t.Errorf("%s: %v, error %d, place %d, want %s, %d, %d", what, list, e, at, refused, err, place)
	}
	if got := under(w); got != want {
		t.Errorf("%s: there is %.300q, want %.300q", what, got, want)
	}
	if w.Escaped() || w.Handles() != 0 {
		t.Errorf("%s: escaped %v, %d handles", what, w.Escaped(), w.Handles())
	}
}

func TestUnpackInto(t *testing.T) {
	for _, c := range []struct{ tree, archive, refused, want string }{
		// Into an empty directory.
		{"", "", "[]", ""},
		{"", file("f", "x"), "[]", "f=x"},
		{"", file("f", ""), "[]", "f="},
		{"", dir("d"), "[]", "d/"},
		{"", link("l", "to"), "[]", "l>to"},
		{"", file("a/b/f", "x") + link("a/c/l", "b") + dir("a/d/e/"), "[]", "a/ a/b/ a/b/f=x a/c/ a/c/l>b a/d/ a/d/e/"},
		{"", dir("") + dir(".") + dir("./") + dir(".//."), "[]", ""},
		{"", file("./a//./f", "x") + dir("b/./"), "[]", "a/ a/f=x b/"},
		{"", file("f/", "x") + link("l/", "to"), "[]", "f=x l>to"},
		{"", head{name: "f", prefix: "p/q", typ: '0'}.with("x"), "[]", "p/ p/q/ p/q/f=x"},
		{"", pax(record("path", "a/told")) + file("f", "x") + pax(record("linkpath", "there")) + link("l", "to"), "[]", "a/ a/told=x l>there"},
		{"", head{name: "d", typ: '5'}.with("data") + file("f", "x"), "[]", "d/ f=x"},
		{"", dir("1/2/3/4/5/6") + file("1/2/3/4/5/f", "x"), "[]", "1/ 1/2/ 1/2/3/ 1/2/3/4/ 1/2/3/4/5/ 1/2/3/4/5/6/ 1/2/3/4/5/f=x"},
		{"", dir("...") + file("..a", "x") + link("l", "..."), "[]", ".../ ..a=x l>..."},
		// What earlier entries made.
		{"", dir("d") + dir("d") + dir("d/e") + dir("d"), "[]", "d/ d/e/"},
		{"", file("f", "1") + file("f", "2"), "[]", "f=2"},
		{"", link("l", "1") + link("l", "2"), "[]", "l>2"},
		{"", file("f", "1") + link("f", "g") + file("g", "2"), "[]", "f>g g=2"},
		{"", link("l", "f") + file("f", "1") + file("l", "2"), "[]", "f=1 l=2"},
		{"", dir("d") + file("d", "x") + link("d", "to") + file("e", "x"), "[1 2]", "d/ e=x"},
		{"", file("d/f", "x") + file("d", "y") + link("d", "to"), "[1 2]", "d/ d/f=x"},
		{"", file("f", "x") + dir("f") + dir("f/d") + file("f/g", "y") + link("f/l", "to"), "[1 2 3 4]", "f=x"},
		{"", dir("d") + link("l", "d") + dir("l") + dir("l/e") + file("l/f", "x") + link("l/k", "to"), "[2 3 4 5]", "d/ l>d"},
		{"", link("l", ".") + file("l/f", "x") + file("l", "y"), "[1]", "l=y"},
		{"", dir("d") + link("d/l", "e") + file("d/l/f", "x") + file("d/e/f", "y"), "[2]", "d/ d/e/ d/e/f=y d/l>e"},
		{"", file("f", "x") + file("a/f", "y") + file("a/b/f", "z") + file("f/a/b", "w"), "[3]", "a/ a/b/ a/b/f=z a/f=y f=x"},
		// What was there.
		{"target/d target/d/e target/d/e/f=old", file("d/e/f", "new") + file("d/g", "x"), "[]", "d/ d/e/ d/e/f=new d/g=x"},
		{"target/d target/d/f=old", dir("d") + dir("d/e"), "[]", "d/ d/e/ d/f=old"},
		{"target/d", file("d", "x") + link("d", "to"), "[0 1]", "d/"},
		{"target/d target/d/f=old", file("d", "x") + link("d", "to"), "[0 1]", "d/ d/f=old"},
		{"target/f=old", file("f/g", "x") + dir("f") + link("f/l", "to") + link("f", "to"), "[0 1 2]", "f>to"},
		{"out out/f=old target/l>../out", file("l/f", "x") + dir("l") + dir("l/d") + link("l/k", "to"), "[0 1 2 3]", "l>../out"},
		{"out out/f=old target/l>/out/f", file("l", "x"), "[]", "l=x"},
		{"out target/l>/out", link("l", "to") + file("l/f", "x"), "[1]", "l>to"},
		{"target/d target/l>d target/k>l", file("k/f", "x") + file("l/f", "x") + file("d/f", "x"), "[0 1]", "d/ d/f=x k>l l>d"},
		{"target/d target/d/l>../../out out", file("d/l/f", "x") + file("d/l/e/f", "y"), "[0 1]", "d/ d/l>../../out"},
		{"target/l>nowhere", dir("l") + file("l/f", "x") + dir("nowhere"), "[0 1]", "l>nowhere nowhere/"},
		{"target/l>l", dir("l") + file("l/f", "x") + file("l", "y"), "[0 1]", "l=y"},
		{"target/a=1 target/b>a target/c", "", "[]", "a=1 b>a c/"},
		{"f=old d", file("f", "x") + dir("d"), "[]", "d/ f=x"},
		// What is refused by its words makes nothing, not even its directory.
		{"", file("a/../f", "x") + file("/a/f", "x") + file("../f", "x") + dir("/d") + dir("a/.."), "[0 1 2 3 4]", ""},
		{"", link("a/l", "../b") + link("a/l", "/b") + link("a/l", "") + link("a/l", "b/.."), "[0 1 2 3]", ""},
		{"", head{name: "a/h", link: "f", typ: '1'}.with("") + head{name: "a/c", typ: '3'}.with("") + head{name: "a/g", typ: 'g'}.with("x"), "[0 1 2]", ""},
		{"", file("", "x") + file(".", "x") + link("./", "to"), "[0 1 2]", ""},
		{"", file("1/2/3/4/5/6/7", "x") + dir("1/2/3/4/5/6/7") + file("a/"+strings.Repeat("n", 31), "x"), "[0 1 2]", ""},
		{"", pax(record("path", "a/\x00")) + file("f", "x") + pax(record("linkpath", "\x00")) + link("a/l", "to"), "[0 1]", ""},
		{"target/f=old", file("../f", "x") + file("./../f", "x") + file("g", "y"), "[0 1]", "f=old g=y"},
	} {
		wantUnpack(t, fmt.Sprintf("into %q", c.tree), places(c.tree), c.archive+zeros, c.refused, stow.OK, 0, c.want)
	}
}

// TestUnpackUpToError: what is ahead of Read's error is unpacked, and the numbers count those that were refused alone.
func TestUnpackUpToError(t *testing.T) {
	bad := file("b", "x")
	ahead := file("a", "1") + file("/a", "2")
	for _, c := range []struct {
		what, archive, refused string
		err                    stow.Errno
		place                  int
		want                   string
	}{
		{"nothing", "", "[]", stow.ErrShort, 0, ""},
		{"no zeros", ahead, "[1]", stow.ErrShort, 2048, "a=1"},
		{"half a header", ahead + bad[:511], "[1]", stow.ErrShort, 2048, "a=1"},
		{"no data", ahead + bad[:512], "[1]", stow.ErrShort, 2048, "a=1"},
		{"a wrong sum", ahead + "c" + bad[1:] + zeros, "[1]", stow.ErrSum, 2048, "a=1"},
		{"no number", ahead + head{name: "b", typ: '0', size: "8"}.raw(0) + zeros, "[1]", stow.ErrNumber, 2048, "a=1"},
		{"no records", ahead + pax("no") + bad + zeros, "[1]", stow.ErrPax, 2048, "a=1"},
		{"an error at once", "c" + bad[1:] + zeros, "[]", stow.ErrSum, 0, ""},
		{"too much data", ahead + file("b", strings.Repeat("x", 5999)) + file("c", "") + zeros, "[1]", stow.ErrMany, 2048, "a=1"},
		{"what is behind the zeros", ahead + zeros + bad, "[1]", stow.OK, 0, "a=1"},
		{"as long as may be", ahead + zeros + strings.Repeat("x", 40000-2048-512), "[1]", stow.OK, 0, "a=1"},
		{"too long", ahead + zeros + strings.Repeat("x", 40001-2048-512), "[]", stow.ErrLong, 0, ""},
		{"the last of those that may be", strings.Repeat(dir("d"), 29) + dir("e") + zeros, "[]", stow.OK, 0, "d/ e/"},
		{"one more than may be", strings.Repeat(dir("d"), 30) + dir("e") + zeros, "[]", stow.ErrMany, 30 * 512, "d/"},
		{"all refused", strings.Repeat(dir("/d"), 31), "[0 1 2 3 4 5 6 7 8 9 10 11 12 13 14 15 16 17 18 19 20 21 22 23 24 25 26 27 28 29]", stow.ErrMany, 30 * 512, ""},
	} {
		wantUnpack(t, c.what, nil, c.archive, c.refused, c.err, c.place, c.want)
	}
}

// TestUnpackKeepsTexts: what is in a file or a link is there byte by byte, however long.
func TestUnpackKeepsTexts(t *testing.T) {
	every := make([]byte, 256)
	for i := range every {
		every[i] = byte(i)
	}
	long := strings.Repeat("x", 6000-256)
	to := strings.Repeat("t", 3000)
	w := world.New(nil, nil, nil)
	stow.Unpack(w, file("every", string(every))+file("long", long)+pax(record("linkpath", to))+link("z\xff\n", "")+zeros)
	want := []world.Place{{Path: "every", Kind: world.File, Text: string(every)}, {Path: "long", Kind: world.File, Text: long}, {Path: "z\xff\n", Kind: world.Link, Text: to}}
	if got := w.Tree(); fmt.Sprint(got) != fmt.Sprint(want) {
		t.Errorf("there is %.300v", got)
	}
}
