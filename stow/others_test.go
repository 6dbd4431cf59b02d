package stow_test

import (
	"fmt"
	"math/rand/v2"
	"testing"

	"stow/world"
)

// Worlds in which others are at work.

// theirs is what others may put in the place of what was there.
var theirs = []world.Op{{Kind: world.None}, {Kind: world.Dir}, {Kind: world.File, Text: "theirs"}, {Kind: world.Link, Text: "../out"}, {Kind: world.Link, Text: "../../out"}, {Kind: world.Link, Text: "/out"}, {Kind: world.Link, Text: "/out/f"}, {Kind: world.Link, Text: ".."}, {Kind: world.Link, Text: "/"}}

// TestEveryMoment: at each call, also at the first one of each entry, one other change at each place.
func TestEveryMoment(t *testing.T) {
	calm := scene{tree: places("out out/b out/b/f=secret out/f=secret target/old target/old/f=1")}
	pieces := []string{file("a/b/f", "x"), file("a/b/f", "y"), dir("a/b/c"), link("a/l", "b"), file("old/f", "z"), file("a/b/g", "x")}
	for at := 1; at <= calm.calls(pieces...)+1; at++ {
		for _, spot := range [][2]string{{"", "a"}, {"a", "b"}, {"a/b", "f"}, {"a/b", "c"}, {"a", "l"}, {"", "old"}, {"old", "f"}, {"a/b", "g"}} {
			for _, as := range theirs {
				op := world.Op{At: at, Path: spot[0], Name: spot[1], Kind: as.Kind, Text: as.Text}
				w, refused := wantSafe(t, fmt.Sprint(op), scene{calm.tree, []world.Op{op}, nil}, pieces...)
				if w.Handles() != 0 {
					t.Errorf("%v: %d handles", op, w.Handles())
				}
				// What is taken away costs the entry at hand at most: the next one makes it.
				if as.Kind == world.None && len(refused) > 1 {
					t.Errorf("%v: refused %v", op, refused)
				}
			}
		}
	}
}

// TestRestless: others change one place ahead of each call, to one thing after the other.
func TestRestless(t *testing.T) {
	pieces := []string{file("a/b/f", "x"), link("a/b/f", "y"), dir("a/b/c"), file("a/f", "z"), dir("a/b/c/d"), file("f", "x")}
	for _, spot := range [][2]string{{"", "a"}, {"a", "b"}, {"a/b", "f"}, {"a", "f"}, {"", "f"}} {
		for every := 1; every <= 4; every++ {
			for first := range theirs {
				s := scene{tree: places("out out/b out/b/f=secret out/f=secret target/a target/a/b")}
				for at := 1; at < 200; at++ {
					as := theirs[(first+at/every)%len(theirs)]
					s.ops = append(s.ops, world.Op{At: at, Path: spot[0], Name: spot[1], Kind: as.Kind, Text: as.Text})
				}
				wantSafe(t, fmt.Sprint(spot, every, first), s, pieces...)
			}
		}
	}
}

// change reads what others do from a text as that of under: -name takes it away, name/ is a directory, name=text a file, name>text a link.
func change(at int, path, text string) world.Op {
	if text[0] == '-' {
		return world.Op{At: at, Path: path, Name: text[1:]}
	}
	if text[len(text)-1] == '/' {
		text = text[:len(text)-1]
	}
	p := places(text)[0]
	return world.Op{At: at, Path: path, Name: p.Path, Kind: p.Kind, Text: p.Text}
}

// TestNotFound: ahead of a call of one entry others change what it needs; then it is refused, and only then.
func TestNotFound(t *testing.T) {
	for _, c := range []struct {
		tree, entry string
		at          int
		path, text  string
		refused     string
		want        string
	}{
		// Look d, Make d, OpenHere d, Look f, Create f, Close.
		{"", file("d/f", "x"), 1, "", "d/", "[]", "d/ d/f=x"},
		{"", file("d/f", "x"), 1, "", "d=t", "[0]", "d=t"},
		{"", file("d/f", "x"), 1, "", "d>/out", "[0]", "d>/out"},
		{"", file("d/f", "x"), 2, "", "d/", "[0]", "d/"},
		{"", file("d/f", "x"), 2, "", "d=t", "[0]", "d=t"},
		{"", file("d/f", "x"), 2, "", "d>/out", "[0]", "d>/out"},
		{"", file("d/f", "x"), 3, "", "-d", "[0]", ""},
		{"", file("d/f", "x"), 3, "", "d/", "[]", "d/ d/f=x"},
		{"", file("d/f", "x"), 3, "", "d=t", "[0]", "d=t"},
		{"", file("d/f", "x"), 3, "", "d>/out", "[0]", "d>/out"},
		{"", file("d/f", "x"), 4, "", "-d", "[]", ""},
		{"", file("d/f", "x"), 4, "", "d>/out", "[]", "d>/out"},
		{"", file("d/f", "x"), 4, "d", "f/", "[0]", "d/ d/f/"},
		{"", file("d/f", "x"), 4, "d", "f=t", "[]", "d/ d/f=x"},
		{"", file("d/f", "x"), 4, "d", "f>/out/f", "[]", "d/ d/f=x"},
		{"", file("d/f", "x"), 5, "d", "f/", "[0]", "d/ d/f/"},
		{"", file("d/f", "x"), 5, "d", "f=t", "[0]", "d/ d/f=t"},
		{"", file("d/f", "x"), 5, "d", "f>/out/f", "[0]", "d/ d/f>/out/f"},
		{"", file("d/f", "x"), 6, "d", "f>/out/f", "[]", "d/ d/f>/out/f"},
		{"", link("d/f", "x"), 5, "d", "f=t", "[0]", "d/ d/f=t"},
		{"", dir("d"), 3, "", "d>/out", "[0]", "d>/out"},
		{"", dir("d"), 4, "", "d>/out", "[]", "d>/out"},
		// Look d, OpenHere d, Look f, Remove f, Create f, Close.
		{"target/d target/d/f=old", file("d/f", "x"), 1, "", "-d", "[]", "d/ d/f=x"},
		{"target/d target/d/f=old", file("d/f", "x"), 2, "", "-d", "[0]", ""},
		{"target/d target/d/f=old", file("d/f", "x"), 2, "", "d/", "[]", "d/ d/f=x"},
		{"target/d target/d/f=old", file("d/f", "x"), 2, "", "d=t", "[0]", "d=t"},
		{"target/d target/d/f=old", file("d/f", "x"), 2, "", "d>/out", "[0]", "d>/out"},
		{"target/d target/d/f=old", file("d/f", "x"), 3, "d", "-f", "[]", "d/ d/f=x"},
		{"target/d target/d/f=old", file("d/f", "x"), 3, "d", "f/", "[0]", "d/ d/f/"},
		{"target/d target/d/f=old", file("d/f", "x"), 4, "d", "-f", "[0]", "d/"},
		{"target/d target/d/f=old", link("d/f", "x"), 4, "d", "-f", "[0]", "d/"},
		{"target/d target/d/f=old", file("d/f", "x"), 4, "d", "f>/out/f", "[]", "d/ d/f=x"},
		{"target/d target/d/f=old", file("d/f", "x"), 5, "d", "f/", "[0]", "d/ d/f/"},
		{"target/d target/d/f=old", file("d/f", "x"), 5, "d", "f=t", "[0]", "d/ d/f=t"},
		{"target/d target/d/f=old", file("d/f", "x"), 5, "d", "f>/out/f", "[0]", "d/ d/f>/out/f"},
		{"target/d target/d/f=old", link("d/f", "x"), 5, "d", "f>/out/f", "[0]", "d/ d/f>/out/f"},
	} {
		op := change(c.at, c.path, c.text)
		what := fmt.Sprintf("into %q, %v", c.tree, op)
		w, refused := wantSafe(t, what, scene{places(c.tree + " out out/f=secret"), []world.Op{op}, nil}, c.entry)
		if fmt.Sprint(refused) != c.refused || under(w) != c.want || w.Handles() != 0 {
			t.Errorf("%s: refused %v, %q, %d handles, want %s, %q", what, refused, under(w), w.Handles(), c.refused, c.want)
		}
	}
}

// TestFullDirectory: what others put into a directory that they put where a file was keeps it from being taken away.
func TestFullDirectory(t *testing.T) {
	ops := []world.Op{change(2, "", "f/"), change(2, "f", "g=t")}
	w, refused := wantSafe(t, "a full directory", scene{places("target/f=old"), ops, nil}, file("f", "x"))
	if fmt.Sprint(refused) != "[0]" || under(w) != "f/ f/g=t" {
		t.Errorf("refused %v, %q", refused, under(w))
	}
}

// TestMadeAndTakenAway: that an entry made a directory does not mean that a later one finds it: the one that does not is refused, and the next one makes it.
func TestMadeAndTakenAway(t *testing.T) {
	first := file("a/b/f", "x")
	behind := scene{}.calls(first) + 1
	for _, c := range []struct{ path, text, refused, want string }{
		{"", "-a", "[1]", "a/ a/b/ a/b/h=z"},
		{"a", "-b", "[1]", "a/ a/b/ a/b/h=z"},
		{"", "a/", "[1]", "a/ a/b/ a/b/h=z"},
		{"a", "b/", "[]", "a/ a/b/ a/b/g=y a/b/h=z"},
		{"", "a=t", "[1 2]", "a=t"},
		{"a", "b=t", "[1 2]", "a/ a/b=t"},
		{"", "a>/out", "[1 2]", "a>/out"},
		{"a", "b>../../out", "[1 2]", "a/ a/b>../../out"},
	} {
		op := change(behind, c.path, c.text)
		w, refused := wantSafe(t, fmt.Sprint(op), scene{places("out out/b"), []world.Op{op}, nil}, first, file("a/b/g", "y"), file("a/b/h", "z"))
		if fmt.Sprint(refused) != c.refused || under(w) != c.want {
			t.Errorf("%v: refused %v, %q, want %s, %q", op, refused, under(w), c.refused, c.want)
		}
	}
}

// TestNewIsEmpty: what was made in a directory that others took away is not looked for in the one that is made in its place.
func TestNewIsEmpty(t *testing.T) {
	first := file("d/a/b/f", "x")
	s := scene{tree: places("target/d")}
	s.ops = []world.Op{change(s.calls(first)+1, "", "-d")}
	w, refused := wantSafe(t, "taken away", s, first, file("d/a/b/g", "y"))
	if len(refused) != 0 || under(w) != "d/ d/a/ d/a/b/ d/a/b/g=y" {
		t.Errorf("refused %v, %q", refused, under(w))
	}
}

func TestSomeWorlds(t *testing.T) {
	r := rand.New(rand.NewPCG(9, 10))
	unclosed := 0
	for i := range 6000 {
		s := scene{tree: someTree(r)}
		for range r.IntN(12) {
			s.ops = append(s.ops, world.Op{At: r.IntN(60), Path: somePath(r), Name: pick(r, "a", "b", "c", "e"), Kind: r.IntN(5) - 1, Text: pick(r, "..", "../out", "/out", "/", "a", "/out/f", "")})
		}
		for range pick(r, 0, 0, 1, 2, 5, 40) {
			s.faults = append(s.faults, r.IntN(100))
		}
		w, _ := wantSafe(t, fmt.Sprintf("world %d", i), s, somePieces(r)...)
		unclosed += w.Handles()
		if t.Failed() {
			return
		}
	}
	if unclosed < 1000 {
		t.Errorf("%d handles could not be closed: too few to tell", unclosed)
	}
}
