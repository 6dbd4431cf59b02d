package stow_test

import (
	"fmt"
	"math/rand/v2"
	"slices"
	"testing"

	"stow/stow"
	"stow/world"
)

// Worlds in which others change something while it is unpacked, or calls cannot be done.

// wantSafe unpacks in such a world: whatever becomes of the entries, nothing else is touched, nothing stays open but what could not be closed, and each entry takes few calls.
func wantSafe(t *testing.T, what string, tree []world.Place, ops []world.Op, faults []int, archive string) (*world.World, []int) {
	t.Helper()
	w := world.New(tree, ops, faults)
	refused, err, place := stow.Unpack(w, archive)
	entries, wantErr, wantPlace := stow.Read(archive)
	if err != wantErr || place != wantPlace {
		t.Errorf("%s: error %d, place %d, but Read: %d, %d", what, err, place, wantErr, wantPlace)
	}
	if w.Escaped() || w.Handles() > len(faults) || w.Calls() > 40*len(entries) {
		t.Errorf("%s: escaped %v, %d handles, %d calls", what, w.Escaped(), w.Handles(), w.Calls())
	}
	for i, e := range entries {
		if refusedByWords(e) && !slices.Contains(refused, i) {
			t.Errorf("%s: entry %d is not refused", what, i)
		}
	}
	for i, n := range refused {
		if n < 0 || n >= len(entries) || i > 0 && n <= refused[i-1] {
			t.Errorf("%s: refused %v of %d", what, refused, len(entries))
		}
	}
	return w, refused
}

// callsOf counts the calls where nobody else changes anything.
func callsOf(tree []world.Place, archive string) int {
	w := world.New(tree, nil, nil)
	stow.Unpack(w, archive)
	return w.Calls()
}

// TestEveryFault: of each call, that it cannot be done: its entry is refused, and no other one; but a Close hurts nobody.
func TestEveryFault(t *testing.T) {
	tree := places("target/old target/old/f=1 target/l>../out out target/old/k>f")
	pieces := []string{file("f", "x"), file("a/b/c/f", "x"), dir("a/b/d/e"), link("a/b/l", "c"), file("old/f", "x"), link("old/k", "x"), file("l", "x"), dir("a/b"), dir("."), file("a/b/c/g", "x")}
	archive, owner := "", []int{-1}
	for i, p := range pieces {
		archive += p
		for len(owner) <= callsOf(tree, archive+zeros) {
			owner = append(owner, i)
		}
	}
	all := callsOf(tree, archive+zeros)
	closes := 0
	for call := 1; call <= all; call++ {
		what := fmt.Sprintf("call %d of %d", call, all)
		w, refused := wantSafe(t, what, tree, nil, []int{call}, archive+zeros)
		want := []int{owner[call]}
		if w.Handles() == 1 {
			want = nil
			closes++
		}
		if !slices.Equal(refused, want) {
			t.Errorf("%s: refused %v, want %v", what, refused, want)
		}
	}
	if closes != 0+3+4+2+1+1+0+2+0+3 {
		t.Errorf("%d handles were closed", closes)
	}
}

// TestMendedFaults: that others did meanwhile what a call could not do makes nothing better.
func TestMendedFaults(t *testing.T) {
	tree := places("target/f=1 target/l>f")
	for _, c := range []struct {
		archive string
		mend    world.Op
	}{
		{dir("a"), world.Op{Name: "a", Kind: world.Dir}},
		{file("a/f", "x"), world.Op{Name: "a", Kind: world.Dir}},
		{file("f", "x"), world.Op{Name: "f"}},
		{link("l", "x"), world.Op{Name: "l"}},
	} {
		for call := 1; call <= callsOf(tree, c.archive+zeros); call++ {
			c.mend.At = call + 1
			what := fmt.Sprintf("call %d, then %v", call, c.mend)
			w, refused := wantSafe(t, what, tree, []world.Op{c.mend}, []int{call}, c.archive+zeros)
			if w.Handles() == 0 && len(refused) != 1 {
				t.Errorf("%s: nothing is refused", what)
			}
		}
	}
}

// TestAllFaults: where nothing can be done, all is refused that needs a call.
func TestAllFaults(t *testing.T) {
	var all []int
	for call := 1; call < 2000; call++ {
		all = append(all, call)
	}
	w, refused := wantSafe(t, "no calls", nil, nil, all, file("a/f", "x")+dir(".")+dir("d")+link("l", "to")+zeros)
	if under(w) != "" || !slices.Equal(refused, []int{0, 2, 3}) {
		t.Errorf("%v, %q", refused, under(w))
	}
}

// TestEveryMoment: at each call, one other change at each place.
func TestEveryMoment(t *testing.T) {
	tree := places("out out/b out/b/f=secret out/f=secret target/old target/old/f=1")
	archive := file("a/b/f", "x") + file("a/b/f", "y") + dir("a/b/c") + link("a/l", "b") + file("old/f", "z") + file("a/b/g", "x") + zeros
	for at := 1; at <= callsOf(tree, archive)+1; at++ {
		for _, spot := range [][2]string{{"", "a"}, {"a", "b"}, {"a/b", "f"}, {"a/b", "c"}, {"a", "l"}, {"", "old"}, {"old", "f"}, {"a/b", "g"}} {
			for _, as := range []world.Op{{Kind: world.None}, {Kind: world.Dir}, {Kind: world.File, Text: "theirs"}, {Kind: world.Link, Text: "../out"}, {Kind: world.Link, Text: "/out"}, {Kind: world.Link, Text: "/out/f"}, {Kind: world.Link, Text: ".."}} {
				op := world.Op{At: at, Path: spot[0], Name: spot[1], Kind: as.Kind, Text: as.Text}
				w, refused := wantSafe(t, fmt.Sprint(op), tree, []world.Op{op}, nil, archive)
				if w.Handles() != 0 {
					t.Errorf("%v: %d handles", op, w.Handles())
				}
				// One that is taken away is made again by whoever needs it: it costs the entry at hand at most.
				if as.Kind == world.None && len(refused) > 1 {
					t.Errorf("%v: refused %v", op, refused)
				}
			}
		}
	}
}

// TestMadeAndTakenAway: that a directory was made does not mean that it is there.
func TestMadeAndTakenAway(t *testing.T) {
	first := file("a/b/f", "x")
	behind := callsOf(nil, first+zeros) + 1
	for _, c := range []struct {
		op      world.Op
		refused string
		want    string
	}{
		{world.Op{Name: "a"}, "[]", "a/ a/b/ a/b/g=y"},
		{world.Op{Path: "a", Name: "b"}, "[]", "a/ a/b/ a/b/g=y"},
		{world.Op{Name: "a", Kind: world.Dir}, "[]", "a/ a/b/ a/b/g=y"},
		{world.Op{Name: "a", Kind: world.File, Text: "t"}, "[1]", "a=t"},
		{world.Op{Name: "a", Kind: world.Link, Text: "/out"}, "[1]", "a>/out"},
		{world.Op{Path: "a", Name: "b", Kind: world.Link, Text: "../../out"}, "[1]", "a/ a/b>../../out"},
	} {
		c.op.At = behind
		w, refused := wantSafe(t, fmt.Sprint(c.op), places("out out/b"), []world.Op{c.op}, nil, first+file("a/b/g", "y")+zeros)
		if fmt.Sprint(refused) != c.refused || under(w) != c.want {
			t.Errorf("%v: refused %v, %q, want %s, %q", c.op, refused, under(w), c.refused, c.want)
		}
	}
}

// TestFewCalls: the deepest entries, in worlds that make them take the most calls.
func TestFewCalls(t *testing.T) {
	deep := file("1/2/3/4/5/f", "x") + dir("1/2/3/4/5/6") + link("1/2/3/4/5/f", "y")
	archive := deep + deep + deep + zeros
	for every := 1; every <= 30; every++ {
		var ops []world.Op
		for at := every; at < 400; at += every {
			ops = append(ops, world.Op{At: at, Name: "1"})
		}
		wantSafe(t, fmt.Sprintf("taken away ahead of every call %d", every), nil, ops, nil, archive)
	}
}

// TestMadeIsRemembered: it takes fewer calls to go into what was made than into what was there.
func TestMadeIsRemembered(t *testing.T) {
	first, second := dir("a/b"), file("a/b/f", "x")
	made := callsOf(nil, first+second+zeros) - callsOf(nil, first+zeros)
	there := callsOf(places("target/a target/a/b"), second+zeros)
	if made >= there {
		t.Errorf("%d calls into what was made, %d into what was there", made, there)
	}
}

func TestSomeWorlds(t *testing.T) {
	r := rand.New(rand.NewPCG(9, 10))
	for i := range 6000 {
		var ops []world.Op
		var faults []int
		for range r.IntN(12) {
			path := somePath(r)
			ops = append(ops, world.Op{At: r.IntN(60), Path: path, Name: pick(r, "a", "b", "c", "e"), Kind: r.IntN(5) - 1, Text: pick(r, "..", "../out", "/out", "/", "a", "/out/f", "")})
		}
		for range pick(r, 0, 0, 1, 2, 5, 40) {
			faults = append(faults, r.IntN(100))
		}
		wantSafe(t, fmt.Sprintf("world %d", i), someTree(r), ops, faults, someEntries(r))
	}
}

// TestWorldsThatNewDidNotMake: where there is no target, nothing is unpacked in it, and nothing panics.
func TestWorldsThatNewDidNotMake(t *testing.T) {
	archive := dir(".") + file("a/f", "x") + dir("d") + link("l", "to")
	for _, w := range []*world.World{nil, {}} {
		refused, err, place := stow.Unpack(w, archive)
		if fmt.Sprint(refused) != "[1 2 3]" || err != stow.ErrShort || place != len(archive) {
			t.Errorf("%v, %d, %d", refused, err, place)
		}
	}
}
