package stow_test

import (
	"fmt"
	"math/rand/v2"
	"slices"
	"strings"
	"testing"

	"stow/stow"
	"stow/world"
)

// Worlds in which calls cannot be done, or others change something while it is unpacked.

// scene is such a world.
type scene struct {
	tree   []world.Place
	ops    []world.Op
	faults []int
}

func (s scene) unpack(pieces ...string) (*world.World, []int) {
	w := world.New(s.tree, s.ops, s.faults)
	refused, _, _ := stow.Unpack(w, strings.Join(pieces, "")+zeros)
	return w, refused
}

func (s scene) calls(pieces ...string) int {
	w, _ := s.unpack(pieces...)
	return w.Calls()
}

// hits counts the faults that a call met.
func (s scene) hits(w *world.World) int {
	met := map[int]int{}
	for _, n := range s.faults {
		if n > 0 && n <= w.Calls() {
			met[n]++
		}
	}
	return len(met)
}

// wantSafe unpacks in such a world the entries of an archive, one a piece: whatever becomes of them, nothing else is touched, nothing stays open but what could not be closed, each entry takes few calls, and those that are refused are those of which a call was not done or did not find what it needed.
func wantSafe(t *testing.T, what string, s scene, pieces ...string) (*world.World, []int) {
	t.Helper()
	archive := strings.Join(pieces, "") + zeros
	w := world.New(s.tree, s.ops, s.faults)
	refused, err, place := stow.Unpack(w, archive)
	_, wantErr, wantPlace := stow.Read(archive)
	if err != wantErr || place != wantPlace {
		t.Errorf("%s: error %d, place %d, but Read: %d, %d", what, err, place, wantErr, wantPlace)
	}
	w2 := world.New(s.tree, s.ops, s.faults)
	second, want := unpackSecond(w2, archive)
	if !slices.Equal(refused, want) || under(w) != under(w2) {
		t.Errorf("%s: refused %v, %q, want %v, %q", what, refused, under(w), want, under(w2))
	}
	if w.Escaped() || w.Handles() != second.unclosed {
		t.Errorf("%s: escaped %v, %d handles, %d of them could not be closed", what, w.Escaped(), w.Handles(), second.unclosed)
	}
	if w.Calls() != w2.Calls() || second.most > 40 {
		t.Errorf("%s: %d calls, want %d, at most %d for one entry", what, w.Calls(), w2.Calls(), second.most)
	}
	return w, refused
}

// mixed are entries of all kinds that take all ways through a tree, and of which none is refused.
var (
	mixedTree = places("out out/f=secret target/old target/old/f=1 target/l>../out target/old/k>f")
	mixed     = []string{file("f", "x"), file("a/b/c/f", "x"), dir("a/b/d/e"), link("a/b/l", "c"), file("old/f", "x"), link("old/k", "x"), file("l", "x"), dir("a/b"), dir("."), file("a/b/c/g", "x")}
)

// mixedCloses are the handles that each of them opens.
const mixedCloses = 0 + 3 + 4 + 2 + 1 + 1 + 0 + 2 + 0 + 3

// TestEveryFault: of each call, that it cannot be done: its entry is refused, and no other one; but a Close hurts nobody.
func TestEveryFault(t *testing.T) {
	calm := scene{tree: mixedTree}
	owner := []int{-1}
	for i := range mixed {
		for len(owner) <= calm.calls(mixed[:i+1]...) {
			owner = append(owner, i)
		}
	}
	w, _ := calm.unpack(mixed...)
	closes := 0
	for call := 1; call < len(owner); call++ {
		what := fmt.Sprintf("call %d of %d", call, w.Calls())
		hindered, refused := wantSafe(t, what, scene{mixedTree, nil, []int{call}}, mixed...)
		if hindered.Handles() == 0 {
			if !slices.Equal(refused, []int{owner[call]}) {
				t.Errorf("%s: refused %v, want %d", what, refused, owner[call])
			}
			continue
		}
		closes++
		if len(refused) != 0 || hindered.Handles() != 1 || under(hindered) != under(w) {
			t.Errorf("%s: refused %v, %d handles, %q", what, refused, hindered.Handles(), under(hindered))
		}
	}
	if closes != mixedCloses {
		t.Errorf("%d handles were closed, want %d", closes, mixedCloses)
	}
}

// wantEachTold: where only faults hinder, each of them costs one entry or, if it is a Close, leaves one handle open.
func wantEachTold(t *testing.T, s scene) {
	t.Helper()
	what := fmt.Sprintf("calls %v", s.faults)
	w, refused := wantSafe(t, what, s, mixed...)
	if len(refused)+w.Handles() != s.hits(w) {
		t.Errorf("%s: refused %v, %d handles", what, refused, w.Handles())
	}
}

// TestFaultsTogether: of any two calls, and of some others, that they cannot be done.
func TestFaultsTogether(t *testing.T) {
	all := scene{tree: mixedTree}.calls(mixed...)
	for one := 1; one <= all; one++ {
		for two := one + 1; two <= all; two++ {
			wantEachTold(t, scene{mixedTree, nil, []int{one, two}})
		}
	}
	r := rand.New(rand.NewPCG(11, 12))
	for range 3000 {
		var faults []int
		for range 3 + r.IntN(30) {
			faults = append(faults, r.IntN(all+2))
		}
		wantEachTold(t, scene{mixedTree, nil, faults})
	}
}

// TestClosesFail: though no Close can be done, all is unpacked, and no handle is given up but once.
func TestClosesFail(t *testing.T) {
	calm := scene{tree: mixedTree}
	var closes []int
	for call := 1; call <= calm.calls(mixed...); call++ {
		if w, _ := (scene{mixedTree, nil, []int{call}}).unpack(mixed...); w.Handles() == 1 {
			closes = append(closes, call)
		}
	}
	want, _ := calm.unpack(mixed...)
	w, refused := wantSafe(t, "no Close", scene{mixedTree, nil, closes}, mixed...)
	if len(refused) != 0 || w.Handles() != mixedCloses || under(w) != under(want) {
		t.Errorf("refused %v, %d handles, %q", refused, w.Handles(), under(w))
	}
}

// TestMendedFaults: that others did meanwhile what a call could not do makes nothing better.
func TestMendedFaults(t *testing.T) {
	calm := scene{tree: places("target/f=1 target/l>f")}
	for _, c := range []struct {
		entry string
		mend  world.Op
	}{
		{dir("a"), world.Op{Name: "a", Kind: world.Dir}},
		{file("a/f", "x"), world.Op{Name: "a", Kind: world.Dir}},
		{file("f", "x"), world.Op{Name: "f"}},
		{link("l", "x"), world.Op{Name: "l"}},
	} {
		for call := 1; call <= calm.calls(c.entry); call++ {
			c.mend.At = call + 1
			what := fmt.Sprintf("call %d, then %v", call, c.mend)
			w, refused := wantSafe(t, what, scene{calm.tree, []world.Op{c.mend}, []int{call}}, c.entry)
			if w.Handles() == 0 && len(refused) != 1 {
				t.Errorf("%s: nothing is refused", what)
			}
		}
	}
}

// TestAllFaults: where nothing can be done, all is refused that needs a call.
func TestAllFaults(t *testing.T) {
	var all []int
	for call := 1; call < 2000; call++ {
		all = append(all, call)
	}
	w, refused := wantSafe(t, "no calls", scene{faults: all}, file("a/f", "x"), dir("."), dir("d"), link("l", "to"))
	if under(w) != "" || !slices.Equal(refused, []int{0, 2, 3}) || w.Handles() != 0 {
		t.Errorf("%v, %q, %d handles", refused, under(w), w.Handles())
	}
}

// TestWhatWasMadeMayStay: an entry that is refused behind a directory that it made leaves it, and the next one goes into it.
func TestWhatWasMadeMayStay(t *testing.T) {
	made := scene{}.calls(dir("a/b"))
	w, refused := wantSafe(t, "a fault behind two directories", scene{faults: []int{made - 1}}, file("a/b/f", "x"), file("a/b/g", "y"))
	if !slices.Equal(refused, []int{0}) || under(w) != "a/ a/b/ a/b/g=y" {
		t.Errorf("refused %v, %q", refused, under(w))
	}
}

// wantFew: no entry takes more than 40 calls; how many it takes tells what the archive takes that ends behind it.
func wantFew(t *testing.T, what string, s scene, pieces ...string) {
	t.Helper()
	before := 0
	for i := range pieces {
		calls := s.calls(pieces[:i+1]...)
		if calls-before > 40 {
			t.Errorf("%s: entry %d takes %d calls", what, i, calls-before)
		}
		before = calls
	}
}

// TestFewCalls: the deepest entries, in worlds that make them take the most calls.
func TestFewCalls(t *testing.T) {
	deep := []string{file("1/2/3/4/5/f", "x"), dir("1/2/3/4/5/6"), link("1/2/3/4/5/f", "y")}
	pieces := slices.Repeat(deep, 3)
	wantFew(t, "nobody else", scene{}, pieces...)
	wantFew(t, "what was there", scene{tree: places("target/1 target/1/2 target/1/2/3 target/1/2/3/4 target/1/2/3/4/5 target/1/2/3/4/5/f=old")}, pieces...)
	for every := 1; every <= 40; every++ {
		for _, spot := range []world.Op{{Name: "1"}, {Path: "1/2/3", Name: "4"}, {Path: "1/2/3/4/5", Name: "f"}} {
			s := scene{}
			for at := every; at < 400; at += every {
				spot.At = at
				s.ops = append(s.ops, spot)
			}
			what := fmt.Sprintf("%s taken away ahead of every call %d", spot.Name, every)
			wantSafe(t, what, s, pieces...)
			wantFew(t, what, s, pieces...)
		}
		s := scene{}
		for at := every; at < 400; at += every {
			s.faults = append(s.faults, at)
		}
		wantFew(t, fmt.Sprintf("every call %d not done", every), s, pieces...)
	}
}

// TestMadeIsRemembered: it takes fewer calls to go into what was made than into what was there.
func TestMadeIsRemembered(t *testing.T) {
	first, next := dir("a/b"), file("a/b/f", "x")
	made := scene{}.calls(first, next) - scene{}.calls(first)
	there := scene{tree: places("target/a target/a/b")}.calls(next)
	if made >= there {
		t.Errorf("%d calls into what was made, %d into what was there", made, there)
	}
}

// TestWorldsThatNewDidNotMake: where there is no target, nothing is unpacked in it, and nothing panics.
func TestWorldsThatNewDidNotMake(t *testing.T) {
	archive := dir(".") + file("a/f", "x") + dir("d") + link("l", "to")
	for _, w := range []*world.World{nil, {}} {
		refused, err, place := stow.Unpack(w, archive)
		if fmt.Sprint(refused) != "[1 2 3]" || err != stow.ErrShort || place != len(archive) {
			t.Errorf("%v, %d, %d", refused, err, place)
		}
	}
}
