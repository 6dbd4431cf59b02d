package stow_test

import (
	"fmt"
	"maps"
	"math/rand/v2"
	"regexp"
	"slices"
	"strings"
	"testing"

	"stow/stow"
	"stow/world"
)

// A second way to unpack: the tree is a map of paths, and nothing is called. What it and Unpack make of some archives and trees is the same.

type model map[string]world.Place

var (
	leadsOut = regexp.MustCompile(`(?s)\A/|\x00|(\A|/)\.\.(/|\z)`)
	noPart   = regexp.MustCompile(`\A\.?\z`)
)

func partsOf(path string) []string {
	return slices.DeleteFunc(strings.Split(path, "/"), noPart.MatchString)
}

func refusedByWords(e stow.Entry) bool {
	list := partsOf(e.Path)
	if leadsOut.MatchString(e.Path) || len(list) > 6 || slices.ContainsFunc(list, func(s string) bool { return len(s) > 30 }) {
		return true
	}
	if e.Kind == stow.Link && (e.Link == "" || leadsOut.MatchString(e.Link)) {
		return true
	}
	return e.Kind == stow.Other || e.Kind != stow.Dir && len(list) == 0
}

// unpack answers whether the entry was not refused.
func (m model) unpack(e stow.Entry) bool {
	if refusedByWords(e) {
		return false
	}
	list := partsOf(e.Path)
	for i := range list {
		path := strings.Join(list[:i+1], "/")
		old := m[path].Kind
		if i == len(list)-1 && e.Kind != stow.Dir {
			if old == world.Dir {
				return false
			}
			m[path] = world.Place{Path: path, Kind: e.Kind, Text: e.Data + e.Link}
		} else if old == world.None {
			m[path] = world.Place{Path: path, Kind: world.Dir}
		} else if old != world.Dir {
			return false
		}
	}
	return true
}

// text is that of under. (Between a directory and what is in it the world's order lets nothing come.)
func (m model) text() string {
	list := slices.SortedFunc(maps.Values(m), func(a, b world.Place) int {
		return slices.Compare(strings.Split(a.Path, "/"), strings.Split(b.Path, "/"))
	})
	text := ""
	for _, p := range list {
		text += " " + p.Path + []string{"?", "/", "=", ">"}[p.Kind] + p.Text
	}
	return strings.TrimPrefix(text, " ")
}

func somePath(r *rand.Rand) string {
	var list []string
	for range pick(r, 0, 1, 1, 2, 2, 2, 3, 3, 4, 5, 6, 6, 7) {
		list = append(list, pick(r, "a", "a", "a", "b", "b", "c", "d-", "e"))
	}
	if r.IntN(8) == 0 {
		list = slices.Insert(list, r.IntN(len(list)+1), pick(r, "", ".", "..", "", ".", strings.Repeat("n", 31)))
	}
	return strings.Join(list, "/")
}

// somePieces are some entries of an archive, each with what is told ahead of it.
func somePieces(r *rand.Rand) []string {
	var pieces []string
	for range pick(r, 0, 1, 2, 4, 8, 16, 29) {
		ahead := ""
		if r.IntN(12) == 0 {
			ahead = pax(record(pick(r, "path", "linkpath"), somePath(r)))
		}
		h := head{name: somePath(r), typ: pick[byte](r, '0', '0', 0, '5', '5', '2', '2', '1')}
		if h.typ == '2' {
			h.link = somePath(r)
		}
		pieces = append(pieces, ahead+h.with(pick(r, "", "x", "y")))
	}
	return pieces
}

func someEntries(r *rand.Rand) string {
	return strings.Join(somePieces(r), "") + pick(r, zeros, zeros, zeros, "", zeros[1:])
}

func someTree(r *rand.Rand) []world.Place {
	list := places("out out/f=secret out/a out/a/b f=secret")
	for range r.IntN(12) {
		list = append(list, world.Place{Path: "target/" + somePath(r), Kind: pick(r, world.Dir, world.Dir, world.Dir, world.File, world.Link), Text: pick(r, "old", "../out", "/out", "/out/f", "a", "b/a", ".", "..", "")})
	}
	return list
}

func TestUnpackAsModel(t *testing.T) {
	r := rand.New(rand.NewPCG(7, 8))
	refusals, words := 0, 0
	for i := range 8000 {
		archive, tree := someEntries(r), someTree(r)
		m := model{}
		for _, p := range world.New(tree, nil, nil).Tree() {
			m[p.Path] = p
		}
		list, err, place := reference(archive)
		refused := []int{}
		for n, e := range list {
			if !m.unpack(e) {
				refused = append(refused, n)
				if refusedByWords(e) {
					words++
				}
			}
		}
		refusals += len(refused)
		wantUnpack(t, fmt.Sprintf("archive %d, into %v", i, tree), tree, archive, fmt.Sprint(refused), err, place, m.text())
		if t.Failed() {
			return
		}
	}
	if words < 1000 || refusals-words < 1000 {
		t.Errorf("%d refusals by words, %d on the way: too few to tell", words, refusals-words)
	}
}
