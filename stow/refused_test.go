package stow_test

import (
	"strings"
	"testing"

	"stow/stow"
)

// paths tells of paths whether they are refused for a directory, and for a file or a link.
func paths() []struct {
	path          string
	dir, elsewise bool
} {
	n30 := strings.Repeat("n", 30)
	return []struct {
		path          string
		dir, elsewise bool
	}{
		{"a", false, false}, {"a/b", false, false}, {"a//b/./c/", false, false}, {"./a", false, false}, {"a b\n\xff", false, false},
		{"", false, true}, {".", false, true}, {"./", false, true}, {"./././././././.", false, true}, {".//.", false, true},
		{"/", true, true}, {"/a", true, true}, {"//", true, true}, {"/.", true, true},
		{"..", true, true}, {"../a", true, true}, {"a/..", true, true}, {"a/../b", true, true}, {"a/b/../", true, true}, {"./..", true, true},
		{"...", false, false}, {"..a", false, false}, {"a..", false, false}, {"a/.b/..c", false, false}, {". .", false, false},
		{"\x00", true, true}, {"a\x00", true, true}, {"\x00a", true, true}, {"a/\x00/b", true, true},
		{n30, false, false}, {n30 + "n", true, true}, {"a/" + n30 + "/b", false, false}, {"a/" + n30 + "n/b", true, true}, {"a/b/" + n30 + "n", true, true},
		{strings.Repeat("ä", 15), false, false}, {strings.Repeat("ä", 15) + "a", true, true},
		{"1/2/3/4/5/6", false, false}, {"./1//2/3/./4/5/6/.", false, false}, {"1/2/3/4/5/6/7", true, true}, {"1/2/3/4/5/6/7/", true, true},
		{n30 + "/" + n30 + "/" + n30 + "/" + n30 + "/" + n30 + "/" + n30, false, false},
		{strings.Repeat("a/", 1000000), true, true}, {strings.Repeat("./", 1000000) + "a", false, false}, {strings.Repeat("./", 1000000) + "..", true, true},
	}
}

func TestRefusedByPath(t *testing.T) {
	for _, c := range paths() {
		if no := stow.Refused(stow.Entry{Kind: stow.Dir, Path: c.path}); no != c.dir {
			t.Errorf("a directory %.50q: %v", c.path, no)
		}
		if no := stow.Refused(stow.Entry{Kind: stow.File, Path: c.path, Data: "d"}); no != c.elsewise {
			t.Errorf("a file %.50q: %v", c.path, no)
		}
		if no := stow.Refused(stow.Entry{Kind: stow.Link, Path: c.path, Link: "to"}); no != c.elsewise {
			t.Errorf("a link %.50q: %v", c.path, no)
		}
	}
}

func TestRefusedByLink(t *testing.T) {
	for _, c := range []struct {
		link string
		no   bool
	}{
		{"", true}, {"a", false}, {"a/b/", false}, {".", false}, {"./", false}, {"a//b", false},
		{"/", true}, {"/a", true}, {"..", true}, {"../a", true}, {"a/..", true}, {"a/../b", true}, {"..a/b../...", false},
		{"\x00", true}, {"a\x00", true}, {"a/\x00b", true},
		{strings.Repeat("n", 31), false}, {"1/2/3/4/5/6/7/8", false}, {strings.Repeat("a/", 1000000), false}, {strings.Repeat("a/", 1000000) + "..", true},
	} {
		if no := stow.Refused(stow.Entry{Kind: stow.Link, Path: "a", Link: c.link}); no != c.no {
			t.Errorf("a link to %.50q: %v", c.link, no)
		}
		for _, kind := range []int{stow.Dir, stow.File} {
			if stow.Refused(stow.Entry{Kind: kind, Path: "a", Link: c.link}) {
				t.Errorf("kind %d leads nowhere, but is refused by %.50q", kind, c.link)
			}
		}
	}
}

func TestRefusedByKind(t *testing.T) {
	for _, kind := range []int{stow.Other, 0, -1, 5, 1 << 62, -1 << 63} {
		for _, path := range []string{"", "a", "a/b", "/", ".."} {
			if !stow.Refused(stow.Entry{Kind: kind, Path: path, Link: "to", Data: "d"}) {
				t.Errorf("kind %d, %q is not refused", kind, path)
			}
		}
	}
}
