package stow

import (
	"iter"
	"strings"
)

// parts goes through the parts of a path without laying them up: a path may be of any length.
func parts(path string) iter.Seq[string] {
	return func(yield func(string) bool) {
		for part := range strings.SplitSeq(path, "/") {
			if part != "" && part != "." && !yield(part) {
				return
			}
		}
	}
}

// strays tells whether a path could lead out of the directory it is read from, or is cut short by those who end a text at a zero byte.
func strays(path string) bool {
	if strings.HasPrefix(path, "/") || strings.Contains(path, "\x00") {
		return true
	}
	for part := range parts(path) {
		if part == ".." {
			return true
		}
	}
	return false
}

// fits tells whether a path keeps to the limits and has at least so many parts.
func fits(path string, least int) bool {
	count := 0
	for part := range parts(path) {
		count++
		if count > maxDepth || len(part) > maxName {
			return false
		}
	}
	return count >= least
}
