// Package stow: archives that anybody may have written, unpacked, and nothing else touched: see DOC.md.
package stow

import "stow/world"

// Errno is what a call answers: OK or the reason for a refusal.
type Errno int

const (
	OK        Errno = 0
	ErrLong   Errno = 1 // above a bound
	ErrShort  Errno = 2 // it breaks off
	ErrSum    Errno = 3 // a header that is none
	ErrNumber Errno = 4 // no number
	ErrPax    Errno = 5 // no records
	ErrMany   Errno = 6 // too many
)

// The kinds of entries.
const (
	Dir   int = 1
	File  int = 2
	Link  int = 3
	Other int = 4
)

// The limits.
const (
	maxArchive = 40000
	maxEntries = 30
	maxData    = 6000
	maxName    = 30
	maxDepth   = 6
)

// Entry is one of an archive.
type Entry struct {
	Kind int
	Path string
	Link string
	Data string
}

// Read reads an archive (P2).
func Read(archive string) ([]Entry, Errno, int) {
	var entries []Entry
	err, place := readEach(archive, func(e Entry) { entries = append(entries, e) })
	return entries, err, place
}

// Refused tells whether an entry is refused by its words (P3).
func Refused(e Entry) bool {
	switch e.Kind {
	case Dir:
		return strays(e.Path) || !fits(e.Path, 0)
	case File:
		return strays(e.Path) || !fits(e.Path, 1)
	case Link:
		return strays(e.Path) || !fits(e.Path, 1) || e.Link == "" || strays(e.Link)
	}
	return true
}

// Unpack unpacks an archive into the target; it answers the numbers of the entries that were refused (P4, P5).
func Unpack(w *world.World, archive string) ([]int, Errno, int) {
	u := unpacker{World: w, made: map[trail]struct{}{}}
	end := u.unpackAll(archive)
	return u.refused, end.err, end.place
}
