package stow

import "strings"

const blockSize = 512

// header is an array, so that one is held against another, and what is read of it is no part of the archive.
type header [blockSize]byte

// The fields of a header: numbers of rows in the table of places.
const (
	nameField = iota
	sizeField
	sumField
	typeField
	linkField
	magicField
	prefixField
)

// fields tells for each field its first place and the one behind its last.
var fields = [...]struct{ from, to int }{
	nameField:   {0, 100},
	sizeField:   {124, 136},
	sumField:    {148, 156},
	typeField:   {156, 157},
	linkField:   {157, 257},
	magicField:  {257, 262},
	prefixField: {345, 500},
}

// headerAt answers false if the archive breaks off ahead of the header's end.
func headerAt(archive string, at int) (header, bool) {
	var h header
	if len(archive)-at < blockSize {
		return h, false
	}
	copy(h[:], archive[at:at+blockSize])
	return h, true
}

// raw is a field as it stands.
func (h header) raw(field int) string {
	return string(h[fields[field].from:fields[field].to])
}

// text is a field up to its first zero byte.
func (h header) text(field int) string {
	before, _, _ := strings.Cut(h.raw(field), "\x00")
	return before
}

func (h header) path() string {
	prefix := h.text(prefixField)
	if h.text(magicField) == "ustar" && prefix != "" {
		return prefix + "/" + h.text(nameField)
	}
	return h.text(nameField)
}

func (h header) typ() byte {
	return h[fields[typeField].from]
}

// kind tells what entry comes of a header (of the type x comes none).
func (h header) kind() int {
	switch h.typ() {
	case '0', 0:
		return File
	case '5':
		return Dir
	case '2':
		return Link
	}
	return Other
}

// sumHolds tells whether the header's sum is a number, and the right one.
func (h header) sumHolds() bool {
	told, ok := number(h.raw(sumField))
	return ok && told == h.sum()
}

func (h header) sum() int64 {
	// The sum cannot count itself: whoever wrote it had blanks there.
	for i := fields[sumField].from; i < fields[sumField].to; i++ {
		h[i] = ' '
	}
	total := int64(0)
	for _, b := range h {
		total += int64(b)
	}
	return total
}

// number answers false if a field is no number. (A field has at most 12 digits: 36 bits.)
func number(field string) (int64, bool) {
	digits := strings.TrimRight(strings.TrimLeft(field, " "), "\x00 ")
	value := int64(0)
	for i := range len(digits) {
		if digits[i] < '0' || digits[i] > '7' {
			return 0, false
		}
		value = value*8 + int64(digits[i]-'0')
	}
	return value, digits != ""
}
