package stow

import (
	"strings"
	"sync"
)

// item is what is read and sent on: an entry, or the error that ends the reading; and the place of its header.
type item struct {
	entry Entry
	err   Errno
	place int
}

// readEach hands out the entries one behind the other; it answers how the reading ended, and where.
func readEach(archive string, take func(Entry)) (Errno, int) {
	if len(archive) > maxArchive {
		return ErrLong, 0
	}
	items, quit := make(chan item), make(chan struct{})
	var sender sync.WaitGroup
	sender.Go(func() { send(archive, items, quit) })
	// Whoever leaves ahead of the last item tells the sender, and waits until it is gone.
	defer sender.Wait()
	defer close(quit)
	count, size := 0, 0
	for it := range items {
		if it.err != OK {
			return it.err, it.place
		}
		count++
		size += len(it.entry.Data)
		if count > maxEntries || size > maxData {
			return ErrMany, it.place
		}
		take(it.entry)
	}
	return OK, 0
}

// send sends what is in an archive, up to its end or its first error, or until nobody wants more of it.
func send(archive string, items chan<- item, quit <-chan struct{}) {
	defer close(items)
	r := reader{archive: archive, told: records{}}
	for {
		it, more := r.next()
		if !more {
			return
		}
		select {
		case items <- it:
		case <-quit:
			return
		}
		if it.err != OK {
			return
		}
	}
}

// reader is how far the reading of an archive has come: the next header's place, and the records ahead of it.
type reader struct {
	archive string
	at      int
	told    records
}

// next answers the next item; false: the archive has ended as it should.
func (r *reader) next() (item, bool) {
	for {
		p, err := pieceAt(r.archive, r.at)
		it := item{err: err, place: r.at}
		if err != OK {
			return it, true
		}
		if p.head == (header{}) {
			return it, false
		}
		r.at = p.next
		if p.head.typ() != 'x' {
			it.entry = p.entry(r.told)
			clear(r.told) // they hold for one entry alone
			return it, true
		}
		if !r.told.add(p.data) {
			it.err = ErrPax
			return it, true
		}
	}
}

// piece is a header with its data, and the place behind them.
type piece struct {
	head header
	data string
	next int
}

// pieceAt answers the piece at a place, or the error of its header; a block of zeros is a piece without data.
func pieceAt(archive string, at int) (piece, Errno) {
	head, whole := headerAt(archive, at)
	if !whole {
		return piece{}, ErrShort
	}
	start := at + blockSize
	if head == (header{}) {
		return piece{head: head, next: start}, OK
	}
	if !head.sumHolds() {
		return piece{}, ErrSum
	}
	size, ok := number(head.raw(sizeField))
	if !ok {
		return piece{}, ErrNumber
	}
	// What fills up the last block belongs to the data: an archive that lacks it breaks off.
	filled := (size + blockSize - 1) / blockSize * blockSize
	if filled > int64(len(archive)-start) {
		return piece{}, ErrShort
	}
	return piece{head, archive[start : start+int(size)], start + int(filled)}, OK
}

// entry makes the entry that comes of a piece and of the records ahead of it.
func (p piece) entry(told records) Entry {
	e := Entry{Kind: p.head.kind(), Path: told.over("path", p.head.path())}
	switch e.Kind {
	case File:
		e.Data = strings.Clone(p.data)
	case Link:
		e.Link = told.over("linkpath", p.head.text(linkField))
	}
	return e
}
