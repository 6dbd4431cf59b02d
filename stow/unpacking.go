package stow

import (
	"maps"
	"slices"
	"sync"

	"stow/world"
)

// trail is the names that lead from the target to a directory: a struct, so that it can be a key of a map.
type trail struct {
	names [maxDepth]string
	depth int
}

func (t trail) down(name string) trail {
	t.names[t.depth] = name
	t.depth++
	return t
}

func (t trail) last() string { return t.names[t.depth-1] }

func (t trail) under(dir trail) bool {
	t.depth = dir.depth
	clear(t.names[t.depth:])
	return t == dir
}

// unpacker unpacks the entries of one archive into a world.
type unpacker struct {
	*world.World
	made    map[trail]struct{} // the directories that were made
	count   int
	refused []int
}

// ending is how the reading of an archive ended, and where.
type ending struct {
	err   Errno
	place int
}

// unpackAll unpacks entries while they are read, until it is over.
func (u *unpacker) unpackAll(archive string) ending {
	entries, over := make(chan Entry), make(chan ending)
	var reading sync.WaitGroup
	defer reading.Wait()
	reading.Go(func() {
		err, place := readEach(archive, func(e Entry) { entries <- e })
		over <- ending{err, place}
	})
	for {
		select {
		case e := <-entries:
			u.take(e)
		case end := <-over:
			return end
		}
	}
}

// take unpacks the next entry, or tells that it was refused.
func (u *unpacker) take(e Entry) {
	if Refused(e) || !u.unpack(e) {
		u.refused = append(u.refused, u.count)
	}
	u.count++
}

// unpack answers false if anything on the way made it refuse the entry.
func (u *unpacker) unpack(e Entry) (done bool) {
	// Whatever goes wrong below is a panic, so that nothing more is done but the closing.
	defer func() { done = recover() == nil }()
	dirs, name := slices.Collect(parts(e.Path)), ""
	if e.Kind != Dir {
		dirs, name = dirs[:len(dirs)-1], dirs[len(dirs)-1]
	}
	handle, at := world.Target, trail{}
	for _, dir := range dirs {
		at = at.down(dir)
		handle = u.enter(handle, at)
		defer u.Close(handle)
	}
	if e.Kind != Dir {
		u.put(handle, name, e)
	}
	return
}

// enter opens the directory at the end of a trail, in the one ahead of it.
func (u *unpacker) enter(ahead int, at trail) int {
	if _, ok := u.made[at]; !ok {
		u.prepare(ahead, at)
	}
	// What is no directory, or is none any more, is not opened: a link is not followed.
	handle, err := u.OpenHere(ahead, at.last())
	if err != world.OK {
		delete(u.made, at) // others may have taken it away: the next entry looks
	}
	must(err)
	return handle
}

// prepare makes the directory at the end of a trail, if nothing is there.
func (u *unpacker) prepare(ahead int, at trail) {
	if u.kindOf(ahead, at.last()) != world.None {
		return
	}
	must(u.Make(ahead, at.last()))
	// Nothing is in a new directory, whatever was made in one that others took away.
	maps.DeleteFunc(u.made, func(t trail, _ struct{}) bool { return t.under(at) })
	u.made[at] = struct{}{}
}

// put makes a file or a link in a directory.
func (u *unpacker) put(handle int, name string, e Entry) {
	switch u.kindOf(handle, name) {
	case world.Dir:
		panic(world.ErrKind) // Remove would take an empty one away
	case world.File, world.Link:
		// Writing over it would follow a link.
		must(u.Remove(handle, name))
	}
	if e.Kind == Link {
		must(u.Symlink(handle, name, e.Link))
	} else {
		must(u.Create(handle, name, e.Data))
	}
}

func (u *unpacker) kindOf(handle int, name string) int {
	kind, err := u.Look(handle, name)
	must(err)
	return kind
}

// must ends the unpacking of an entry if a call was not done.
func must(err world.Errno) {
	if err != world.OK {
		panic(err)
	}
}
