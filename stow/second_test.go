package stow_test

import (
	"slices"
	"strings"

	"stow/stow"
	"stow/world"
)

// A second way to unpack where others are at work and calls cannot be done: the calls are those of Unpack, but what each of them answers is noted one by one, and nothing panics.

type second struct {
	*world.World
	made     map[string]int
	failed   bool // a call for the entry at hand, but a Close, was not done, or did not find what it needed
	unclosed int  // the Close calls that were not done
	most     int  // calls for one entry
}

// unpackSecond answers the numbers of the entries that were refused.
func unpackSecond(w *world.World, archive string) (*second, []int) {
	s := &second{World: w, made: map[string]int{}}
	entries, _, _ := stow.Read(archive)
	var refused []int
	for i, e := range entries {
		before := w.Calls()
		s.failed = refusedByWords(e)
		if !s.failed {
			s.entry(e)
		}
		if s.failed {
			refused = append(refused, i)
		}
		s.most = max(s.most, w.Calls()-before)
	}
	return s, refused
}

// done notes what a call answered.
func (s *second) done(err world.Errno) bool {
	s.failed = s.failed || err != world.OK
	return err == world.OK
}

func (s *second) entry(e stow.Entry) {
	list := partsOf(e.Path)
	dirs := list
	if e.Kind != stow.Dir {
		dirs = list[:len(list)-1]
	}
	open := []int{world.Target}
	for i := 0; i < len(dirs) && !s.failed; i++ {
		open = s.enter(open, strings.Join(dirs[:i+1], "/"), dirs[i])
	}
	if !s.failed && e.Kind != stow.Dir {
		s.put(open[len(open)-1], list[len(list)-1], e)
	}
	for _, handle := range slices.Backward(open[1:]) {
		if s.Close(handle) != world.OK {
			s.unclosed++
		}
	}
}

func (s *second) enter(open []int, path, name string) []int {
	last := open[len(open)-1]
	if s.made[path] == 0 {
		kind, err := s.Look(last, name)
		if !s.done(err) {
			return open
		}
		if kind == world.None {
			if !s.done(s.Make(last, name)) {
				return open
			}
			for old := range s.made {
				if strings.HasPrefix(old, path+"/") {
					s.made[old] = 0
				}
			}
			s.made[path] = 1
		}
	}
	handle, err := s.OpenHere(last, name)
	if !s.done(err) {
		s.made[path] = 0
		return open
	}
	return append(open, handle)
}

func (s *second) put(last int, name string, e stow.Entry) {
	kind, err := s.Look(last, name)
	if !s.done(err) {
		return
	}
	if kind == world.Dir {
		s.failed = true
		return
	}
	if kind != world.None && !s.done(s.Remove(last, name)) {
		return
	}
	if e.Kind == stow.File {
		s.done(s.Create(last, name, e.Data))
	} else {
		s.done(s.Symlink(last, name, e.Link))
	}
}
