package stow_test

import (
	"fmt"
	"math/rand/v2"
	"runtime"
	"strings"
	"sync"
	"testing"
	"time"
	"unsafe"

	"stow/stow"
	"stow/world"
)

// TestNumbers: the numbers of the errors and kinds are the document's.
func TestNumbers(t *testing.T) {
	for i, e := range []stow.Errno{stow.OK, stow.ErrLong, stow.ErrShort, stow.ErrSum, stow.ErrNumber, stow.ErrPax, stow.ErrMany} {
		if int(e) != i {
			t.Errorf("error %d is %d", i, e)
		}
	}
	for i, k := range []int{stow.Dir, stow.File, stow.Link, stow.Other} {
		if k != i+1 {
			t.Errorf("kind %d is %d", i+1, k)
		}
	}
}

// TestCallsEnd gives every call what nobody would write.
func TestCallsEnd(t *testing.T) {
	r := rand.New(rand.NewPCG(3, 4))
	texts := []string{"", "\x00", "x", zeros, strings.Repeat("\xff", 512), strings.Repeat("0", 40000), strings.Repeat("x", 1<<22), strings.Repeat("/", 1<<20), strings.Repeat("../", 1<<20)}
	for range 2000 {
		texts = append(texts, turn(r, someArchive(r), r.IntN(3)))
		noise := make([]byte, r.IntN(1500))
		for i := range noise {
			noise[i] = byte(r.Uint32())
		}
		texts = append(texts, string(noise))
	}
	for _, s := range texts {
		stow.Read(s)
		for kind := -1; kind <= 5; kind++ {
			stow.Refused(stow.Entry{Kind: kind, Path: s, Link: s, Data: s})
			stow.Refused(stow.Entry{Kind: kind, Path: "a", Link: s})
		}
		stow.Unpack(world.New(nil, nil, nil), s)
		stow.Unpack(world.New([]world.Place{{Path: "target/a", Kind: world.Link, Text: "/"}}, []world.Op{{At: 2, Name: "a", Kind: world.Dir}}, []int{1, 3}), s)
	}
}

// allAnswers is what Read and Unpack answer, and what is unpacked into a world of its own where others are at work, as one text.
func allAnswers(archive string) string {
	w := world.New(places("target/a target/a/b=1"), []world.Op{{At: 3, Name: "a"}, {At: 9, Name: "a", Kind: world.Link, Text: "b"}}, []int{5, 20})
	refused, err, place := stow.Unpack(w, archive)
	return fmt.Sprint(answer(stow.Read(archive)), refused, err, place, under(w), w.Calls())
}

// TestAnswersStandAlone: the same arguments give the same answer, whoever else calls and whatever was asked ahead.
func TestAnswersStandAlone(t *testing.T) {
	r := rand.New(rand.NewPCG(5, 6))
	var texts, want []string
	for range 150 {
		for _, s := range []string{someArchive(r), someEntries(r)} {
			texts, want = append(texts, s), append(want, allAnswers(s))
		}
	}
	var all sync.WaitGroup
	for from := range 8 {
		all.Go(func() {
			for i := range texts {
				k := (i + from*37) % len(texts)
				if got := allAnswers(texts[k]); got != want[k] {
					t.Errorf("archive %d: %.200s, and ahead of it %.200s", k, got, want[k])
				}
			}
		})
	}
	all.Wait()
}

// within tells whether a text lies in another one's memory.
func within(part, whole string) bool {
	if part == "" || whole == "" {
		return false
	}
	at := uintptr(unsafe.Pointer(unsafe.StringData(part)))
	from := uintptr(unsafe.Pointer(unsafe.StringData(whole)))
	return at >= from && at < from+uintptr(len(whole))
}

func TestAnswersAreNew(t *testing.T) {
	s := file("name", "data") + pax(record("path", "told")+record("linkpath", "led")) + head{name: "l", link: "to", typ: '2'}.with("") + head{name: "m", prefix: "p", link: "to", typ: '2'}.with("") + zeros
	before := strings.Clone(s)
	one, err, _ := stow.Read(s)
	if err != stow.OK || len(one) != 3 {
		t.Fatalf("%d entries, %d", len(one), err)
	}
	for _, e := range one {
		if within(e.Path, s) || within(e.Link, s) || within(e.Data, s) {
			t.Errorf("what is told of %q lies in the archive", e.Path)
		}
	}
	for i := range one {
		one[i] = stow.Entry{}
	}
	two, _, _ := stow.Read(s)
	for i, e := range two {
		if e == (stow.Entry{}) {
			t.Errorf("entry %d of the next answer was changed with the one ahead", i)
		}
	}
	if s != before {
		t.Error("the archive was changed")
	}
}

func TestUnpackedIsNew(t *testing.T) {
	s := file("d/f", "data") + pax(record("path", "told")+record("linkpath", "led")) + link("l", "to") + link("m", "to") + dir("/d") + zeros
	w := world.New(nil, nil, nil)
	one, _, _ := stow.Unpack(w, s)
	for _, p := range w.Tree() {
		if within(p.Text, s) {
			t.Errorf("what is in %q lies in the archive", p.Path)
		}
	}
	one[0] = -1
	if two, _, _ := stow.Unpack(w, s); len(two) != 1 || two[0] != 3 {
		t.Errorf("the next answer is %v", two)
	}
}

// TestNobodyIsLeft: however the reading ends, whoever sent has ended, too.
func TestNobodyIsLeft(t *testing.T) {
	before := runtime.NumGoroutine()
	for _, s := range []string{"", zeros, file("f", "x") + zeros, file("f", "x"), pax("no"), strings.Repeat(file("f", ""), 40), file("f", strings.Repeat("x", 6001)) + file("g", "") + zeros, strings.Repeat("x", 40001)} {
		for range 50 {
			stow.Read(s)
			stow.Unpack(world.New(nil, nil, []int{1, 2}), s)
			stow.Unpack(nil, s)
		}
	}
	// The runtime takes a moment to count off those that have ended.
	for range 100 {
		if runtime.NumGoroutine() <= before {
			return
		}
		time.Sleep(10 * time.Millisecond)
	}
	t.Errorf("%d are at work, %d were before", runtime.NumGoroutine(), before)
}
