package stow_test

import (
	"fmt"
	"math/rand/v2"
	"regexp"
	"strconv"
	"strings"
	"testing"

	"stow/stow"
)

// A second reader, written by patterns and in one go: what it and Read answer at turned archives is the same.

var (
	numberShape = regexp.MustCompile(`(?s-m)\A *([0-7]+)[\x00 ]*\z`)
	recordShape = regexp.MustCompile(`(?s-m)\A([1-9][0-9]{0,3}) `)
	pairShape   = regexp.MustCompile(`(?s-m)\A([^=]+)=(.*)\n\z`)
)

func octal(field string) int {
	m := numberShape.FindStringSubmatch(field)
	if m == nil {
		return -1
	}
	n, _ := strconv.ParseInt(m[1], 8, 64)
	return int(n)
}

func upToZero(field string) string { return strings.SplitN(field, "\x00", 2)[0] }

func splitRecords(data string) ([][]string, bool) {
	var all [][]string
	for len(data) > 0 {
		m := recordShape.FindStringSubmatch(data)
		if m == nil {
			return nil, false
		}
		n, _ := strconv.Atoi(m[1])
		if n > len(data) || n < len(m[0]) {
			return nil, false
		}
		pair := pairShape.FindStringSubmatch(data[len(m[0]):n])
		if pair == nil {
			return nil, false
		}
		all = append(all, pair)
		data = data[n:]
	}
	return all, true
}

func reference(s string) (list []stow.Entry, err stow.Errno, place int) {
	if len(s) > 40000 {
		return nil, stow.ErrLong, 0
	}
	path, link, total := []string{}, []string{}, 0
	for at := 0; ; {
		if at+512 > len(s) {
			return list, stow.ErrShort, at
		}
		h := s[at : at+512]
		if h == zeros {
			return list, stow.OK, 0
		}
		if octal(h[148:156]) != sumOf(h) {
			return list, stow.ErrSum, at
		}
		size := octal(h[124:136])
		if size < 0 {
			return list, stow.ErrNumber, at
		}
		next := at + 512
		for n := size; n > 0 && next <= len(s); n -= 512 {
			next += 512
		}
		if next > len(s) {
			return list, stow.ErrShort, at
		}
		data := s[at+512 : at+512+size]
		if h[156] == 'x' {
			pairs, ok := splitRecords(data)
			if !ok {
				return list, stow.ErrPax, at
			}
			for _, p := range pairs {
				if p[1] == "path" {
					path = []string{p[2]}
				}
				if p[1] == "linkpath" {
					link = []string{p[2]}
				}
			}
			at = next
			continue
		}
		e := stow.Entry{Kind: stow.Other, Path: upToZero(h[0:100])}
		if prefix := upToZero(h[345:500]); h[257:262] == "ustar" && prefix != "" {
			e.Path = prefix + "/" + e.Path
		}
		if len(path) > 0 {
			e.Path = path[0]
		}
		switch {
		case strings.IndexByte("0\x00", h[156]) >= 0:
			e.Kind, e.Data = stow.File, data
			total += size
		case h[156] == '5':
			e.Kind = stow.Dir
		case h[156] == '2':
			e.Kind, e.Link = stow.Link, upToZero(h[157:257])
			if len(link) > 0 {
				e.Link = link[0]
			}
		}
		if len(list) == 30 || total > 6000 {
			return list, stow.ErrMany, at
		}
		list = append(list, e)
		path, link = nil, nil
		at = next
	}
}

func pick[T any](r *rand.Rand, from ...T) T { return from[r.IntN(len(from))] }

func someRecords(r *rand.Rand) string {
	s := ""
	for range r.IntN(4) {
		s += record(pick(r, "path", "linkpath", "mtime", "a b"), pick(r, "", "a/b", "=\n", "../x", strings.Repeat("v", r.IntN(1200))))
	}
	return turn(r, s, r.IntN(8)/6)
}

func somePiece(r *rand.Rand) string {
	h := head{name: pick(r, "", "a", "a/b", strings.Repeat("n", 100)), prefix: pick(r, "", "", "p", strings.Repeat("p", 155)), link: pick(r, "", "to", "../x"), magic: pick(r, "ustar", "ustar", "other")}
	h.typ = pick[byte](r, '0', '0', 0, '5', '2', '1', 'x', 'x', 'g')
	h.size = pick(r, "", "", "", "", "", "", "", "12 ", " 0", "1 1", "777777777777")
	data := strings.Repeat("d", pick(r, 0, 0, 0, 5, 511, 512, 513, 2500))
	if h.typ == 'x' {
		data = someRecords(r)
	}
	return h.with(data)
}

// turn lays some other bytes into a text, takes some out, or puts some in.
func turn(r *rand.Rand, s string, times int) string {
	for range times {
		if s == "" {
			return s
		}
		at, c := r.IntN(len(s)), pick(r, "", "\x00", " ", "0", "7", "8", "=", "\n", "x", "\xff", "12")
		s = s[:at] + c + s[min(len(s), at+r.IntN(2)):]
	}
	return s
}

// someArchive is one as anybody may have written it: mostly of whole pieces, with the sums right.
func someArchive(r *rand.Rand) string {
	s := ""
	if r.IntN(20) == 0 {
		s = strings.Repeat(file("f", strings.Repeat("d", r.IntN(300))), 20+r.IntN(11))
	}
	for range pick(r, 0, 1, 2, 3, 5, 8, 34) {
		p := somePiece(r)
		if r.IntN(20) == 0 {
			p = turn(r, p[:512], 3) + p[512:]
			if len(p) >= 512 && r.IntN(4) > 0 {
				p = summed(p)
			}
		}
		s += p
	}
	s += pick(r, zeros, zeros, zeros+zeros, zeros[1:], "")
	if r.IntN(10) == 0 {
		s = s[:r.IntN(len(s)+1)]
	}
	return s
}

func TestReadAsReference(t *testing.T) {
	r := rand.New(rand.NewPCG(1, 2))
	met := map[stow.Errno]int{}
	for i := range 20000 {
		s := someArchive(r)
		want, err, place := reference(s)
		met[err]++
		wantRead(t, fmt.Sprintf("archive %d, %.100q", i, s), s, want, err, place)
	}
	for err := stow.OK; err <= stow.ErrMany; err++ {
		if met[err] < 50 {
			t.Errorf("the archives met error %d only %d times", err, met[err])
		}
	}
}
