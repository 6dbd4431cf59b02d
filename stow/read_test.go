package stow_test

import (
	"archive/tar"
	"bytes"
	"fmt"
	"strings"
	"testing"

	"stow/stow"
)

type entries = []stow.Entry

func aFile(path, data string) stow.Entry {
	return stow.Entry{Kind: stow.File, Path: path, Data: data}
}

func TestReadKinds(t *testing.T) {
	for typ := range 256 {
		if typ == 'x' {
			continue
		}
		want := stow.Entry{Kind: stow.Other, Path: "n"}
		switch typ {
		case '0', 0:
			want = aFile("n", "data")
		case '5':
			want.Kind = stow.Dir
		case '2':
			want.Kind, want.Link = stow.Link, "to"
		}
		s := head{name: "n", link: "to", typ: byte(typ)}.with("data")
		wantRead(t, fmt.Sprintf("type %d", typ), s+file("next", "")+zeros, entries{want, aFile("next", "")}, stow.OK, 0)
	}
}

func TestReadPath(t *testing.T) {
	long, longest := strings.Repeat("n", 100), strings.Repeat("p", 155)
	for _, c := range []struct {
		h    head
		want string
	}{
		{head{name: "a/b"}, "a/b"},
		{head{name: ""}, ""},
		{head{name: "a\x00b"}, "a"},
		{head{name: long}, long},
		{head{name: "n", prefix: "p/q"}, "p/q/n"},
		{head{name: "n", prefix: "p/"}, "p//n"},
		{head{name: "", prefix: "p"}, "p/"},
		{head{name: "n", prefix: "\x00p"}, "n"},
		{head{name: "n", prefix: "p\x00q"}, "p/n"},
		{head{name: long, prefix: longest}, longest + "/" + long},
		{head{name: "n", prefix: "p", magic: "ustaR"}, "n"},
		{head{name: "n", prefix: "p", magic: "usta\x00"}, "n"},
		{head{name: "n", prefix: "p", magic: "\x00"}, "n"},
	} {
		c.h.typ = '0'
		wantRead(t, fmt.Sprintf("%q %q %q", c.h.prefix, c.h.name, c.h.magic), c.h.with("")+zeros, entries{aFile(c.want, "")}, stow.OK, 0)
	}
}

func TestReadFieldsEndWhereTheyEnd(t *testing.T) {
	all := []byte(head{typ: '2'}.raw(0))
	for i := range all {
		inField := i >= 124 && i < 136 || i >= 148 && i < 157 || i >= 257 && i < 262
		if !inField {
			all[i] = byte('a' + i%26)
		}
	}
	s := summed(string(all))
	want := stow.Entry{Kind: stow.Link, Path: s[345:500] + "/" + s[0:100], Link: s[157:257]}
	wantRead(t, "a header without a zero byte in its texts", s+zeros, entries{want}, stow.OK, 0)
}

func TestReadLink(t *testing.T) {
	long := strings.Repeat("l", 100)
	for _, c := range [][2]string{{"", ""}, {"to", "to"}, {"to\x00more", "to"}, {long, long}} {
		want := stow.Entry{Kind: stow.Link, Path: "n", Link: c[1]}
		wantRead(t, c[0], head{name: "n", link: c[0], typ: '2'}.with("")+zeros, entries{want}, stow.OK, 0)
	}
}

// numbers are fields of 12 bytes that tell 9, or are no number.
var numbers = []struct {
	field string
	good  bool
}{
	{"000000000011", true}, {"          11", true}, {"11          ", true}, {" 11\x00        ", true},
	{"00000000011\x00", true}, {"11\x00 \x00 \x00 \x00 \x00 ", true}, {"11\x00\x00\x00\x00\x00\x00\x00\x00\x00\x00", true},
	{"            ", false}, {"\x00\x00\x00\x00\x00\x00\x00\x00\x00\x00\x00\x00", false}, {"  \x00       11", false},
	{"\x0000000000011", false}, {"11        11", false}, {"11\x0011       ", false}, {"000000000018", false},
	{"000000000019", false}, {"-00000000011", false}, {"+11         ", false}, {"0x11        ", false},
	{"00000000011/", false}, {"00000000011:", false}, {"\t11         ", false}, {"11\n         ", false},
	{"\x80\x00\x00\x00\x00\x00\x00\x00\x00\x00\x00\x09", false}, {"00000000011\xff", false},
}

func TestReadSize(t *testing.T) {
	for _, c := range numbers {
		s := head{name: "n", typ: '0', size: c.field}.raw(0) + filled("nine here") + zeros
		if c.good {
			wantRead(t, fmt.Sprintf("%q", c.field), s, entries{aFile("n", "nine here")}, stow.OK, 0)
		} else {
			wantRead(t, fmt.Sprintf("%q", c.field), s, nil, stow.ErrNumber, 0)
		}
	}
}

func TestReadSum(t *testing.T) {
	s := head{name: "n", typ: '0'}.raw(0)
	o := fmt.Sprintf("%o", sumOf(s))
	if len(o) != 4 {
		t.Fatalf("the test's header has the sum %s", o)
	}
	for _, f := range []string{"0000" + o, "    " + o, o + "    ", o + "\x00\x00\x00\x00", "  " + o + "\x00 ", "00" + o + " \x00"} {
		wantRead(t, fmt.Sprintf("%q", f), withSum(s, f)+zeros, entries{aFile("n", "")}, stow.OK, 0)
	}
	less, more := fmt.Sprintf("%08o", sumOf(s)-1), fmt.Sprintf("%08o", sumOf(s)+1)
	for _, f := range []string{less, more, "77777777", "        ", "\x00\x00\x00\x00\x00\x00\x00\x00", "\x00\x00\x00\x00" + o, o + "   0", o + "8   ", "-000" + o, o + "   x"} {
		wantRead(t, fmt.Sprintf("%q", f), file("a", "")+withSum(s, f)+zeros, entries{aFile("a", "")}, stow.ErrSum, block)
	}
	for i := range block {
		turned := []byte(s)
		turned[i] ^= 1
		if sumOf(string(turned)) != sumOf(s) {
			wantRead(t, fmt.Sprintf("place %d turned", i), string(turned)+zeros, nil, stow.ErrSum, 0)
		}
	}
	high := head{name: "\xff\xfe", typ: '0'}.raw(0)
	wantRead(t, "bytes above 127", high+zeros, entries{aFile("\xff\xfe", "")}, stow.OK, 0)
}

func TestReadEnd(t *testing.T) {
	f := file("f", "x")
	one := entries{aFile("f", "x")}
	wantRead(t, "nothing", "", nil, stow.ErrShort, 0)
	wantRead(t, "a block of zeros", zeros, nil, stow.OK, 0)
	wantRead(t, "one byte less", zeros[1:], nil, stow.ErrShort, 0)
	wantRead(t, "no end", f, one, stow.ErrShort, 2*block)
	wantRead(t, "the beginning of an end", f+zeros[1:], one, stow.ErrShort, 2*block)
	wantRead(t, "what is behind the end", f+zeros+f+"junk", one, stow.OK, 0)
	wantRead(t, "records ahead of the end", f+pax(record("path", "p"))+zeros, one, stow.OK, 0)
	for i := range f {
		place := i / (2 * block) * 2 * block
		wantRead(t, fmt.Sprintf("broken off at %d", i), f[:i], nil, stow.ErrShort, place)
	}
	for i := range block {
		near := []byte(zeros)
		near[i] = 1
		wantRead(t, fmt.Sprintf("zeros but at %d", i), string(near)+zeros, nil, stow.ErrSum, 0)
	}
}

func TestReadData(t *testing.T) {
	for _, n := range []int{0, 1, 511, 512, 513, 1024, 6000} {
		data := strings.Repeat("d\x00", n)[:n]
		s := file("f", data)
		two := entries{aFile("f", data), {Kind: stow.Dir, Path: "d"}}
		wantRead(t, fmt.Sprint(n), s+head{name: "d", typ: '5'}.with("")+zeros, two, stow.OK, 0)
		if n > 0 {
			wantRead(t, fmt.Sprint(n, " short"), s[:len(s)-1], nil, stow.ErrShort, 0)
		}
	}
	zeroData := file("f", zeros+zeros) + file("g", "")
	wantRead(t, "zeros that are data", zeroData+zeros, entries{aFile("f", zeros+zeros), aFile("g", "")}, stow.OK, 0)
	for _, size := range []string{"777777777777", "000000001001", "00000002000\x00"} {
		s := file("a", "") + head{name: "n", typ: '0', size: size}.raw(0) + zeros
		wantRead(t, size, s, entries{aFile("a", "")}, stow.ErrShort, block)
	}
}

func TestReadRecordsHold(t *testing.T) {
	f, l := file("f", "x"), head{name: "l", prefix: "p", link: "to", typ: '2'}.with("")
	path, linkpath := pax(record("path", "P")), pax(record("linkpath", "L"))
	aLink := func(path, link string) stow.Entry { return stow.Entry{Kind: stow.Link, Path: path, Link: link} }
	for i, c := range []struct {
		s    string
		want entries
	}{
		{path + f + f, entries{aFile("P", "x"), aFile("f", "x")}},
		{path + l + l, entries{aLink("P", "to"), aLink("p/l", "to")}},
		{linkpath + l + l, entries{aLink("p/l", "L"), aLink("p/l", "to")}},
		{linkpath + f + l, entries{aFile("f", "x"), aLink("p/l", "to")}},
		{path + linkpath + l, entries{aLink("P", "L")}},
		{linkpath + path + l, entries{aLink("P", "L")}},
		{path + pax(record("path", "Q")) + f, entries{aFile("Q", "x")}},
		{pax(record("path", "Q")+record("path", "R")) + f, entries{aFile("R", "x")}},
		{path + pax("") + f, entries{aFile("P", "x")}},
		{path + head{name: "o", typ: 'g'}.with(record("path", "G")) + f, entries{{Kind: stow.Other, Path: "P"}, aFile("f", "x")}},
		{path + head{name: "d", typ: '5'}.with("") + f, entries{{Kind: stow.Dir, Path: "P"}, aFile("f", "x")}},
		{pax(record("path", "")) + f, entries{aFile("", "x")}},
		{pax(record("linkpath", "")) + l, entries{aLink("p/l", "")}},
		{pax(record("path", "a=b\n\x00 c")) + f, entries{aFile("a=b\n\x00 c", "x")}},
		{pax(record("Path", "n")+record("path ", "n")+record(" path", "n")+record("size", "9")) + f, entries{aFile("f", "x")}},
		{pax(record("a\nb", "n")+record("path", "P")) + f, entries{aFile("P", "x")}},
		{pax(record("path", strings.Repeat("p", 9988))) + f, entries{aFile(strings.Repeat("p", 9988), "x")}},
	} {
		wantRead(t, fmt.Sprintf("records %d", i), c.s+zeros, c.want, stow.OK, 0)
	}
}

func TestReadRecordsWritten(t *testing.T) {
	long := strings.Repeat("v", 9000)
	for _, c := range []struct {
		data string
		good bool
	}{
		{"", true}, {"5 a=\n", true}, {"6 a=b\n", true}, {"7 a==b\n", true}, {"6 a=\n\n", true}, {"7  =b \n", true}, {"6 a=b\n6 a=b\n", true},
		{"9008 a=" + long + "\n", true}, {"9008 a=" + long + "\n6 a=b\n", true}, {"10 a=bcde\n", true},
		{"6 a=b", false}, {"5 a=b\n", false}, {"7 a=b\n", false}, {"6 a=b\n\x00", false}, {"6 a=b\n ", false}, {"6 a=bc", false}, {"\x006 a=b\n", false}, {" 6 a=b\n", false},
		{"06 a=b\n", false}, {"07 a=b\n", false}, {"0 a=b\n", false}, {"a=b\n", false}, {" a=b\n", false}, {"6\ta=b\n", false}, {"+7 a=b\n", false}, {"-7 a=b\n", false}, {"6a=bc\n", false},
		{"5 =b\n", false}, {"4 =\n", false}, {"5 ab\n", false}, {"3 \n", false}, {"2 ", false}, {"2\n", false}, {"1", false}, {"1 ", false}, {"6", false}, {"\n", false}, {"4 ab=\n", false}, {"4 a\n=\n", false},
		{"00006 a=b\n", false}, {"10000 a=" + strings.Repeat("v", 9991) + "\n", false}, {"99999 a=b\n", false}, {"9999 a=b\n", false}, {strings.Repeat("9", 400), false}, {"6 a=b\n6 a=b", false}, {"6 a=b\nx", false},
	} {
		s := file("a", "") + pax(c.data)
		if c.good {
			wantRead(t, fmt.Sprintf("%.30q", c.data), s+file("b", "")+zeros, entries{aFile("a", ""), aFile("b", "")}, stow.OK, 0)
		} else {
			wantRead(t, fmt.Sprintf("%.30q", c.data), s+file("b", "")+zeros, entries{aFile("a", "")}, stow.ErrPax, block)
		}
	}
}

func TestReadMany(t *testing.T) {
	f := file("f", "")
	thirty := entries{}
	for range 30 {
		thirty = append(thirty, aFile("f", ""))
	}
	first := strings.Repeat(f, 30)
	p := pax(record("a", "b"))
	wantRead(t, "30", first+zeros, thirty, stow.OK, 0)
	wantRead(t, "31", first+f+zeros, thirty, stow.ErrMany, 30*block)
	wantRead(t, "31 and more", first+f+f+f, thirty, stow.ErrMany, 30*block)
	for _, typ := range []byte{'5', '2', '1'} {
		wantRead(t, "31 of another kind", first+head{name: "n", typ: typ}.with("")+zeros, thirty, stow.ErrMany, 30*block)
	}
	wantRead(t, "30 and records", p+p+first+p+zeros, thirty, stow.OK, 0)
	wantRead(t, "31 behind records", first+p+f+zeros, thirty, stow.ErrMany, 32*block)
	wantRead(t, "30 and no records", first+pax("no")+f+zeros, thirty, stow.ErrPax, 30*block)

	most, much := strings.Repeat("x", 6000), strings.Repeat("x", 6001)
	wantRead(t, "6000", file("f", most)+f+zeros, entries{aFile("f", most), aFile("f", "")}, stow.OK, 0)
	wantRead(t, "6001", file("f", much)+zeros, nil, stow.ErrMany, 0)
	wantRead(t, "6000 and 1", file("f", most)+file("g", "1")+zeros, entries{aFile("f", most)}, stow.ErrMany, 13*block)
	for _, typ := range []byte{'5', '2', '1'} {
		s := head{name: "n", typ: typ}.with(much)
		if got, err, _ := stow.Read(s + s + file("f", most) + zeros); err != stow.OK || len(got) != 3 {
			t.Errorf("data of no file counts: %d entries, %d", len(got), err)
		}
	}
	if got, err, _ := stow.Read(pax(record("a", much)) + file("f", most) + zeros); err != stow.OK || len(got) != 1 {
		t.Errorf("data of records counts: %d entries, %d", len(got), err)
	}
}

func TestReadLong(t *testing.T) {
	s := file("f", "x") + zeros
	s += strings.Repeat("j", 40000-len(s))
	wantRead(t, "40000", s, entries{aFile("f", "x")}, stow.OK, 0)
	wantRead(t, "40001", s+"j", nil, stow.ErrLong, 0)
	wantRead(t, "40000 without a header", strings.Repeat("j", 40000), nil, stow.ErrSum, 0)
	wantRead(t, "a million", strings.Repeat("j", 1000000), nil, stow.ErrLong, 0)
}

// TestReadOrder lays headers at which several errors apply.
func TestReadOrder(t *testing.T) {
	thirty := strings.Repeat(file("f", ""), 30)
	want, err, _ := stow.Read(thirty + zeros)
	if err != stow.OK {
		t.Fatal(err)
	}
	bad := "x           "
	badPax := head{name: "n", typ: 'x'}.with("no records")
	for _, c := range []struct {
		what, s string
		err     stow.Errno
	}{
		{"short, sum", strings.Repeat("j", block-1), stow.ErrShort},
		{"sum, number", withSum(head{size: bad}.raw(0), "00000000"), stow.ErrSum},
		{"sum, short data", withSum(head{}.raw(9), "00000000"), stow.ErrSum},
		{"sum, many", withSum(head{typ: '0'}.raw(0), "00000000"), stow.ErrSum},
		{"sum, pax", withSum(badPax, "00000000"), stow.ErrSum},
		{"number, pax", head{typ: 'x', size: bad}.raw(0), stow.ErrNumber},
		{"number, many", head{typ: '0', size: bad}.raw(0), stow.ErrNumber},
		{"short data, pax", badPax[:len(badPax)-1], stow.ErrShort},
		{"short data, many", head{typ: '0'}.raw(6001) + zeros, stow.ErrShort},
		{"pax", badPax, stow.ErrPax},
		{"many", head{typ: '0'}.raw(0), stow.ErrMany},
	} {
		wantRead(t, c.what, thirty+c.s, want, c.err, len(thirty))
	}
}

// TestReadOthersArchives: what an ordinary writer of archives writes.
func TestReadOthersArchives(t *testing.T) {
	long := strings.Repeat("long/", 40) + "f"
	for _, format := range []tar.Format{tar.FormatUSTAR, tar.FormatPAX} {
		var b bytes.Buffer
		w := tar.NewWriter(&b)
		lay := func(h tar.Header, data string) {
			h.Format, h.Size = format, int64(len(data))
			if err := w.WriteHeader(&h); err != nil {
				t.Fatal(err)
			}
			if _, err := w.Write([]byte(data)); err != nil {
				t.Fatal(err)
			}
		}
		lay(tar.Header{Typeflag: tar.TypeDir, Name: "d/", Mode: 0755}, "")
		lay(tar.Header{Typeflag: tar.TypeReg, Name: long, Mode: 0644}, strings.Repeat("text", 300))
		lay(tar.Header{Typeflag: tar.TypeSymlink, Name: "d/l", Linkname: "to/f"}, "")
		lay(tar.Header{Typeflag: tar.TypeLink, Name: "d/h", Linkname: "d/l"}, "")
		want := entries{{Kind: stow.Dir, Path: "d/"}, aFile(long, strings.Repeat("text", 300)), {Kind: stow.Link, Path: "d/l", Link: "to/f"}, {Kind: stow.Other, Path: "d/h"}}
		if format == tar.FormatPAX {
			lay(tar.Header{Typeflag: tar.TypeReg, Name: long + strings.Repeat("g", 200), Mode: 0644}, "g")
			lay(tar.Header{Typeflag: tar.TypeSymlink, Name: "ä", Linkname: long}, "")
			want = append(want, aFile(long+strings.Repeat("g", 200), "g"), stow.Entry{Kind: stow.Link, Path: "ä", Link: long})
		}
		if err := w.Close(); err != nil {
			t.Fatal(err)
		}
		wantRead(t, format.String(), b.String(), want, stow.OK, 0)
	}
}
