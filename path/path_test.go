package path_test

import (
	"slices"
	"strings"
	"testing"

	"purlin/api"
	"purlin/path"
)

// P12.1: Split, of known paths.
func TestSplit(t *testing.T) {
	for _, x := range []struct {
		p    string
		want []string
	}{
		{"/", nil}, {"//", nil}, {"/////", nil}, {"/.", nil}, {"/./", nil}, {"/.//./.", nil},
		{"/a", []string{"a"}}, {"/a/", []string{"a"}}, {"//a", []string{"a"}}, {"///a///", []string{"a"}}, {"/./a/.", []string{"a"}},
		{"/a/b", []string{"a", "b"}}, {"/a//b", []string{"a", "b"}}, {"/a/./b", []string{"a", "b"}}, {"/b/a", []string{"b", "a"}}, {"/a/a", []string{"a", "a"}},
		{"/..", []string{".."}}, {"/../", []string{".."}}, {"/../a", []string{"..", "a"}}, {"/a/..", []string{"a", ".."}}, {"/a/../b", []string{"a", "..", "b"}},
		{"/../..", []string{"..", ".."}}, {"/a/../../b/..", []string{"a", "..", "..", "b", ".."}}, {"/.././..", []string{"..", ".."}},
		{"/...", []string{"..."}}, {"/.../..", []string{"...", ".."}}, {"/....", []string{"...."}}, {"/.a/a./..a/a..", []string{".a", "a.", "..a", "a.."}},
		{"/home/user/notes.txt", []string{"home", "user", "notes.txt"}}, {"/ / .", []string{" ", " ."}}, {"/é/\xff\xfe", []string{"é", "\xff\xfe"}}, {"/A/a", []string{"A", "a"}},
		{"/a\\b", []string{"a\\b"}}, {"/\n/\t", []string{"\n", "\t"}},
	} {
		splits(t, x.p, x.want...)
	}
}

// P12.1: Split, Clean, Last, of a text that is no path: no byte, a 0 byte, another byte ahead.
func TestNoPath(t *testing.T) {
	for _, p := range []string{
		"", "\x00", "\x00/", "\x00/a", "/\x00", "/\x00/a", "/a\x00", "/a\x00b/c", "/a/\x00/b", "/a/b\x00", "/a/b/\x00", "/..\x00", "/.\x00", "//\x00//", "/\x00\x00",
		"a", "a/b", "a/", ".", "..", "./a", "../a", "...", " /a", "\\a", "é/a", "a//", "0/",
	} {
		refused(t, p, api.ErrArg)
	}
	for x := range 256 {
		for _, rest := range []string{"", "/", "a", "/a", "/a/b", "/..", "/../a"} {
			if x != '/' {
				refused(t, string([]byte{byte(x)})+rest, api.ErrArg)
			}
		}
	}
}

// P12.1: Split, Clean, Last, of a 0 byte at each place of a path, also of one at every limit.
func TestEachPlaceOfAZero(t *testing.T) {
	for _, p := range []string{"/", "/a", "/a/b/../c", "//./..//a/", "/" + long(24, 'x'), longest(200), strings.Repeat("/a", 20)} {
		for i := range len(p) {
			refused(t, p[:i]+"\x00"+p[i+1:], api.ErrArg)
			refused(t, p[:i]+"\x00"+p[i:], api.ErrArg)
		}
		refused(t, p+"\x00", api.ErrArg)
	}
}

// longest is a path of n bytes, of parts of up to 19 of them.
func longest(n int) string {
	return strings.Repeat("/"+long(19, 'p'), n/20+1)[:n]
}

// P12.1, P12.2: every byte that is neither 0 nor / is one of a part, at its beginning, in it and at its end, alone too.
func TestEachByteOfAPart(t *testing.T) {
	for x := 1; x < 256; x++ {
		if x == '/' {
			continue
		}
		b := string([]byte{byte(x)})
		for _, part := range []string{b, "a" + b, b + "a", "a" + b + "c", b + b + b, long(24, byte(x))} {
			if part == "." {
				splits(t, "/./a/.", "a")
				continue
			}
			p := "/" + part + "/z/" + part
			splits(t, p, part, "z", part)
			cleans(t, p, p)
			cleans(t, p+"/..", "/"+part+"/z")
			hasLast(t, p, "/"+part+"/z", part)
			isTarget(t, p, true, part, "z", part)
			isTarget(t, part+"/z", false, part, "z")
		}
	}
}

// P12.1: Split, Clean, Last: parts of each length, at each place among others, up to MaxName and beyond.
func TestLengthOfAPart(t *testing.T) {
	for n := 1; n <= 60; n++ {
		part := long(n, 'n')
		for _, ahead := range []string{"", "/a", "/..", "/.", "/a/.."} {
			for _, behind := range []string{"", "/", "/b", "/..", "/."} {
				p := ahead + "/" + part + behind
				if n > 24 {
					refused(t, p, api.ErrLong)
					continue
				}
				agrees(t, p)
			}
		}
	}
	splits(t, "/"+long(24, 'm')+"/"+long(24, '.'), long(24, 'm'), long(24, '.'))
	hasLast(t, "/"+long(24, 'm')+"/"+long(24, 'n'), "/"+long(24, 'm'), long(24, 'n'))
	// A .. behind it does not make a part that is too long one that may be.
	refused(t, "/"+long(25, 'm')+"/..", api.ErrLong)
	refused(t, "/"+long(25, '.'), api.ErrLong)
	refused(t, "/"+strings.Repeat("é", 12)+"e", api.ErrLong)
	splits(t, "/"+strings.Repeat("é", 12), strings.Repeat("é", 12))
}

// P12.1: Split, Clean, Last: paths of MaxPath bytes and of more, of whatever they are.
func TestLengthOfAPath(t *testing.T) {
	for n := 1; n <= 420; n++ {
		for _, p := range []string{longest(n), long(n, '/'), strings.Repeat("/.", n)[:n], "/a" + long(n, '/')[1:], "/.." + long(n, '/')[1:]} {
			if len(p) > 200 {
				refused(t, p, api.ErrLong)
				continue
			}
			agrees(t, p)
		}
	}
	var parts []string
	for range 10 {
		parts = append(parts, long(19, 'p'))
	}
	splits(t, longest(200), parts...)
	cleans(t, longest(200), longest(200))
	hasLast(t, longest(200), longest(180), long(19, 'p'))
	refused(t, longest(200)+"/", api.ErrLong)
	refused(t, "/"+longest(200), api.ErrLong)
	splits(t, long(200, '/'))
	cleans(t, long(200, '/'), "/")
	refused(t, long(201, '/'), api.ErrLong)
	refused(t, "/a"+long(199, '/'), api.ErrLong)
	splits(t, "/a"+long(198, '/'), "a")
	refused(t, longest(1<<20), api.ErrLong)
	refused(t, long(1<<20, '/'), api.ErrLong)
}

// P12.1: Split, Clean, Last: MaxParts parts and more, those that count and those that do not.
func TestCountOfParts(t *testing.T) {
	for n := range 100 {
		for _, part := range []string{"a", "..", "...", "ab"} {
			p := "/" + strings.TrimSuffix(strings.Repeat(part+"/", n), "/")
			if n > 20 {
				refused(t, p, api.ErrLong)
				continue
			}
			splits(t, p, slices.Repeat([]string{part}, n)...)
			agrees(t, p)
			agrees(t, strings.ReplaceAll(p, "/", "//./"))
		}
		p := "/" + strings.Repeat("./", n)
		splits(t, p[:min(len(p), 200)])
	}
	full := strings.Repeat("/a", 20)
	twenty := slices.Repeat([]string{"a"}, 20)
	for _, p := range []string{full, full + "/", full + "//", full + "/.", full + "/./.", "/." + full, "//" + full, strings.Repeat("/./a", 20), strings.Repeat("//a", 20)} {
		splits(t, p, twenty...)
		cleans(t, p, full)
		hasLast(t, p, full[:38], "a")
	}
	for _, p := range []string{full + "/a", full + "/..", "/.." + full, full + "/...", full + "/a/..", full + "/../..", "/a/.." + full, full + "/./a", full + "//..", strings.Repeat("/..", 21)} {
		refused(t, p, api.ErrLong)
	}
	// Parts count though a .. takes them away.
	splits(t, strings.Repeat("/a/..", 10), slices.Repeat([]string{"a", ".."}, 10)...)
	cleans(t, strings.Repeat("/a/..", 10), "/")
	refused(t, strings.Repeat("/a/..", 10)+"/b", api.ErrLong)
}

// P12.1: Split, Clean, Last: of both codes the one that is named first.
func TestBothCodes(t *testing.T) {
	many := strings.Repeat("/a", 21)
	for _, p := range []string{longest(201), long(300, '/'), "/" + long(25, 'x'), many, many + "/" + long(200, 'x')} {
		refused(t, p, api.ErrLong)
		for _, bad := range []string{"a" + p, "." + p, p[1:] + "a", "\x00" + p, p + "\x00", p[:1] + "\x00" + p[1:], p[:len(p)/2] + "\x00" + p[len(p)/2:]} {
			if bad[0] != '/' || strings.Contains(bad, "\x00") {
				refused(t, bad, api.ErrArg)
			}
		}
	}
	refused(t, long(201, 'a'), api.ErrArg)
	refused(t, long(201, 0), api.ErrArg)
	refused(t, "/"+long(1<<20, 'a')+"\x00", api.ErrArg)
}

// P12.1: Clean, of known paths.
func TestClean(t *testing.T) {
	for _, x := range [][2]string{
		{"/a/../b/./c", "/b/c"},
		{"/", "/"}, {"//", "/"}, {"/.", "/"}, {"/./.", "/"}, {"/..", "/"}, {"/../..", "/"}, {"/../../../..", "/"}, {"/./../.", "/"},
		{"/a", "/a"}, {"/a/", "/a"}, {"//a//b//", "/a/b"}, {"/a/b/c", "/a/b/c"}, {"/./a/./b/.", "/a/b"},
		{"/../a", "/a"}, {"/../../a", "/a"}, {"/../a/../b", "/b"},
		{"/a/..", "/"}, {"/a/../", "/"}, {"/a/b/..", "/a"}, {"/a/b/../..", "/"}, {"/a/b/../../..", "/"}, {"/a/b/../../../c", "/c"}, {"/a/../../b", "/b"},
		{"/a/../b", "/b"}, {"/a/b/../c", "/a/c"}, {"/a/b/../../c", "/c"}, {"/a/../b/../c", "/c"}, {"/a/b/c/../../d/e/..", "/a/d"}, {"/a/b/../c/../d/..", "/a"},
		{"/a/./..", "/"}, {"/a//..", "/"}, {"/a/.././b", "/b"}, {"/a/..//../b", "/b"},
		{"/...", "/..."}, {"/.../..", "/"}, {"/a/.../..", "/a"}, {"/a/...", "/a/..."}, {"/..a/..", "/"}, {"/..a/a../..b", "/..a/a../..b"}, {"/.../../...", "/..."},
		{"/a/a/..", "/a"}, {"/a/a/../a", "/a/a"}, {"/x/y/../../../../z", "/z"}, {"/../../x/..", "/"}, {"/é/../\xff", "/\xff"},
	} {
		cleans(t, x[0], x[1])
	}
}

// P12.1: Clean, of what it told: that again.
func TestCleanTwice(t *testing.T) {
	for _, p := range []string{"/", "/..", "/a/../b", "/a//b/./c/..", strings.Repeat("/a", 20), strings.Repeat("/../a", 10), longest(200)} {
		once, code := path.Clean(p)
		if code != api.OK {
			t.Errorf("Clean(%q): %d", p, code)
		}
		cleans(t, once, once)
	}
}

// P12.1: Clean, of every row of up to twelve names and .. , each name another one.
func TestCleanEachRow(t *testing.T) {
	for n := range 13 {
		for row := range 1 << n {
			var parts []string
			for k := range n {
				if row>>k&1 == 1 {
					parts = append(parts, "..")
				} else {
					parts = append(parts, string([]byte{'a' + byte(k)}))
				}
			}
			cleans(t, joinedByHand(parts), cleanByHand(parts))
		}
	}
}

// P12.1: Join, of none, of one, of several; of whatever the parts are.
func TestJoin(t *testing.T) {
	for _, x := range []struct {
		parts []string
		want  string
	}{
		{nil, "/"}, {[]string{}, "/"}, {[]string{"a"}, "/a"}, {[]string{"a", "b"}, "/a/b"}, {[]string{"b", "a"}, "/b/a"}, {[]string{"a", "b", "c"}, "/a/b/c"},
		{[]string{"a", "a", "a", "a"}, "/a/a/a/a"}, {[]string{".."}, "/.."}, {[]string{"a", "..", "b"}, "/a/../b"}, {[]string{"."}, "/."}, {[]string{".", "a"}, "/./a"},
		{[]string{""}, "/"}, {[]string{"", ""}, "//"}, {[]string{"a", ""}, "/a/"}, {[]string{"", "a"}, "//a"}, {[]string{"a", "", "b"}, "/a//b"},
		{[]string{"/"}, "//"}, {[]string{"a/b", "c"}, "/a/b/c"}, {[]string{"/a/", "/b/"}, "//a///b/"}, {[]string{"\x00"}, "/\x00"}, {[]string{"\xff", "é"}, "/\xff/é"},
		{[]string{long(25, 'x'), long(300, 'y')}, "/" + long(25, 'x') + "/" + long(300, 'y')}, {slices.Repeat([]string{"ab"}, 50), strings.Repeat("/ab", 50)},
	} {
		if got := path.Join(x.parts...); got != x.want {
			t.Errorf("Join(%q): %q, not %q", x.parts, got, x.want)
		}
	}
	if got := path.Join(); got != "/" {
		t.Errorf("Join(): %q", got)
	}
	if got := path.Join("a", "..", "c"); got != "/a/../c" {
		t.Errorf("Join(a, .., c): %q", got)
	}
}

// P12.1: Join, of the parts that Split tells: a path that has the same ones.
func TestJoinOfSplit(t *testing.T) {
	for _, p := range []string{"/", "//a/./b//", "/a/../../b", strings.Repeat("/..", 20), longest(200), strings.Repeat("/./a", 20)} {
		parts, code := path.Split(p)
		if code != api.OK {
			t.Errorf("Split(%q): %d", p, code)
		}
		splits(t, path.Join(parts...), parts...)
	}
}

// P12.1: Last, of known paths.
func TestLast(t *testing.T) {
	for _, x := range [][3]string{
		{"/a", "/", "a"}, {"/a/", "/", "a"}, {"//a//", "/", "a"}, {"/a/.", "/", "a"}, {"/./a/./", "/", "a"},
		{"/a/b", "/a", "b"}, {"/a/b/c", "/a/b", "c"}, {"//a//b", "/a", "b"}, {"/a/./b/.", "/a", "b"}, {"/a/a", "/a", "a"},
		{"/../a", "/..", "a"}, {"/a/../b", "/a/..", "b"}, {"/../../a", "/../..", "a"}, {"/a/../../b/c", "/a/../../b", "c"}, {"/a/..//b/", "/a/..", "b"},
		{"/...", "/", "..."}, {"/a/...", "/a", "..."}, {"/../...", "/..", "..."}, {"/..a", "/", "..a"}, {"/.a", "/", ".a"}, {"/a/..b", "/a", "..b"},
		{"/" + long(24, 'x') + "/" + long(24, 'y'), "/" + long(24, 'x'), long(24, 'y')}, {strings.Repeat("/..", 19) + "/a", strings.Repeat("/..", 19), "a"},
	} {
		hasLast(t, x[0], x[1], x[2])
	}
}

// P12.1: Last, where there is no part, and where the last one is .. .
func TestNoLast(t *testing.T) {
	for _, p := range []string{
		"/", "//", "/.", "/./", "/./.", "/.//./", long(200, '/'), strings.Repeat("/.", 100),
		"/..", "/../", "/..//", "/../.", "/.././", "/../..", "/a/..", "/a/../", "/a/b/..", "/a/../.", "/a/b/../..", "/.../..", strings.Repeat("/..", 20), strings.Repeat("/a", 19) + "/..",
	} {
		if _, code := path.Split(p); code != api.OK {
			t.Errorf("Split(%q): %d", p, code)
		}
		hasNoLast(t, p, api.ErrArg)
	}
	// Split's error is the one that is told of a path that is too long, whatever its last part is.
	for _, p := range []string{long(201, '/'), strings.Repeat("/..", 21), "/" + long(25, 'x') + "/..", longest(198) + "/.."} {
		hasNoLast(t, p, api.ErrLong)
	}
}
