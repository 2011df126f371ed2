package record_test

import (
	"math"
	"strings"
	"testing"

	"purlin/api"
	"purlin/record"
)

// of makes a record that is On.
func of(from, to, ino, old int, fromName, toName string) api.Record {
	return api.Record{On: true, From: from, To: to, Ino: ino, Old: old, FromName: fromName, ToName: toName}
}

// some is a record of which no two parts are alike.
func some() api.Record {
	return of(0x0102, 0x0304, 0x0506, 0x0708, "home", "...")
}

// least is a record of which each part is as small as it may be.
func least() api.Record {
	return of(1, 1, 1, 0, "a", "a")
}

// most is a record of which each byte is as great as it may be.
func most() api.Record {
	return of(65535, 65535, 65535, 65534, strings.Repeat("\xff", 24), strings.Repeat("\xff", 24))
}

// long is a name of so many bytes, of which the last one tells it from others.
func long(n int, last byte) string {
	return strings.Repeat("n", n-1) + string([]byte{last})
}

// names are such as may be: the shortest, the longest, what is like . and .., and bytes of every sort.
func names() []string {
	return []string{
		"a", "Z", "0", "-", " ", "\\", "\x01", "\n", "\x7f", "\x80", "\xff",
		"...", "....", ".a", "a.", "..a", "a..", ". ", " .", "..\x01", "\xc0\xae",
		"ab", "é", "日本", "no name", "%2f", "a\\b", "a\u2215b",
		long(23, 'a'), long(24, 'a'), strings.Repeat(".", 24), strings.Repeat("\xff", 24), strings.Repeat("日", 8),
	}
}

// noNames are such as may not be: none, too long, . and .., and such as have a byte that none may have.
func noNames() []string {
	return []string{
		"", ".", "..",
		long(25, 'a'), long(26, 'a'), long(32, 'a'), long(255, 'a'), long(256, 'a'), long(257, 'a'), long(280, 'a'), long(65537, 'a'), strings.Repeat(".", 25), strings.Repeat("日", 9),
		"/", "//", "/a", "a/", "a/b", "./", "../", "/..", "a/..", strings.Repeat("/", 24), strings.Repeat("/", 25),
		"\x00", "\x00\x00", "\x00a", "a\x00", "a\x00b", ".\x00", "..\x00", "é\x00", strings.Repeat("\x00", 24), strings.Repeat("\x00", 25),
	}
}

// far are what no number of a record may be: also such as fewer bits would make one that may.
func far() []int {
	return []int{
		-1, -2, -3, -128, -255, -256, -32768, -65535, -65536, -65537, -1 << 31, -1<<31 + 1, -1 << 32, -1<<32 + 1, -1 << 48, math.MinInt, math.MinInt + 1,
		65536, 65537, 65538, 65536 + 255, 131071, 131072, 131073, 1 << 24, math.MaxInt32, 1 << 31, 1<<32 - 1, 1 << 32, 1<<32 + 1, 1<<40 + 1, 1 << 48, 1<<62 + 1, math.MaxInt - 1, math.MaxInt,
	}
}

// near are numbers that may be: the least and the greatest, and those about a byte's end and a sign's.
func near() []int {
	return []int{1, 2, 127, 128, 254, 255, 256, 257, 511, 512, 32767, 32768, 32769, 65279, 65280, 65534, 65535}
}

// numbers are the names of a record's numbers, in their order; old is the last one's place.
var numbers = [4]string{"From", "To", "Ino", "Old"}

const old = 3

// number points to the k-th number of r.
func number(r *api.Record, k int) *int {
	return [4]*int{&r.From, &r.To, &r.Ino, &r.Old}[k]
}

// with tells r, its k-th number changed to x.
func with(r api.Record, k, x int) api.Record {
	*number(&r, k) = x
	return r
}

// bases are records that may be, unlike one another.
func bases() []api.Record {
	return []api.Record{some(), least(), most(), of(2, 3, 7, 0, "x", "é \\")}
}

// may are records that may be: none, each number's least and greatest, each name, what may be alike.
func may() []api.Record {
	l := append(bases(), api.Record{})
	for _, r := range bases() {
		for _, x := range near() {
			for k := range numbers {
				s := with(r, k, x)
				if s.Ino == s.Old {
					s.Old = 0
				}
				l = append(l, s)
			}
		}
		for _, x := range []int{0, 1, r.Ino - 1, r.Ino + 1, 65535} {
			if x >= 0 && x <= 65535 && x != r.Ino {
				l = append(l, with(r, old, x))
			}
		}
	}
	for k, name := range names() {
		other := names()[(7*k+3)%len(names())]
		l = append(l, of(5, 5, 9, 0, name, other), of(5, 6, 9, 8, name, name), of(5, 6, 9, 10, other, name))
	}
	return l
}

// none are records that may not be: zero but for one part, or one that may be but for one or two.
func none() []api.Record {
	l := []api.Record{{On: true}, {FromName: "a"}, {ToName: "a"}, {FromName: ".", ToName: "."}, {FromName: "a", ToName: "b"}}
	for k := range numbers {
		for _, x := range append(far(), near()...) {
			l = append(l, with(api.Record{}, k, x), with(api.Record{On: true}, k, x))
		}
	}
	for _, r := range bases() {
		off, bare := r, r
		off.On = false
		bare.FromName, bare.ToName = "", ""
		l = append(l, off, bare, with(r, old, r.Ino))
		for k := range numbers {
			for _, x := range far() {
				l = append(l, with(r, k, x))
			}
			if k != old {
				l = append(l, with(r, k, 0))
			}
		}
		for _, x := range append(far(), 0) {
			l = append(l, with(with(r, 2, x), old, x))
		}
		for _, name := range noNames() {
			a, b, c := r, r, r
			a.FromName, b.ToName = name, name
			c.FromName, c.ToName = name, name
			l = append(l, a, b, c)
		}
	}
	return l
}

// P10.1: May, of records that may be, and of such as may not.
func TestMay(t *testing.T) {
	for _, r := range may() {
		if !record.May(r) {
			t.Errorf("May(%v): false", r)
		}
	}
	for _, r := range none() {
		if record.May(r) {
			t.Errorf("May(%v): true", r)
		}
	}
}

// P10.1: May, of every number about the bounds, by each number apart.
func TestMayOfEachNumber(t *testing.T) {
	for x := -300; x < 70000; x++ {
		for k, what := range numbers {
			full, on, off := with(some(), k, x), with(api.Record{On: true}, k, x), with(api.Record{}, k, x)
			want := x >= 1 && x <= 65535 && full.Ino != full.Old || x == 0 && k == old
			if record.May(full) != want {
				t.Fatalf("May, by %s %d: %v", what, x, !want)
			}
			if record.May(on) {
				t.Fatalf("May, by %s %d alone, On: true", what, x)
			}
			if record.May(off) != (x == 0) {
				t.Fatalf("May, by %s %d alone: %v", what, x, x != 0)
			}
		}
	}
}

// P10.1: May: Old is not Ino, whatever both are; it may be what From and To are, and below Ino, and above.
func TestMayOfOldAndIno(t *testing.T) {
	for _, ino := range near() {
		for _, x := range append(near(), 0) {
			if record.May(of(3, 4, ino, x, "a", "b")) != (ino != x) {
				t.Errorf("May, Ino %d, Old %d: %v", ino, x, ino == x)
			}
			if record.May(of(ino, ino, ino, x, "a", "a")) != (ino != x) {
				t.Errorf("May, From, To and Ino %d, Old %d: %v", ino, x, ino == x)
			}
		}
	}
	for x := 1; x <= 65535; x++ {
		for _, c := range []struct {
			r    api.Record
			want bool
		}{
			{of(1, 1, x, x, "a", "b"), false},
			{of(1, 1, x, x-1, "a", "b"), true},
			{of(1, 1, x, x+1, "a", "b"), x < 65535},
			{of(x, x, x, 0, "a", "b"), true},
			{of(x, x, x%65535+1, x, "a", "b"), true},
		} {
			if record.May(c.r) != c.want {
				t.Fatalf("May(%v): %v", c.r, !c.want)
			}
		}
	}
}

// P10.1: May, of each byte at each place of a name of each length, by either name.
func TestMayOfEachNameByte(t *testing.T) {
	for n := 1; n <= 24; n++ {
		for at := range n {
			for x := range 256 {
				b := []byte(long(n, 'n'))
				b[at] = byte(x)
				want := x != '/' && x != 0 && string(b) != "."
				for _, r := range []api.Record{of(1, 2, 3, 4, string(b), "b"), of(1, 2, 3, 4, "a", string(b)), of(1, 2, 3, 0, string(b), string(b))} {
					if record.May(r) != want {
						t.Fatalf("May(%v): %v", r, !want)
					}
				}
			}
		}
	}
}

// P10.1: May, of each length of either name.
func TestMayOfEachNameLength(t *testing.T) {
	for n := range 300 {
		for _, c := range []string{"a", ".", "\xff"} {
			s := strings.Repeat(c, n)
			want := n >= 1 && n <= 24 && !(c == "." && n <= 2)
			for _, r := range []api.Record{of(1, 2, 3, 4, s, "b"), of(1, 2, 3, 4, "a", s)} {
				if record.May(r) != want {
					t.Errorf("May(%v): %v", r, !want)
				}
			}
		}
	}
}
