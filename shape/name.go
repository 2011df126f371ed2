package shape

import (
	"slices"

	"purlin/api"
)

// names counts the entries of each file: whether each names one that is there, and there are as many as there should be.
func (l *look) names() bool {
	for _, f := range l.files {
		if !l.count(f.entries) {
			return false
		}
	}
	for n, f := range l.files {
		if f.names != namesOf(n, f) {
			return false
		}
	}
	return true
}

// count counts the entries of one directory; false, if one names no file of its Kind, or two names are alike.
func (l *look) count(entries []api.Slot) bool {
	names := make([]string, len(entries))
	for i, e := range entries {
		if e.Ino >= len(l.files) || l.files[e.Ino].Kind != e.Kind {
			return false
		}
		l.files[e.Ino].names++
		names[i] = e.Name
	}
	slices.Sort(names)
	return len(slices.Compact(names)) == len(entries)
}

// namesOf tells how many entries should name inode n.
func namesOf(n int, f file) int {
	if n == api.Root {
		return 0
	}
	return f.Links
}

// place is where a file stands.
type place struct {
	number int
	path   string // nothing of the root, so that all others are that of the directory, a slash and a name
	parts  int
}

// with is the place of an entry of the directory that stands at p.
func (p place) with(e api.Slot) place {
	return place{number: e.Ino, path: p.path + "/" + e.Name, parts: p.parts + 1}
}

// tooFar tells whether no path may be that of p.
func (p place) tooFar() bool {
	return len(p.path) > api.MaxPath || p.parts > api.MaxParts
}

// reaches finds the places of all files, from the root on: whether each directory can be reached, and each path may be. No directory is named twice, so that no ring can be reached.
func (l *look) reaches() bool {
	l.places = []place{{number: api.Root}}
	reached := 0
places:
	for i := 0; i < len(l.places); i++ {
		at := l.places[i]
		if l.files[at.number].Kind != api.KindDir {
			continue
		}
		for _, e := range l.files[at.number].entries {
			next := at.with(e)
			if next.tooFar() {
				// The directory that it lies in stays uncounted, and so it is told below.
				break places
			}
			l.places = append(l.places, next)
		}
		reached++
	}
	return reached == l.directories()
}

// directories tells how many there are.
func (l *look) directories() int {
	many := 0
	for _, f := range l.files {
		if f.Kind == api.KindDir {
			many++
		}
	}
	return many
}
