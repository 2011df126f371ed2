package tree

import (
	"purlin/api"
	"purlin/path"
)

// makeDir makes a directory at p.
func (t *Tree) makeDir(p string) api.Errno {
	at, code := t.free(p)
	if code != api.OK {
		return code
	}
	t.put(at, t.make(api.KindDir))
	return api.OK
}

// removeDir takes the name of an empty directory away.
func (t *Tree) removeDir(p string) api.Errno {
	at, code := t.taken(p)
	switch {
	case code != api.OK:
		return code
	case at.there.kind != api.KindDir:
		return api.ErrNotDir
	case at.there.size() != 0:
		return api.ErrNotEmpty
	}
	t.lose(at)
	return api.OK
}

// unlink takes a name of what is no directory away.
func (t *Tree) unlink(p string) api.Errno {
	at, code := t.taken(p)
	switch {
	case code != api.OK:
		return code
	case at.there.kind == api.KindDir:
		return api.ErrIsDir
	}
	t.lose(at)
	return api.OK
}

// link lets what stands at p have one more name.
func (t *Tree) link(p, to string) api.Errno {
	n, code := t.find(p, true)
	switch {
	case code != api.OK:
		return code
	case n.kind == api.KindDir:
		return api.ErrPerm
	}
	at, code := t.free(to)
	if code != api.OK {
		return code
	}
	t.put(at, n)
	return api.OK
}

// makeLink makes a link at to that tells target.
func (t *Tree) makeLink(target, to string) api.Errno {
	if _, _, code := path.Target(target); code != api.OK {
		return code
	}
	at, code := t.free(to)
	if code != api.OK {
		return code
	}
	n := t.make(api.KindLink)
	n.data = []byte(target)
	t.put(at, n)
	return api.OK
}

// rename lets what stands at p stand at to, in place of what stands there.
func (t *Tree) rename(p, to string) api.Errno {
	// Both paths are asked ahead of either place.
	for _, text := range []string{p, to} {
		if _, _, code := path.Last(text); code != api.OK {
			return code
		}
	}
	from, code := t.taken(p)
	if code != api.OK {
		return code
	}
	at, code := t.place(to)
	if code != api.OK {
		return code
	}
	if code := t.mayMove(from.there, at); code != api.OK {
		return code
	}
	if from.there != at.there {
		t.move(from, at)
	}
	return api.OK
}

// mayMove tells what forbids that n stands at p, in place of what stands there.
func (t *Tree) mayMove(n *node, p place) api.Errno {
	switch {
	case n.kind == api.KindDir && t.within(p.dir, n):
		return api.ErrArg
	case t.overlong(n, t.reach(p.dir).with(p.name)):
		return api.ErrLong
	case p.there == nil || p.there == n:
		return api.OK
	case n.kind == api.KindDir:
		return mayReplaceByDir(p.there)
	case p.there.kind == api.KindDir:
		return api.ErrIsDir
	}
	return api.OK
}

// mayReplaceByDir tells what forbids that a directory stands in place of n.
func mayReplaceByDir(n *node) api.Errno {
	switch {
	case n.kind != api.KindDir:
		return api.ErrNotDir
	case n.size() != 0:
		return api.ErrNotEmpty
	}
	return api.OK
}

// move lets what stands at from stand at to, in place of what stands there.
func (t *Tree) move(from, to place) {
	// First what goes, then what comes: no directory has one name more meanwhile.
	t.take(from)
	if to.there != nil {
		t.lose(to)
	}
	t.put(to, from.there)
}

// free finds the place of p, at which nothing may stand.
func (t *Tree) free(p string) (place, api.Errno) {
	at, code := t.place(p)
	if code == api.OK && at.there != nil {
		code = api.ErrExist
	}
	return at, code
}

// taken finds the place of p, at which something must stand.
func (t *Tree) taken(p string) (place, api.Errno) {
	at, code := t.place(p)
	if code == api.OK && at.there == nil {
		code = api.ErrNone
	}
	return at, code
}

// put lets n stand at p, where nothing stands.
func (t *Tree) put(p place, n *node) {
	p.dir.entries[p.name] = n.number
	p.dir.most = max(p.dir.most, len(p.dir.entries))
	n.names++
	if n.kind == api.KindDir {
		n.above, n.name = p.dir.number, p.name
	}
}

// take takes the name at p away, where something stands.
func (t *Tree) take(p place) {
	delete(p.dir.entries, p.name)
	p.there.names--
	if p.there.kind == api.KindDir {
		p.there.above, p.there.name = 0, ""
	}
}

// lose takes the name at p away, and what stands there too, if nothing else is left by which it can be reached.
func (t *Tree) lose(p place) {
	t.take(p)
	t.leave(p.there)
}
