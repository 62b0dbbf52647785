package store

import (
	"hanaper/alloc"
	"hanaper/api"
	"hanaper/inode"
	"hanaper/sect"
	"hanaper/wal"
	"slices"
)

const maxBytes = api.MaxFile * api.SectorSize // of a file

// change is what becomes of a file.
type change struct {
	to    api.File
	is    file  // of one that is gone the place alone counts
	loses []int // the data sectors that it lets go
}

// Do makes all of l so, or nothing of it, also where the power goes meanwhile.
func (s *Store) Do(l ...api.File) api.Errno {
	if e := s.Try(l...); e != api.OK {
		return e
	}
	all := s.changes(l)
	var p []api.Patch
	for _, c := range all {
		p = append(p, s.patches(c)...)
	}
	if e := s.log.Commit(p...); e != api.OK {
		return e
	}
	for _, c := range all {
		if c.to.Gone {
			delete(s.files, c.to.Name)
		} else {
			s.files[c.to.Name] = c.is
		}
	}
	return api.OK
}

// Try is what Do answers as long as the disk has no error.
func (s *Store) Try(l ...api.File) api.Errno {
	switch {
	case !s.made():
		return api.ErrNil
	case s.log.Broken():
		return api.ErrDead
	case !mayBe(l):
		return api.ErrArg
	case slices.ContainsFunc(l, func(f api.File) bool { return len(f.B) > maxBytes }):
		return api.ErrLong
	case slices.ContainsFunc(l, s.misses):
		return api.ErrNone
	case !s.fits(l):
		return api.ErrFull
	case s.cost(l) > wal.Room(s.c.Log):
		return api.ErrMany
	}
	return api.OK
}

// mayBe is whether l has names, each one once, and no bytes for what is gone.
func mayBe(l []api.File) bool {
	seen := map[string]struct{}{}
	for _, f := range l {
		if _, twice := seen[f.Name]; twice || !inode.Name(f.Name) || f.Gone && len(f.B) > 0 {
			return false
		}
		seen[f.Name] = struct{}{}
	}
	return true
}

// misses is whether f is to be gone, and is not there.
func (s *Store) misses(f api.File) bool {
	_, there := s.files[f.Name]
	return f.Gone && !there
}

// fits is whether the new ones of l, and what all of them grow, find room in what is free ahead of it.
func (s *Store) fits(l []api.File) bool {
	fresh, grown := 0, 0
	for _, f := range l {
		was, there := s.files[f.Name]
		if !there {
			fresh++
		}
		grown += max(0, alloc.Pages(len(f.B))-len(was.node.At))
	}
	files, sectors := s.Free()
	return fresh <= files && grown <= sectors
}

// cost is how many sectors l changes.
func (s *Store) cost(l []api.File) int {
	n := 0
	for _, f := range l {
		n += 1 + max(len(s.files[f.Name].node.At), alloc.Pages(len(f.B)))
	}
	return n
}

// changes is what becomes of each of l, for which there is room. Nothing that one lets go is given to another one: a sector may be written once in a Commit.
func (s *Store) changes(l []api.File) []change {
	taken, used := s.taken(), s.used()
	all := make([]change, len(l))
	for i, f := range l {
		was, there := s.files[f.Name]
		if !there {
			was.place = give(taken, 1)[0]
		}
		had, need := was.node.At, alloc.Pages(len(f.B))
		keeps := min(len(had), need)
		at := slices.Concat(had[:keeps], give(used, need-keeps))
		slices.Sort(at)
		node := api.Inode{Name: f.Name, Size: len(f.B), At: at}
		all[i] = change{to: f, is: file{place: was.place, node: node}, loses: had[keeps:]}
	}
	return all
}

// give is the first n that are not used, and are from now on.
func give(used []bool, n int) []int {
	at, _ := alloc.Pick(used, n)
	for _, i := range at {
		used[i] = true
	}
	return at
}

// patches is what c writes: the inode, the bytes, and zeros where it lets go.
func (s *Store) patches(c change) []api.Patch {
	from, _ := Data(s.c)
	p := []api.Patch{{At: nodes(s.c) + c.is.place, B: s.nodeSector(c)}}
	for i, b := range alloc.Cut(c.to.B) {
		p = append(p, api.Patch{At: from + c.is.node.At[i], B: b})
	}
	for _, i := range c.loses {
		p = append(p, api.Patch{At: from + i, B: sect.Zero()})
	}
	return p
}

// nodeSector is the file's sector behind c.
func (s *Store) nodeSector(c change) []byte {
	if c.to.Gone {
		return sect.Zero()
	}
	body, _ := inode.Put(c.is.node, s.c.Data)
	sector, _ := sect.Put(nodeKind, body)
	return sector
}
