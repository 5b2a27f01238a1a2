package model

import (
	"waterline/api"
	"waterline/file"
	"waterline/tree"
)

// world is a model's tree, and what is done to it. A tree's own methods are not a model's: it changes by operations alone.
type world struct{ t *tree.Tree }

func (m *Model) isThere() bool { return m != nil && m.t != nil }

// done tells the result of an operation that is right, and does it.
func (w world) done(x api.Op) api.Res {
	var r api.Res
	kinds()[x.Kind](w, x, &r)
	return r
}

// deed does what operations of a kind do, and fills their result.
type deed func(w world, x api.Op, r *api.Res)

// filling makes a deed of what is done, and of what puts into the result what that answers.
func filling[T any](do func(w world, x api.Op) T, fill func(r *api.Res, answer T)) deed {
	return func(w world, x api.Op, r *api.Res) { fill(r, do(w, x)) }
}

// kinds tells what operations of each kind do.
func kinds() map[api.OpKind]deed {
	wrong := func(r *api.Res, e api.Errno) { r.Errno = e }
	return map[api.OpKind]deed{
		api.OpStat:   filling(world.stat, func(r *api.Res, is api.Res) { *r = is }),
		api.OpList:   filling(world.list, func(r *api.Res, l []string) { r.Names = l }),
		api.OpRead:   filling(world.read, func(r *api.Res, b []byte) { r.Bytes = b }),
		api.OpMake:   filling(world.newFile, wrong),
		api.OpMkdir:  filling(world.newDir, wrong),
		api.OpUnlink: filling(world.unlink, wrong),
		api.OpRmdir:  filling(world.rmdir, wrong),
		api.OpRename: filling(world.rename, wrong),
		api.OpLink:   filling(world.link, wrong),
		api.OpWrite:  filling(world.write, wrong),
		api.OpCut:    filling(world.cut, wrong),
	}
}

// stat tells how great a node is by its bytes, if it is a file, else by its names.
func (w world) stat(x api.Op) api.Res {
	is := api.Res{Kind: told(w.t.Kind(x.Path)), Links: told(w.t.Links(x.Path))}
	if is.Kind == api.InodeFile {
		is.N = len(told(w.t.Bytes(x.Path)))
	} else {
		is.N = len(told(w.t.Names(x.Path)))
	}
	return is
}

func (w world) list(x api.Op) []string { return told(w.t.Names(x.Path)) }

func (w world) read(x api.Op) []byte { return told(file.Read(told(w.t.Bytes(x.Path)), x.At, x.N)) }

func (w world) newFile(x api.Op) api.Errno { return w.t.Make(x.Path, api.InodeFile) }

func (w world) newDir(x api.Op) api.Errno { return w.t.Make(x.Path, api.InodeDir) }

func (w world) unlink(x api.Op) api.Errno { return w.t.Drop(x.Path) }

func (w world) rmdir(x api.Op) api.Errno { return w.t.Remove(x.Path) }

func (w world) rename(x api.Op) api.Errno { return w.t.Move(x.Path, x.To) }

func (w world) link(x api.Op) api.Errno { return w.t.Link(x.Path, x.To) }

func (w world) write(x api.Op) api.Errno {
	b := told(w.t.Bytes(x.Path))
	return w.t.Put(x.Path, told(file.Write(b, x.At, x.Bytes)))
}

func (w world) cut(x api.Op) api.Errno {
	b := told(w.t.Bytes(x.Path))
	return w.t.Put(x.Path, told(file.Cut(b, x.N)))
}
