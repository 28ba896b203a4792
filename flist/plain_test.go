package flist

import (
	"encoding/binary"
	"hash/crc32"
	"slices"

	"remora/api"
	"remora/meta"
	"remora/num"
	"remora/path"
)

// plainArg: may what is neither Path nor Kind be, by the chapter's words?
func plainArg(e api.Entry) bool {
	target := e.Target == ""
	size := e.Size >= 0 && e.Size <= 65536
	sum := e.Sum == ""
	group := e.Group == 0
	switch e.Kind {
	case api.File:
		sum = sum || len(e.Sum) == 32
		group = group || e.Group >= 1
	case api.Dir:
		size = e.Size >= 0 && e.Size <= 1<<31-1
	case api.Link:
		target = len(e.Target) >= 1 && len(e.Target) <= 200
		size = e.Size == len(e.Target)
	}
	return meta.Check(e.Meta) == api.OK && target && size && sum && group
}

// plainCheckOne: the error of an entry behind those.
func plainCheckOne(l []api.Entry, e api.Entry) api.Errno {
	var dirs []string
	groups := []int{0}
	for _, x := range l {
		if x.Kind == api.Dir {
			dirs = append(dirs, x.Path)
		}
		groups = append(groups, x.Group)
	}
	above := path.Parent(e.Path)
	switch {
	case !path.Right(e.Path) || e.Path == "":
		return api.ErrName
	case e.Kind != 1 && e.Kind != 2 && e.Kind != 3:
		return api.ErrKind
	case !plainArg(e):
		return api.ErrArg
	case len(l) > 0 && l[len(l)-1].Path == e.Path:
		return api.ErrThere
	case len(l) > 0 && path.Less(e.Path, l[len(l)-1].Path):
		return api.ErrRange
	case above != "" && !slices.Contains(dirs, above):
		return api.ErrNotDir
	case e.Group > 0 && !slices.Contains(groups, e.Group) && e.Group != slices.Max(groups)+1:
		return api.ErrForm
	}
	return api.OK
}

// plainCheck: the first error of the entries.
func plainCheck(l []api.Entry) api.Errno {
	for i, e := range l {
		if err := plainCheckOne(l[:i], e); err != api.OK {
			return err
		}
	}
	return api.OK
}

// number: the bytes of a number.
func number(n int) []byte { return binary.AppendUvarint(nil, uint64(n)) }

// text: the bytes of a text.
func text(s string) []byte { return append(number(len(s)), s...) }

// metaBytes: the bytes of a meta.
func metaBytes(m api.Meta) []byte {
	return slices.Concat(number(m.Mode), binary.AppendVarint(nil, int64(m.Sec)), number(m.Nano), number(m.Uid), number(m.Gid))
}

// seal: all parts, and behind them their sum.
func seal(parts ...[]byte) []byte {
	b := slices.Concat(parts...)
	return binary.LittleEndian.AppendUint32(b, crc32.ChecksumIEEE(b))
}

// entryBytes: an entry whose Path is like so many bytes of the one ahead.
func entryBytes(e api.Entry, like int) []byte {
	kind := e.Kind
	if e.Sum != "" {
		kind += 4
	}
	b := slices.Concat(number(like), text(e.Path[like:]), number(kind), number(e.Size), metaBytes(e.Meta))
	if e.Kind == api.Link {
		b = append(b, text(e.Target)...)
	}
	b = append(b, e.Sum...)
	if e.Kind == api.File {
		b = append(b, number(e.Group)...)
	}
	return b
}

// plainBody: a list as bytes, not sealed.
func plainBody(l []api.Entry) []byte {
	b := number(len(l))
	last := ""
	for _, e := range l {
		like := 0
		for like < len(last) && like < len(e.Path) && last[like] == e.Path[like] {
			like++
		}
		b = append(b, entryBytes(e, like)...)
		last = e.Path
	}
	return b
}

// plainReader reads a body; it gives up with an api.Errno.
type plainReader []byte

func (r *plainReader) number() int {
	n, at, err := num.Get(*r, 0)
	if err != api.OK {
		panic(err)
	}
	*r = (*r)[at:]
	return n
}

func (r *plainReader) text(most int) string {
	s, at, err := num.GetText(*r, 0, most)
	if err != api.OK {
		panic(err)
	}
	*r = (*r)[at:]
	return s
}

func (r *plainReader) meta() api.Meta {
	m, at, err := meta.Read(*r, 0)
	if err != api.OK {
		panic(err)
	}
	*r = (*r)[at:]
	return m
}

func (r *plainReader) sum(kind int) string {
	if kind != api.File {
		panic(api.ErrArg)
	}
	if len(*r) < 32 {
		panic(api.ErrEnd)
	}
	s := string((*r)[:32])
	*r = (*r)[32:]
	return s
}

func (r *plainReader) entry(last string) api.Entry {
	var e api.Entry
	like := r.number()
	if like > len(last) {
		panic(api.ErrForm)
	}
	e.Path = last[:like] + r.text(200)
	kind := r.number()
	if !slices.Contains([]int{1, 2, 3, 5, 6, 7}, kind) {
		panic(api.ErrKind)
	}
	e.Kind = kind & 3
	e.Size = r.number()
	e.Meta = r.meta()
	if e.Kind == api.Link {
		e.Target = r.text(200)
	}
	if kind&4 != 0 {
		e.Sum = r.sum(e.Kind)
	}
	if e.Kind == api.File {
		e.Group = r.number()
	}
	return e
}

// plainRead: the list of a body that was sealed.
func plainRead(body []byte) (l []api.Entry, err api.Errno) {
	defer func() {
		if x, ok := recover().(api.Errno); ok {
			l, err = nil, x
		}
	}()
	r := plainReader(body)
	last := ""
	for range r.number() {
		e := r.entry(last)
		l, last = append(l, e), e.Path
	}
	if len(r) > 0 {
		panic(api.ErrForm)
	}
	if err := plainCheck(l); err != api.OK {
		panic(err)
	}
	if !slices.Equal(plainBody(l), body) {
		panic(api.ErrForm)
	}
	return l, api.OK
}
