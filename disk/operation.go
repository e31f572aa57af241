package disk

import (
	"strings"

	"wicket/api"
)

// change is a change of the directory: the name from is there no more, and the name to is file's. The zero change is none.
type change struct {
	from string
	to   string
	file *file
}

// doneOn: no file is named "", so where there is no from or no to nothing is taken out or put in.
func (c change) doneOn(n directory) {
	delete(n, c.from)
	if c.to != "" {
		n[c.to] = c.file
	}
}

// Create: P5.2.
func (d *Disk) Create(name string) api.Errno {
	if d == nil {
		return api.OK
	}
	if d.dead {
		return api.ErrDead
	}
	if !isName(name) {
		return api.ErrFile
	}
	if d.names[name] != nil {
		return api.ErrThere
	}
	if len(d.names) >= api.MaxFiles {
		return api.ErrFull
	}
	e := d.operate(change{to: strings.Clone(name), file: &file{number: d.next}})
	if e == api.OK {
		d.next++
	}
	return e
}

// Append: P5.3.
func (d *Disk) Append(name string, p []byte) api.Errno {
	if d == nil {
		return api.OK
	}
	f, e := d.find(name)
	if e != api.OK {
		return e
	}
	if len(p) > api.MaxFile-len(f.bytes) || len(p) > d.Free() {
		return api.ErrFull
	}
	if e := d.operate(change{}); e != api.OK {
		return e
	}
	f.bytes = append(f.bytes, p...)
	return api.OK
}

// Sync: P5.4.
func (d *Disk) Sync(name string) api.Errno {
	if d == nil {
		return api.OK
	}
	f, e := d.find(name)
	if e != api.OK {
		return e
	}
	if e := d.operate(change{}); e != api.OK {
		return e
	}
	f.synced = len(f.bytes)
	return api.OK
}

// Rename: P5.5.
func (d *Disk) Rename(from, to string) api.Errno {
	if d == nil {
		return api.OK
	}
	f, e := d.find(from)
	if e != api.OK {
		return e
	}
	if !isName(to) {
		return api.ErrFile
	}
	if from == to {
		return d.operate(change{})
	}
	return d.operate(change{from: strings.Clone(from), to: strings.Clone(to), file: f})
}

// Remove: P5.5.
func (d *Disk) Remove(name string) api.Errno {
	if d == nil {
		return api.OK
	}
	if _, e := d.find(name); e != api.OK {
		return e
	}
	return d.operate(change{from: strings.Clone(name)})
}

// SyncDir: P5.6.
func (d *Disk) SyncDir() api.Errno {
	if d == nil {
		return api.OK
	}
	if d.dead {
		return api.ErrDead
	}
	if e := d.operate(change{}); e != api.OK {
		return e
	}
	for _, c := range d.kept {
		c.doneOn(d.safe)
	}
	d.kept = nil
	return api.OK
}

// operate is what all operations share, behind their own errors: the last of these, the power, the count, and the change of the directory that it is, if it is one.
func (d *Disk) operate(c change) api.Errno {
	if d.count >= api.MaxOps {
		return api.ErrFull
	}
	if d.fails() {
		return api.ErrDead
	}
	d.count++
	if c != (change{}) {
		c.doneOn(d.names)
		d.kept = append(d.kept, c)
	}
	return api.OK
}
