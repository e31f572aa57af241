package disk

import (
	"bytes"
	"maps"
	"strings"

	"wicket/api"
)

// Arm: P5.8.
func (d *Disk) Arm(n int) {
	if d == nil || d.dead {
		return
	}
	d.fuse = max(n, 0)
}

// fails brings the power's end nearer by the operation that would be done now, and says whether it has come.
func (d *Disk) fails() bool {
	d.dead = d.fuse == 1
	d.fuse = max(d.fuse-1, 0)
	return d.dead
}

// Dead: P5.8.
func (d *Disk) Dead() bool {
	return d != nil && d.dead
}

// Left: P5.9.
func (d *Disk) Left(c api.Crash) []api.File {
	if d == nil {
		return nil
	}
	names := maps.Clone(d.safe)
	for _, k := range d.kept[:within(c.Dir, len(d.kept))] {
		k.doneOn(names)
	}
	var files []api.File
	for _, name := range names.rising() {
		files = append(files, api.File{Name: strings.Clone(name), Bytes: names[name].left(c.Tails)})
	}
	return files
}

// Durable: P5.9.
func (d *Disk) Durable() []api.File {
	return d.Left(api.Crash{})
}

// left is what a power failure leaves of f's bytes.
func (f *file) left(tails []int) []byte {
	n := f.synced
	if f.number < len(tails) {
		n += within(tails[f.number], len(f.bytes)-f.synced)
	}
	return bytes.Clone(f.bytes[:n])
}

// within is the number from 0 to most that is nearest to n.
func within(n, most int) int {
	return min(max(n, 0), most)
}
