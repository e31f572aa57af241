package wal

import (
	"bytes"

	"wicket/api"
	"wicket/disk"
)

// step is a call of the disk, to be made in its turn.
type step func() api.Errno

// with is the step that calls an operation with a.
func with[A any](operation func(A) api.Errno, a A) step {
	return func() api.Errno { return operation(a) }
}

// withBoth is the step that calls an operation with a and b.
func withBoth[A, B any](operation func(A, B) api.Errno, a A, b B) step {
	return func() api.Errno { return operation(a, b) }
}

// inTurn takes the steps up to the first that has an error, and is that error.
func inTurn(steps ...step) api.Errno {
	for _, s := range steps {
		if e := s(); e != api.OK {
			return e
		}
	}
	return api.OK
}

// making are the steps that make a generation of these frames: it has its name when all of it is safe, so no power failure leaves a part of it by that name.
func making(d *disk.Disk, number int, frames []byte) []step {
	return []step{
		with(d.Create, temp),
		withBoth(d.Append, temp, frames),
		with(d.Sync, temp),
		withBoth(d.Rename, temp, fileName(number)),
		d.SyncDir,
	}
}

// Append: P6.3.
func (l *Log) Append(p []byte) api.Errno {
	if l == nil {
		return api.OK
	}
	if len(p) > api.MaxRecord {
		return api.ErrLong
	}
	if l.broken {
		return api.ErrBroken
	}
	f := sealed(kindRecord, l.Count()+1, p)
	size := l.size + len(f)
	if size > api.MaxFile || l.disk.Free()-len(f) < size {
		return api.ErrFull
	}
	if e := l.tell(withBoth(l.disk.Append, fileName(l.newest.number), f)); e != api.OK {
		return e
	}
	l.newest.records = append(l.newest.records, bytes.Clone(p))
	l.size = size
	return api.OK
}

// Sync: P6.4.
func (l *Log) Sync() api.Errno {
	if l == nil {
		return api.OK
	}
	if l.broken {
		return api.ErrBroken
	}
	return l.tell(with(l.disk.Sync, fileName(l.newest.number)))
}

// Snapshot: P6.5.
func (l *Log) Snapshot(state []byte) api.Errno {
	if l == nil {
		return api.OK
	}
	if len(state) > api.MaxState {
		return api.ErrLong
	}
	if l.broken {
		return api.ErrBroken
	}
	if l.newest.number == api.MaxEpoch {
		return api.ErrFull
	}
	g := generation{number: l.newest.number + 1, state: bytes.Clone(state)}
	b := g.frames()
	free := l.disk.Free()
	if free < len(b) || free-len(b)+l.size < len(b) {
		return api.ErrFull
	}
	steps := append(making(l.disk, g.number, b), with(l.disk.Remove, fileName(l.newest.number)), l.disk.SyncDir)
	if e := l.tell(steps...); e != api.OK {
		return e
	}
	l.newest, l.size = g, len(b)
	return api.OK
}

// tell takes the steps. Behind an error of the disk it is not known what a power failure would leave, so the log is broken then.
func (l *Log) tell(steps ...step) api.Errno {
	e := inTurn(steps...)
	l.broken = e != api.OK
	return e
}
