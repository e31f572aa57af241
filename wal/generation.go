package wal

import (
	"slices"
	"strconv"
	"strings"

	"wicket/api"
	"wicket/disk"
	"wicket/frame"
)

const (
	temp = "temp" // a generation that is not made yet
	top  = "wal-" // what stands ahead of a generation's number in its file's name

	kindState  = 1
	kindRecord = 2
)

// generation is a state and the records behind it.
type generation struct {
	number  int
	state   []byte
	records [][]byte
}

func fileName(number int) string {
	return top + strconv.Itoa(number)
}

// numberOf is the number of the generation whose file has that name; 0, if it is none's.
func numberOf(name string) int {
	digits, _ := strings.CutPrefix(name, top)
	n, err := strconv.Atoi(digits)
	// Printed once more, a number in any other form than the one that a generation has shows.
	if err != nil || n < 1 || n > api.MaxEpoch || fileName(n) != name {
		return 0
	}
	return n
}

// generations are the numbers of the generations on the disk, rising; by their names wal-10 would stand ahead of wal-2.
func generations(d *disk.Disk) []int {
	var numbers []int
	for _, name := range d.List() {
		if n := numberOf(name); n != 0 {
			numbers = append(numbers, n)
		}
	}
	slices.Sort(numbers)
	return numbers
}

// frames are the bytes of g's file.
func (g generation) frames() []byte {
	b := sealed(kindState, g.number, g.state)
	for i, r := range g.records {
		b = append(b, sealed(kindRecord, i+1, r)...)
	}
	return b
}

// sealed lets Seal's error go: no state and no record is as long as a load may be.
func sealed(kind byte, number int, p []byte) []byte {
	load := append(frame.PutUint(nil, uint64(number)), p...)
	b, _ := frame.Seal(kind, load)
	return b
}

// read is the generation with that number whose file is b, and how many bytes its whole frames have; ErrRot, if it may not be so.
func read(number int, b []byte) (g generation, whole int, e api.Errno) {
	defer func() {
		if recover() != nil {
			g, whole, e = generation{}, 0, api.ErrRot
		}
	}()
	frames, whole, end := frame.Scan(b)
	need(end == api.OK || end == api.ErrShort)
	need(len(frames) > 0)
	g = generation{number: number, state: loaded(frames[0], kindState, number, api.MaxState)}
	for i, f := range frames[1:] {
		g.records = append(g.records, loaded(f, kindRecord, i+1, api.MaxRecord))
	}
	return g, whole, api.OK
}

// loaded is what stands behind the number in f's load, with at most most bytes.
func loaded(f api.Frame, kind byte, number, most int) []byte {
	n, at, e := frame.Uint(f.Load)
	need(f.Kind == kind && e == api.OK && n == uint64(number))
	need(len(f.Load)-at <= most)
	return f.Load[at:]
}

// need gives up the reading of a file in which something does not hold.
func need(holds bool) {
	if !holds {
		panic(api.ErrRot)
	}
}
