package wheel

import (
	"slices"

	"wicket/api"
)

// A time is written with digits of base WheelSlots, the lowest being digit 0.
const (
	digitBits = 6  // of each digit
	digits    = 11 // of the greatest time
)

// slot has the ids of its timers, in no order.
type slot []uint64

// ring has one slot for each value that its digit may have.
type ring [api.WheelSlots]slot

func digitOf(time uint64, number int) int {
	return int(time >> uint(digitBits*number) % api.WheelSlots)
}

// ringOf is the ring in which a timer due at that time lies; WheelLevels, if it lies in the far list. It is the first ring above whose digit none differs from now's.
func (w *Wheel) ringOf(at uint64) int {
search:
	for i := range w.rings {
		for d := i + 1; d < digits; d++ {
			if digitOf(at, d) != digitOf(w.now, d) {
				continue search
			}
		}
		return i
	}
	return api.WheelLevels
}

func (w *Wheel) slotOf(at uint64) *slot {
	i := w.ringOf(at)
	if i == api.WheelLevels {
		return &w.far
	}
	return &w.rings[i][digitOf(at, i)]
}

func (w *Wheel) place(id, at uint64) {
	s := w.slotOf(at)
	*s = append(*s, id)
}

// without takes out an id that is there. The last one takes its place, and an empty slot keeps no memory.
func (s slot) without(id uint64) slot {
	last := len(s) - 1
	if last == 0 {
		return nil
	}
	s[slices.Index(s, id)] = s[last]
	return s[:last]
}

// lift empties all slots up to the one in which a timer due at to would lie, and hands back what was there. What lies behind that slot is not due by then, and stays where it is: the digits by which it was placed are the same at to as now.
func (w *Wheel) lift(to uint64) []uint64 {
	top := w.ringOf(to)
	var ids []uint64
	for i := range w.rings {
		for j := range w.rings[i] {
			if i > top || i == top && j > digitOf(to, i) {
				return ids
			}
			ids = append(ids, w.rings[i][j]...)
			w.rings[i][j] = nil
		}
	}
	if top == api.WheelLevels {
		ids = append(ids, w.far...)
		w.far = nil
	}
	return ids
}

// nearest is the first slot that is not empty: each has times ahead of those of the slots behind it, and the far list has the greatest.
func (w *Wheel) nearest() slot {
	for i := range w.rings {
		for _, s := range w.rings[i] {
			if len(s) > 0 {
				return s
			}
		}
	}
	return w.far
}
