package codes

import "wicket/api"

// Source gives the bytes that are drawn, one by one.
type Source struct {
	left []byte
}

// NewSource: P9.1.
func NewSource(draws []byte) *Source {
	s := &Source{}
	s.Feed(draws)
	return s
}

// Byte: P9.1.
func (s *Source) Byte() (byte, api.Errno) {
	if s.Left() == 0 {
		return 0, api.ErrDry
	}
	b := s.left[0]
	s.left = s.left[1:]
	return b, api.OK
}

// Left: P9.1.
func (s *Source) Left() int {
	if s == nil {
		return 0
	}
	return len(s.left)
}

// Feed: P9.1.
func (s *Source) Feed(draws []byte) {
	if s == nil {
		return
	}
	n := min(len(draws), api.MaxDraws-len(s.left))
	s.left = append(s.left, draws[:n]...)
}
