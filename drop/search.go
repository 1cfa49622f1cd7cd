package drop

import "slices"

// search looks for hours of visits with which the clock of a round stops in the first hour in which it can, if as little as can be is wound and as much as can be is used.
//
// Who comes earlier leaves no more in the end, as the weight is sooner at the top: so the first hours that are tried are good ones.
type search struct {
	round
	stop int   // the first hour in which the clock can stop
	came []int // the hours of the visits so far
}

// from returns the smallest list that begins with the visits so far, and goes on from an hour in which so much is left after them; false if there is none.
func (s *search) from(hour, left int) ([]int, bool) {
	if s.stopsAlone(hour, left) {
		return slices.Clone(s.came), true
	}
	for at, used := range s.hours(hour, s.stop+1) {
		if s.canCome(len(s.came), at) {
			if list, ok := s.visit(at, left); ok {
				return list, true
			}
		}
		left -= used.High
	}
	return nil, false
}

// visit is from, with one visit more.
func (s *search) visit(hour, left int) ([]int, bool) {
	after := s.wound(left, s.visits[len(s.came)].Wind.Low)
	s.came = append(s.came, hour)
	defer func() { s.came = s.came[:len(s.came)-1] }()
	return s.from(hour, after)
}

// stopsAlone reports whether the clock stops without a further visit.
func (s *search) stopsAlone(hour, left int) bool {
	if !s.canWait(len(s.came), s.stop) {
		return false
	}
	for _, used := range s.hours(hour, s.stop+1) {
		left -= used.High
	}
	return left < 0
}
