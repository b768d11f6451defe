package shelf

import "gladstone/api"

// verdict is in which truths a piece is moved for one that stands behind it.
// For the hours of two pieces one of the verdicts holds.
type verdict interface {
	holds(behind, before api.Band) bool
}

type (
	always  struct{}
	noWay   struct{}
	perhaps struct{}
)

func (always) holds(behind, before api.Band) bool { return behind.Max < before.Min }

func (noWay) holds(behind, before api.Band) bool { return behind.Min >= before.Max }

func (perhaps) holds(behind, before api.Band) bool {
	return behind.Min < before.Max && behind.Max >= before.Min
}

// number returns the number that stands for the verdict.
func number(v verdict) int {
	switch v.(type) {
	case always:
		return api.Always
	case noWay:
		return api.NoWay
	}
	return api.Perhaps
}

// judge returns the verdict on the pieces i and k, if k stands before i.
func (s shelf) judge(i, k int) verdict {
	var v verdict
	for _, v = range []verdict{always{}, noWay{}, perhaps{}} {
		if v.holds(s.Bags[i].Out, s.Bags[k].Out) {
			break
		}
	}
	return v
}

// quiet returns the lanes in which no piece ever is moved.
func (s shelf) quiet() set {
	lanes := none
next:
	for lane := range s.Lanes {
		for i, k := range s.row(lane).pairs() {
			if _, is := s.judge(i, k).(noWay); !is {
				continue next
			}
		}
		lanes = lanes.with(lane)
	}
	return lanes
}
