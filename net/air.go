package net

import "roamwave/api"

// air between the net and a user; it is clear, if nothing is said of it.
type air struct {
	// lost: nothing comes.
	lost bool
	// deaf: all comes, but no answer to it.
	deaf bool
	// rough is how many points come turned.
	rough int
}

// turn the first points over, as many as the air is rough.
func (a air) turn(points []api.Point) {
	for i := range points[:min(a.rough, len(points))] {
		points[i].I, points[i].Q = -points[i].I, -points[i].Q
	}
}
