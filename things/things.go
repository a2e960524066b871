// Package things: lists of things, one by one.
package things

import "supercargo/api"

// FirstError: the error of the first thing of a list of which check, which is told its place too, answers one; OK, if it does of none.
func FirstError[T any](l []T, check func(place int, thing T) api.Errno) api.Errno {
	for place, thing := range l {
		if e := check(place, thing); e != api.OK {
			return e
		}
	}
	return api.OK
}

// Places: the places of a list of which something is so, by number; so is told the thing there, too.
func Places[T any](l []T, so func(place int, thing T) bool) []int {
	var places []int
	for place, thing := range l {
		if so(place, thing) {
			places = append(places, place)
		}
	}
	return places
}
