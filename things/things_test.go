package things

import (
	"slices"
	"testing"

	"supercargo/api"
)

// P1: the first thing of which something is wrong tells, whatever is wrong of those behind it, which nobody asks of.
func TestFirstError(t *testing.T) {
	for _, c := range []struct {
		l    []api.Errno
		want api.Errno
	}{
		{nil, api.OK},
		{[]api.Errno{}, api.OK},
		{[]api.Errno{0}, api.OK},
		{[]api.Errno{0, 0, 0}, api.OK},
		{[]api.Errno{3}, 3},
		{[]api.Errno{0, 0, 7}, 7},
		{[]api.Errno{0, 5, 2, 0, 1}, 5},
		{[]api.Errno{8, 1}, 8},
	} {
		var asked []int
		e := FirstError(c.l, func(place int, thing api.Errno) api.Errno {
			if thing != c.l[place] {
				t.Errorf("place %d of %v: %d", place, c.l, thing)
			}
			asked = append(asked, place)
			return thing
		})
		many := len(c.l)
		if c.want != api.OK {
			many = slices.Index(c.l, c.want) + 1
		}
		if e != c.want || len(asked) != many || !slices.IsSorted(asked) {
			t.Errorf("FirstError of %v = %d, asked %v, want %d", c.l, e, asked, c.want)
		}
	}
}

// P1: things of any kind.
func TestFirstErrorOfTexts(t *testing.T) {
	empty := func(_ int, text string) api.Errno {
		if text == "" {
			return api.ErrFew
		}
		return api.OK
	}
	if e, f := FirstError([]string{"a", "b"}, empty), FirstError([]string{"a", "", "b"}, empty); e != api.OK || f != api.ErrFew {
		t.Errorf("%d, %d", e, f)
	}
}

// S2: just the places of which it is so, by number, each one asked of once, in order, with the thing there.
func TestPlaces(t *testing.T) {
	for _, c := range []struct{ l, want []int }{
		{nil, nil},
		{[]int{}, nil},
		{[]int{1}, nil},
		{[]int{7}, []int{0}},
		{[]int{7, 1, 9, 8, 7}, []int{0, 2, 3, 4}},
		{[]int{1, 2, 3}, nil},
	} {
		var asked []int
		got := Places(c.l, func(place int, thing int) bool {
			if thing != c.l[place] {
				t.Errorf("place %d of %v: %d", place, c.l, thing)
			}
			asked = append(asked, place)
			return thing > 5
		})
		if !slices.Equal(got, c.want) || len(asked) != len(c.l) || !slices.IsSorted(asked) {
			t.Errorf("Places of %v = %v, asked %v, want %v", c.l, got, asked, c.want)
		}
	}
}

// S2: places of things of any kind, told by the place too.
func TestPlacesOfTexts(t *testing.T) {
	got := Places([]string{"a", "", "b", ""}, func(place int, text string) bool { return text == "" && place > 1 })
	if !slices.Equal(got, []int{3}) {
		t.Errorf("%v", got)
	}
}
