package place

import (
	"slices"

	"errata/api"
)

// Run is places, so many times one behind the other.
type Run struct {
	Places []Place
	Times  int
}

// Fold is a stack in runs.
func Fold(l []Place) ([]Run, api.Errno) {
	if e := Check(l); e != api.OK {
		return nil, e
	}
	var runs []Run
	alone := false // whether the last run is places that stand once
	for len(l) > 0 {
		length, times := block(l)
		if times == 1 && alone {
			last := &runs[len(runs)-1]
			last.Places = append(last.Places, l[0])
		} else {
			runs = append(runs, Run{Places: slices.Clone(l[:length]), Times: times})
		}
		alone = times == 1
		l = l[length*times:]
	}
	return runs, api.OK
}

// block is what stands at the front of places: a block of that length, so many
// times; one place, once, if none stands there again and again.
func block(l []Place) (length, times int) {
	length, times = 1, 1
	for p := 1; p <= MaxPeriod && p <= len(l); p++ {
		// Of several that cover as much, the first one is kept: the shortest.
		if k := timesOf(l, p); k > 1 && p*k > length*times {
			length, times = p, k
		}
	}
	return length, times
}

// timesOf is how many times the first places, as many as length says, stand at
// the front of places, one block behind the other.
func timesOf(l []Place, length int) int {
	times := 1
blocks:
	for ; (times+1)*length <= len(l); times++ {
		for i := range length {
			if l[times*length+i] != l[i] {
				break blocks
			}
		}
	}
	return times
}

// Unfold is the stack that runs are.
func Unfold(l []Run) ([]Place, api.Errno) {
	for _, r := range l {
		if r.Times < 1 || len(r.Places) == 0 {
			return nil, api.ErrArg
		}
	}
	var places []Place
	for _, r := range l {
		// Parted rather than multiplied: the product may be past all ints.
		if r.Times > (MaxPlaces-len(places))/len(r.Places) {
			return nil, api.ErrStack
		}
		for range r.Times {
			places = append(places, r.Places...)
		}
	}
	if e := Check(places); e != api.OK {
		return nil, e
	}
	return places, api.OK
}
