package may

import (
	"testing"

	"mirrorheal/api"
	"mirrorheal/array"
	"mirrorheal/harm"
	"mirrorheal/play"
)

// play.Do keeps every promise, so that Walk never tells false; these tests hand in doers that break one.

func write(n int, data string) api.Deed {
	return api.Deed{Kind: api.DeedWrite, N: n, Data: []byte(data)}
}

func swap(n, m int) api.Deed {
	return api.Deed{Kind: api.DeedSwap, N: n, M: m}
}

func deed(d api.Deed) api.Step           { return api.Step{Kind: api.StepDeed, Deed: d} }
func fall(many int, d api.Deed) api.Step { return api.Step{Kind: api.StepFall, N: many, Deed: d} }
func rot(place, at int) api.Step         { return api.Step{Kind: api.StepRot, N: place, M: at} }
func gone(disk int) api.Step             { return api.Step{Kind: api.StepGone, N: disk} }
func mended(s int) api.Step              { return api.Step{Kind: api.StepMend, N: s} }

// steps are some of each kind, right ones and wrong ones, that Walk does to the end.
func steps() []api.Step {
	return []api.Step{
		deed(write(4, "abcd")),
		fall(0, swap(4, 5)),
		fall(3, swap(4, 5)),
		deed(write(9, "abcd")),
		fall(3, write(4, "abc")),
		rot(4, 3),
		mended(1),
		{Kind: 6},
		gone(2),
		fall(1, write(8, "wxyz")),
		deed(swap(5, 3)),
	}
}

// from is a doer that does as play.Do does, and from step k on as other does.
func from(k int, other doer) doer {
	done := 0
	return func(a api.Array, s api.Step) (api.Array, api.Errno) {
		done++
		if done > k {
			return other(a, s)
		}
		return play.Do(a, s)
	}
}

// nothing does nothing, and tells that it did.
func nothing(a api.Array, s api.Step) (api.Array, api.Errno) { return a, api.OK }

// besides is a doer that does each step, and another one behind it.
func besides(other api.Step) doer {
	return func(a api.Array, s api.Step) (api.Array, api.Errno) {
		a, err := play.Do(a, s)
		a, _ = play.Do(a, other)
		return a, err
	}
}

// walksTo fails unless walk with this doer does as many of the steps as that, and tells that.
func walksTo(t *testing.T, l []api.Step, do doer, many int, may bool) {
	t.Helper()
	if n, ok := walk(l, do); n != many || ok != may {
		t.Errorf("walk of %v = %d, %v, want %d, %v", l, n, ok, many, may)
	}
}

func TestL1NothingBreaks(t *testing.T) {
	walksTo(t, steps(), play.Do, len(steps()), true)
	for k := range steps() {
		walksTo(t, steps(), from(k, play.Do), len(steps()), true)
	}
}

// What was answered must be there: a right deed that is not done may not be; a fall, and what changes no block, may.
func TestL1DeedThatIsNotDone(t *testing.T) {
	l := steps()
	for k, s := range l {
		if s.Kind == api.StepDeed && s.Deed.N < 9 {
			walksTo(t, l[:k+1], from(k, nothing), k, false)
		} else {
			walksTo(t, l[:k+1], from(k, nothing), k+1, true)
		}
	}
}

// A fall may leave the deed done or not, whatever its number of writes is: either is one of Lists, what is between them is not.
func TestL1FallEitherWay(t *testing.T) {
	done := func(a api.Array, s api.Step) (api.Array, api.Errno) { return array.Do(a, s.Deed) }
	half := func(a api.Array, s api.Step) (api.Array, api.Errno) { return array.Do(a, write(5, "abcd")) }
	for many := -1; many < 8; many++ {
		l := []api.Step{deed(write(4, "abcd")), fall(many, swap(4, 5))}
		walksTo(t, l, from(1, nothing), 2, true)
		walksTo(t, l, from(1, done), 2, true)
		walksTo(t, l, from(1, half), 1, false)
		walksTo(t, l, from(1, besides(deed(write(4, "zapp")))), 1, false)
		walksTo(t, l, from(1, besides(deed(write(0, "zapp")))), 1, false)
	}
}

// Nothing may be there that is not one of Lists: another block changes, of whatever step.
func TestL1AnotherBlockChanges(t *testing.T) {
	for k := range steps() {
		for n := range 9 {
			walksTo(t, steps(), from(k, besides(deed(write(n, "zapp")))), k, false)
		}
	}
}

// They are held against what was there just ahead of the step: nothing of older steps comes back, none is taken back.
func TestL1WhatWasThereAheadOfIt(t *testing.T) {
	back := func(a api.Array, s api.Step) (api.Array, api.Errno) { return array.New(), api.OK }
	l := steps()
	for k := 1; k < len(l); k++ {
		walksTo(t, l, from(k, back), k, false)
	}
	swapped := []api.Step{deed(write(4, "abcd")), fall(2, swap(4, 5)), mended(0)}
	undone := func(a api.Array, s api.Step) (api.Array, api.Errno) { return array.Do(a, swap(4, 5)) }
	walksTo(t, swapped, from(2, undone), 2, false)
	walksTo(t, swapped, from(3, undone), 3, true)
}

// Blocks that are the same by another deed may be: only what is there is asked, not how it came, nor what the step told.
func TestL1WhatIsThereIsAsked(t *testing.T) {
	other := func(a api.Array, s api.Step) (api.Array, api.Errno) {
		a, _ = array.Do(a, write(5, "abcd"))
		a, _ = array.Do(a, write(4, "\x00\x00\x00\x00"))
		return a, api.ErrLost
	}
	l := []api.Step{deed(write(4, "abcd")), deed(swap(4, 5)), gone(1)}
	walksTo(t, l[:2], from(1, other), 2, true)
	walksTo(t, l, from(1, other), 3, true)
}

// Too many cells that are none end it, and that comes first: true is told, whatever the blocks are, or if they have an error.
func TestL1EndsAheadOfBreaking(t *testing.T) {
	two := func(a api.Array, s api.Step) (api.Array, api.Errno) {
		a, _ = array.Do(a, write(0, "zapp"))
		a, _ = harm.Gone(a, 0)
		return harm.Gone(a, 1)
	}
	l := steps()
	for k := range l {
		walksTo(t, l, from(k, two), k, true)
	}
	// It ends ahead of the rot: this one is not done any more.
	again := []api.Step{gone(0), rot(0, 0), deed(write(4, "abcd"))}
	walksTo(t, again, from(1, besides(deed(write(4, "zapp")))), 1, true)
	walksTo(t, []api.Step{gone(0), rot(3, 8)}, from(1, besides(deed(write(4, "zapp")))), 1, false)
}

// What the step behind it breaks doesn't count, where it ended already; nor the other way round.
func TestL1TheFirstOneCounts(t *testing.T) {
	broken := besides(deed(write(0, "zapp")))
	walksTo(t, []api.Step{gone(0), gone(1), mended(0)}, from(2, broken), 1, true)
	walksTo(t, []api.Step{gone(0), mended(0), gone(1)}, from(1, broken), 1, false)
	walksTo(t, nil, broken, 0, true)
}
