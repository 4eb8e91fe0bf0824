package tests

import (
	"slices"
	"sync"
	"testing"

	"loop.example/g01159/impl"
)

// partyOf takes the People as their places and weights.
func partyOf(length, left, right, stride int, numbers ...int) impl.Party {
	return impl.Party{Plank: beamOf(length, left, right), People: rowOf(numbers...), Stride: stride}
}

func cloneParty(p impl.Party) impl.Party {
	p.People = slices.Clone(p.People)
	return p
}

func sameParty(p, q impl.Party) bool {
	return p.Plank == q.Plank && p.Stride == q.Stride && slices.Equal(p.People, q.People)
}

func noParty(p impl.Party) bool {
	return p.Plank == impl.Beam{} && p.Stride == 0 && len(p.People) == 0
}

// withPlaces returns the Party with its People at other places.
func withPlaces(p impl.Party, places []int) impl.Party {
	p = cloneParty(p)
	for i := range p.People {
		p.People[i].Place = places[i]
	}
	return p
}

func placesOf(p impl.Party) []int {
	var places []int
	for _, l := range p.People {
		places = append(places, l.Place)
	}
	return places
}

// longWay returns a Party that needs 41 moves to the places 6, 11 and 1, though nine would be enough if all moves were safe.
func longWay() impl.Party { return partyOf(12, 5, 6, 2, 6, 7, 1, 12, 9, 18) }

// knownParties lists those of one, of no move at all, with Strides beyond the Plank, and those at the limits.
func knownParties() []impl.Party {
	return []impl.Party{
		partyOf(1, 0, 1, 1, 0, 1), partyOf(1, 0, 1, 4, 1, 99), partyOf(3, 0, 3, 4, 2, 1), partyOf(3, 1, 2, 4, 0, 1, 3, 1), partyOf(2, 0, 1, 2, 0, 1), partyOf(2, 0, 1, 2, 1, 1),
		partyOf(4, 0, 4, 4, 0, 1, 4, 1), partyOf(4, 0, 4, 2, 0, 1, 4, 1), partyOf(4, 0, 4, 2, 0, 1, 3, 1), partyOf(4, 1, 3, 1, 1, 1, 3, 1), partyOf(6, 2, 4, 1, 2, 1, 4, 1), partyOf(6, 2, 4, 2, 2, 1, 4, 1),
		partyOf(12, 0, 12, 1, 0, 99, 12, 99, 6, 99), partyOf(12, 0, 12, 4, 0, 1, 4, 2, 8, 3), partyOf(12, 0, 12, 3, 1, 1, 4, 1, 5, 1), partyOf(12, 11, 12, 1, 12, 1, 12, 99), partyOf(12, 0, 1, 1, 0, 99, 12, 1),
		partyOf(12, 5, 6, 1, 5, 1, 6, 1, 6, 1), partyOf(12, 5, 7, 1, 6, 1, 6, 1, 6, 99), partyOf(12, 5, 6, 2, 0, 2, 1, 9, 11, 10), partyOf(12, 5, 6, 3, 6, 40), partyOf(12, 3, 4, 2, 12, 5, 2, 7, 1, 11),
		partyOf(12, 4, 5, 2, 0, 2, 4, 7, 6, 8), partyOf(5, 2, 3, 1, 5, 2, 0, 3), partyOf(5, 2, 3, 3, 2, 5, 3, 5, 2, 1), partyOf(7, 3, 4, 1, 7, 1, 3, 98, 0, 1), longWay(),
	}
}

// manyParties lists the known ones and others of all sizes, always the same ones.
func manyParties(count int) []impl.Party {
	next := numbersFrom(11)
	parties := knownParties()
	for len(parties) < count {
		length := 1 + next(12)
		left := next(length)
		right := min(length, left+1+next(3))
		p := partyOf(length, left, right, 1+next([]int{2, 4}[next(2)]))
		heaviest := []int{1, 4, 20, 99}[next(4)]
		size := 1 + len(parties)%3
		if size == 3 && len(parties)%2 == 0 {
			p, length, heaviest = narrowPlank(next), impl.MaxPlank, 20
		}
		for range size {
			p.People = append(p.People, impl.Load{Place: next(length + 1), Weight: 1 + next(heaviest)})
		}
		if restsByDefinition(p.Plank, p.People) {
			parties = append(parties, p)
		}
	}
	return parties
}

// narrowPlank has two supports that are near to each other in the middle of it, so that People get in each other's way.
func narrowPlank(next func(int) int) impl.Party {
	left := 3 + next(5)
	return partyOf(impl.MaxPlank, left, left+1, 2)
}

// badPeople are no rows, rows without Loads or with too many of them, and those that do not rest, or are not on the Plank, from 2 to 4 of 0 to 6.
func badPeople() [][]impl.Load {
	return append(badRows(), nil, []impl.Load{}, repeatLoad(4, 3, 1), repeatLoad(impl.MaxLoads, 3, 1), rowOf(1, 1), rowOf(5, 99), rowOf(0, 99, 6, 49), rowOf(0, 49, 6, 99), rowOf(7, 1, 2, 99), rowOf(0, 1, 1, 1, 4, 1),
		rowOf(3, 1, 6, 1, 5, 1), rowOf(3, 1, 3, 0), rowOf(3, 1, -1, 1))
}

func badStrides() []int { return append(hugeNumbers(), 0, -1, 5, 6, -4, 12) }

func badParties() []impl.Party {
	parties := []impl.Party{{}, {Stride: 1}, partyOf(13, 0, 13, 1, 5, 1), partyOf(13, 5, 7, 1, 6, 1), partyOf(60, 0, 60, 4, 30, 1), partyOf(6, 3, 3, 1, 3, 1), partyOf(6, 4, 2, 1, 3, 1)}
	for _, b := range badBeams() {
		parties = append(parties, impl.Party{Plank: b, People: rowOf(5, 1), Stride: 1}, impl.Party{Plank: b, People: rowOf(0, 1), Stride: 1}, impl.Party{Plank: b, Stride: 2})
	}
	for _, people := range badPeople() {
		parties = append(parties, impl.Party{Plank: beamOf(6, 2, 4), People: people, Stride: 1})
	}
	for _, stride := range badStrides() {
		parties = append(parties, partyOf(6, 2, 4, stride, 3, 1), partyOf(12, 0, 12, stride, 0, 1, 12, 1, 6, 1))
	}
	return parties
}

// badPlaceLists are no lists of a place on the Plank for each of the People.
func badPlaceLists(p impl.Party) [][]int {
	places := placesOf(p)
	lists := [][]int{nil, {}, places[1:], append(slices.Clone(places), 0), append(slices.Clone(places), places...), slices.Concat(places, []int{0, 0, 0}), make([]int, 1<<16)}
	for i := range places {
		for _, wrong := range append(hugeNumbers(), -1, p.Plank.Length+1, -p.Stride, 13, 61, places[i]-16, places[i]+16) {
			list := slices.Clone(places)
			list[i] = wrong
			lists = append(lists, list)
		}
	}
	return slices.DeleteFunc(lists, func(list []int) bool { return len(list) == len(places) && slices.Equal(list, places) })
}

// The definitions of the chapter, told once more.

// state is a list of places as the key of a map.
type state [3]int

func stateOf(places []int) state {
	s := state{-1, -1, -1}
	copy(s[:], places)
	return s
}

// journey is a Party with all lists of places on its Plank, those of them at which it rests, and the least number of safe moves to those to which it can come.
type journey struct {
	party   impl.Party
	lists   [][]int
	resting [][]int
	steps   map[state]int
}

func journeyOf(p impl.Party) journey {
	j := journey{party: p, lists: [][]int{{}}}
	for range p.People {
		var longer [][]int
		for _, list := range j.lists {
			for place := range p.Plank.Length + 1 {
				longer = append(longer, append(slices.Clone(list), place))
			}
		}
		j.lists = longer
	}
	for _, list := range j.lists {
		if restsByDefinition(p.Plank, withPlaces(p, list).People) {
			j.resting = append(j.resting, list)
		}
	}
	j.steps = j.stepsFrom(placesOf(p))
	return j
}

// stepsFrom lessens the steps to all places by those to their neighbors, until no more of them becomes less.
func (j journey) stepsFrom(places []int) map[state]int {
	const far = 1 << 30
	steps := map[state]int{}
	for _, list := range j.resting {
		steps[stateOf(list)] = far
	}
	steps[stateOf(places)] = 0
	for again := true; again; {
		again = false
		for _, list := range j.resting {
			for i := range list {
				for _, by := range []int{-j.party.Stride, j.party.Stride} {
					neighbor := stateOf(list)
					neighbor[i] += by
					if near, rests := steps[neighbor]; rests && near+1 < steps[stateOf(list)] {
						steps[stateOf(list)], again = near+1, true
					}
				}
			}
		}
	}
	for s, count := range steps {
		if count == far {
			delete(steps, s)
		}
	}
	return steps
}

// manyJourneys are those of manyParties.
var manyJourneys = sync.OnceValue(func() []journey {
	var journeys []journey
	for _, p := range manyParties(170) {
		journeys = append(journeys, journeyOf(p))
	}
	return journeys
})

// someLists gives at most so many of some lists, from everywhere among them.
func someLists(lists [][]int, count int) [][]int {
	var some [][]int
	for k := 0; k < len(lists); k += max(1, len(lists)/count) {
		some = append(some, lists[k])
	}
	return some
}

// movesByDefinition tries all moves to a place on the Plank, in order.
func movesByDefinition(p impl.Party) [][2]int {
	var moves [][2]int
	for i := range p.People {
		for place := 0; place <= p.Plank.Length; place++ {
			if isSafeByDefinition(p, [2]int{i, place}) {
				moves = append(moves, [2]int{i, place})
			}
		}
	}
	return moves
}

func isSafeByDefinition(p impl.Party, move [2]int) bool {
	i, place := move[0], move[1]
	if i < 0 || i >= len(p.People) || place < 0 || place > p.Plank.Length {
		return false
	}
	if far := place - p.People[i].Place; far != p.Stride && far != -p.Stride {
		return false
	}
	return restsByDefinition(p.Plank, movedByDefinition(p, move).People)
}

func movedByDefinition(p impl.Party, move [2]int) impl.Party {
	p = cloneParty(p)
	p.People[move[0]].Place = move[1]
	return p
}

// walkByDefinition returns the Party behind a walk, if it is one.
func walkByDefinition(p impl.Party, walk [][2]int) (impl.Party, bool) {
	if len(walk) > 60 {
		return impl.Party{}, false
	}
	for _, move := range walk {
		if !isSafeByDefinition(p, move) {
			return impl.Party{}, false
		}
		p = movedByDefinition(p, move)
	}
	return p, true
}

// firstByDescent goes to the goal by the first move that is a step nearer to it.
func (j journey) firstByDescent(goal []int) [][2]int {
	left := j.stepsFrom(goal)
	p := j.party
	var walk [][2]int
	for !slices.Equal(placesOf(p), goal) {
		for _, move := range movesByDefinition(p) {
			next := movedByDefinition(p, move)
			if left[stateOf(placesOf(next))] < left[stateOf(placesOf(p))] {
				walk, p = append(walk, move), next
				break
			}
		}
	}
	return walk
}

// firstOfAll tries all lists of so many moves, in order, whatever is nearer.
func firstOfAll(p impl.Party, goal []int, count int) ([][2]int, bool) {
	if count == 0 {
		return nil, slices.Equal(placesOf(p), goal)
	}
	for _, move := range movesByDefinition(p) {
		if rest, ok := firstOfAll(movedByDefinition(p, move), goal, count-1); ok {
			return append([][2]int{move}, rest...), true
		}
	}
	return nil, false
}

func TestIsParty(t *testing.T) {
	for length := -1; length <= 14; length++ {
		for left := -1; left <= 14; left++ {
			for right := -1; right <= 14; right++ {
				isPlank := length >= 1 && length <= 12 && left >= 0 && left < right && right <= length
				for place := -1; place <= 14; place++ {
					want := isPlank && place >= left && place <= right
					if is := impl.IsParty(partyOf(length, left, right, 1, place, 5)); is != want {
						t.Fatalf("IsParty of one at %d on %d, %d, %d is %v", place, length, left, right, is)
					}
					// The one who is heavier decides.
					want = isPlank && place >= 0 && place <= length && 60*left <= 59*left+place && 59*left+place <= 60*right
					if is := impl.IsParty(partyOf(length, left, right, 4, left, 59, place, 1)); is != want && left >= 0 {
						t.Fatalf("IsParty of two at %d and %d on %d, %d, %d is %v", left, place, length, left, right, is)
					}
				}
			}
		}
	}
	for _, p := range manyParties(400) {
		for stride := -1; stride <= 7; stride++ {
			p.Stride = stride
			if is := impl.IsParty(p); is != (stride >= 1 && stride <= 4) {
				t.Errorf("IsParty(%v) is %v", p, is)
			}
		}
	}
	for n := 0; n <= 13; n++ {
		p := impl.Party{Plank: beamOf(12, 0, 12), People: repeatLoad(n, 6, 99), Stride: 4}
		if is := impl.IsParty(p); is != (n >= 1 && n <= 3) {
			t.Errorf("IsParty of %d people is %v", n, is)
		}
	}
	for _, p := range badParties() {
		if impl.IsParty(p) {
			t.Errorf("IsParty(%v) is true", p)
		}
	}
}

// A Party rests, or does not, by each of its lists of places.
func TestIsPartyWhereItRests(t *testing.T) {
	for _, j := range manyJourneys() {
		rests := map[state]bool{}
		for _, list := range j.resting {
			rests[stateOf(list)] = true
		}
		for _, list := range j.lists {
			if is := impl.IsParty(withPlaces(j.party, list)); is != rests[stateOf(list)] {
				t.Errorf("IsParty(%v) is %v", withPlaces(j.party, list), is)
			}
		}
	}
}

// The parties would not test much if all of them could come everywhere, or nowhere.
func TestPartiesDiffer(t *testing.T) {
	var nowhere, everywhere, somewhere, around, apart int
	for _, j := range manyJourneys() {
		asManyAsTheyMustGo := true
		for s, steps := range j.steps {
			asManyAsTheyMustGo = asManyAsTheyMustGo && steps*j.party.Stride == distanceOf(j.party, s)
		}
		around += asInt(!asManyAsTheyMustGo)
		nowhere += asInt(len(j.steps) == 1)
		everywhere += asInt(len(j.steps) == len(j.resting))
		somewhere += asInt(len(j.steps) > 1 && len(j.steps) < len(j.resting))
		// There are places where the People rest and that are the same modulo the Stride, but they cannot come there.
		apart += asInt(slices.ContainsFunc(j.resting, func(list []int) bool {
			_, comes := j.steps[stateOf(list)]
			return !comes && sameModulo(j.party, list)
		}))
	}
	if min(nowhere, everywhere, somewhere, around, apart) < 8 {
		t.Errorf("parties that come nowhere %d, everywhere %d, somewhere %d, by going around %d, and not to the same modulo the Stride %d", nowhere, everywhere, somewhere, around, apart)
	}
}

// distanceOf returns how far all People together have to go.
func distanceOf(p impl.Party, s state) int {
	sum := 0
	for i, l := range p.People {
		sum += max(l.Place-s[i], s[i]-l.Place)
	}
	return sum
}

func sameModulo(p impl.Party, places []int) bool {
	for i, l := range p.People {
		if l.Place%p.Stride != places[i]%p.Stride {
			return false
		}
	}
	return true
}

func TestSafeMovesAndMoveOne(t *testing.T) {
	for _, j := range manyJourneys() {
		for _, list := range someLists(j.resting, 12) {
			p := withPlaces(j.party, list)
			want := movesByDefinition(p)
			moves, ok := impl.SafeMoves(p)
			if !ok || !slices.Equal(moves, want) {
				t.Errorf("SafeMoves(%v) = %v, %v; want %v", p, moves, ok, want)
			}
			for i := -1; i <= len(p.People)+1; i++ {
				for place := -5; place <= p.Plank.Length+5; place++ {
					expectMove(t, p, [2]int{i, place}, slices.Contains(want, [2]int{i, place}))
				}
			}
		}
	}
	for _, p := range knownParties() {
		for _, n := range append(hugeNumbers(), 60, 61, -60) {
			expectMove(t, p, [2]int{0, n}, false)
			expectMove(t, p, [2]int{n, p.People[0].Place + p.Stride}, false)
			expectMove(t, p, [2]int{n, n}, false)
		}
	}
}

func expectMove(t *testing.T, p impl.Party, move [2]int, safe bool) {
	t.Helper()
	var want impl.Party
	if safe {
		want = movedByDefinition(p, move)
	}
	next, ok := impl.MoveOne(p, move)
	if ok != safe || !sameParty(next, want) {
		t.Errorf("MoveOne(%v, %v) = %v, %v; want %v, %v", p, move, next, ok, want, safe)
	}
}

func expectWalk(t *testing.T, p impl.Party, walk [][2]int) {
	t.Helper()
	want, wantOK := walkByDefinition(p, walk)
	end, ok := impl.WalkTo(p, walk)
	if ok != wantOK || !sameParty(end, want) {
		t.Errorf("WalkTo(%v, %v) = %v, %v; want %v, %v", p, walk[:min(len(walk), 70)], end, ok, want, wantOK)
	}
	if is, isOK := impl.IsWalkOn(p, walk); !isOK || is != wantOK {
		t.Errorf("IsWalkOn(%v, %v) = %v, %v; want %v", p, walk[:min(len(walk), 70)], is, isOK, wantOK)
	}
}

// walkAround makes a list of moves that are safe, as far as there are some.
func walkAround(p impl.Party, next func(int) int, count int) [][2]int {
	var walk [][2]int
	for len(walk) < count {
		moves := movesByDefinition(p)
		if len(moves) == 0 {
			break
		}
		walk = append(walk, moves[next(len(moves))])
		p = movedByDefinition(p, walk[len(walk)-1])
	}
	return walk
}

func TestWalks(t *testing.T) {
	next := numbersFrom(110)
	for k, j := range manyJourneys() {
		p := j.party
		expectWalk(t, p, nil)
		expectWalk(t, p, [][2]int{})
		for _, count := range []int{1, 2, 3, 7, 20, 59, 60, 61, 62} {
			walk := walkAround(p, next, count)
			expectWalk(t, p, walk)
			if len(walk) == 0 {
				continue
			}
			// With one move left out, made twice, or another one.
			at := next(len(walk))
			expectWalk(t, p, slices.Delete(slices.Clone(walk), at, at+1))
			expectWalk(t, p, slices.Insert(slices.Clone(walk), at, walk[at]))
			other := slices.Clone(walk)
			other[at][k%2] += []int{-1, 1, p.Stride, -2 * p.Stride, 1 << 40}[next(5)]
			expectWalk(t, p, other)
			last := slices.Clone(walk)
			last[len(last)-1] = [2]int{next(5) - 1, next(16) - 2}
			expectWalk(t, p, last)
		}
		for _, n := range hugeNumbers() {
			expectWalk(t, p, [][2]int{{n, n}})
			expectWalk(t, p, [][2]int{{0, n}, {n, 0}})
		}
		expectWalk(t, p, make([][2]int, 1<<16))
	}
}

// At most MaxMoves moves are a walk.
func TestLongestWalk(t *testing.T) {
	p := partyOf(1, 0, 1, 1, 0, 1)
	var walk [][2]int
	for k := range 122 {
		is, ok := impl.IsWalkOn(p, walk)
		end, endOK := impl.WalkTo(p, walk)
		if want := k <= 60; !ok || is != want || endOK != want || want && end.People[0].Place != k%2 || !want && !noParty(end) {
			t.Errorf("%d moves: %v, %v, %v, %v", k, is, ok, end, endOK)
		}
		walk = append(walk, [2]int{0, (k + 1) % 2})
	}
}

// expectSteps compares StepsTo and FirstWalkTo with the steps to some places, -1 if there are none.
func expectSteps(t *testing.T, p impl.Party, places []int, want int) [][2]int {
	t.Helper()
	steps, ok := impl.StepsTo(p, places)
	if ok != (want >= 0) || steps != max(want, 0) {
		t.Errorf("StepsTo(%v, %v) = %d, %v; want %d", p, places[:min(len(places), 9)], steps, ok, want)
	}
	walk, ok := impl.FirstWalkTo(p, places)
	if ok != (want >= 0 && want <= 60) || len(walk) != max(want, 0) {
		t.Errorf("FirstWalkTo(%v, %v) = %v, %v; want %d moves", p, places[:min(len(places), 9)], walk, ok, want)
	}
	if end, isWalk := walkByDefinition(p, walk); ok && (!isWalk || !slices.Equal(placesOf(end), places)) {
		t.Errorf("FirstWalkTo(%v, %v) = %v leads to %v, %v", p, places[:min(len(places), 9)], walk, end, isWalk)
	}
	return walk
}

func TestStepsTo(t *testing.T) {
	for _, j := range manyJourneys() {
		// To all places of short Planks, and to some of the others, whether the Party rests there or not.
		for _, list := range slices.Concat(someLists(j.lists, 90), someLists(j.resting, 30), [][]int{placesOf(j.party)}) {
			want, comes := j.steps[stateOf(list)]
			if !comes {
				want = -1
			}
			expectSteps(t, j.party, list, want)
		}
	}
}

func TestStepsToOtherLists(t *testing.T) {
	for _, p := range knownParties() {
		for _, list := range badPlaceLists(p) {
			expectSteps(t, p, list, -1)
		}
	}
	// All of these are at 0, however many they are.
	for n := 1; n <= 3; n++ {
		p := impl.Party{Plank: beamOf(2, 0, 1), People: repeatLoad(n, 0, 1), Stride: 1}
		for size := range 8 {
			expectSteps(t, p, make([]int, size), asInt(size == n)-1)
		}
	}
}

func TestFirstWalkTo(t *testing.T) {
	for _, j := range manyJourneys() {
		for _, list := range someLists(j.resting, 25) {
			count, comes := j.steps[stateOf(list)]
			if !comes {
				continue
			}
			want := j.firstByDescent(list)
			if count <= 4 {
				// The definitions agree where all lists of moves can be tried.
				if first, ok := firstOfAll(j.party, list, count); !ok || !slices.Equal(first, want) {
					t.Fatalf("the definitions differ for %v to %v: %v, %v", j.party, list, first, want)
				}
			}
			if walk := expectSteps(t, j.party, list, count); !slices.Equal(walk, want) {
				t.Errorf("FirstWalkTo(%v, %v) = %v; want %v", j.party, list, walk, want)
			}
		}
	}
}

// Promise 11: with the Stride 1, a Party can come to all places at which it rests, in as many moves as all People together have to go.
func TestStrideOneComesEverywhere(t *testing.T) {
	for k, j := range manyJourneys() {
		p := j.party
		p.Stride = 1
		count, ok := impl.CountPlaces(p)
		all, allOK := impl.RestingPlaces(p)
		if !ok || !allOK || count != len(j.resting) || all != count {
			t.Errorf("%v comes to %d, %v, of %d, %v; want %d", p, count, ok, all, allOK, len(j.resting))
		}
		lists := someLists(j.resting, 60)
		if k < 12 {
			lists = j.resting[:min(len(j.resting), 300)]
		}
		for _, list := range lists {
			want := distanceOf(p, stateOf(list))
			if walk := expectSteps(t, p, list, want); want == 0 && len(walk) != 0 {
				t.Errorf("%v walks to where it is by %v", p, walk)
			}
		}
	}
}

func TestCountPlacesAndRestingPlaces(t *testing.T) {
	for _, j := range manyJourneys() {
		count, ok := impl.CountPlaces(j.party)
		all, allOK := impl.RestingPlaces(j.party)
		if !ok || !allOK || count != len(j.steps) || all != len(j.resting) || all < count {
			t.Errorf("%v comes to %d, %v, of %d, %v; want %d of %d", j.party, count, ok, all, allOK, len(j.steps), len(j.resting))
		}
	}
}

func TestFarthestOut(t *testing.T) {
	for _, j := range manyJourneys() {
		for i := range j.party.People {
			wantLeast, wantGreatest := 99, -1
			for s := range j.steps {
				wantLeast, wantGreatest = min(wantLeast, s[i]), max(wantGreatest, s[i])
			}
			least, greatest, ok := impl.FarthestOut(j.party, i)
			if !ok || least != wantLeast || greatest != wantGreatest {
				t.Errorf("FarthestOut(%v, %d) = %d, %d, %v; want %d, %d", j.party, i, least, greatest, ok, wantLeast, wantGreatest)
			}
		}
		for _, i := range append(hugeNumbers(), -1, len(j.party.People), 3, 4) {
			if least, greatest, ok := impl.FarthestOut(j.party, i); ok || least != 0 || greatest != 0 {
				t.Errorf("FarthestOut(%v, %d) = %d, %d, %v", j.party, i, least, greatest, ok)
			}
		}
	}
}

func TestMeetSteps(t *testing.T) {
	never, ties := 0, 0
	for _, j := range manyJourneys() {
		want, wantPlace, found := 0, 0, false
		for place := j.party.Plank.Length; place >= 0; place-- {
			steps, comes := j.steps[stateOf(slices.Repeat([]int{place}, len(j.party.People)))]
			if comes && (!found || steps <= want) {
				ties += asInt(found && steps == want)
				want, wantPlace, found = steps, place, true
			}
		}
		never += asInt(!found)
		steps, place, ok := impl.MeetSteps(j.party)
		if ok != found || steps != want || place != wantPlace {
			t.Errorf("MeetSteps(%v) = %d, %d, %v; want %d, %d, %v", j.party, steps, place, ok, want, wantPlace, found)
		}
	}
	if never < 10 || ties < 10 {
		t.Errorf("%d parties never meet, and %d may meet at two places", never, ties)
	}
}

// The guarantee: a Party comes back in as many moves, and the places of each of the People are the same modulo the Stride.
func TestPartiesComeBack(t *testing.T) {
	for _, j := range manyJourneys() {
		count, _ := impl.CountPlaces(j.party)
		for _, list := range someLists(j.resting, 25) {
			steps, ok := impl.StepsTo(j.party, list)
			away := withPlaces(j.party, list)
			back, backOK := impl.StepsTo(away, placesOf(j.party))
			if ok != backOK || steps != back {
				t.Errorf("%v comes to %v in %d, %v, and back in %d, %v", j.party, list, steps, ok, back, backOK)
			}
			if ok && !sameModulo(j.party, list) {
				t.Errorf("%v comes to %v", j.party, list)
			}
			if others, _ := impl.CountPlaces(away); ok && others != count {
				t.Errorf("%v comes to %d lists of places, and from %v to %d", j.party, count, list, others)
			}
		}
		for s := range j.steps {
			if !sameModulo(j.party, s[:len(j.party.People)]) {
				t.Fatalf("by the definition, %v comes to %v", j.party, s)
			}
		}
	}
}

// knownWalks is what the functions tell of a Party, -1 where they fail; out has what FarthestOut tells of each of the People.
type knownWalks struct {
	p               impl.Party
	moves           [][2]int
	count, all      int
	meet, meetingAt int
	out             [][2]int
	goal            []int
	steps           int
	walk            [][2]int
}

func TestKnownWalks(t *testing.T) {
	cases := []knownWalks{
		// One alone, who rests between the supports only.
		{p: partyOf(1, 0, 1, 1, 0, 1), moves: [][2]int{{0, 1}}, count: 2, all: 2, meet: 0, meetingAt: 0, out: [][2]int{{0, 1}}, goal: []int{1}, steps: 1, walk: [][2]int{{0, 1}}},
		{p: partyOf(12, 5, 8, 1, 7, 40), moves: [][2]int{{0, 6}, {0, 8}}, count: 4, all: 4, meet: 0, meetingAt: 7, out: [][2]int{{5, 8}}, goal: []int{5}, steps: 2, walk: [][2]int{{0, 6}, {0, 5}}},
		{p: partyOf(12, 5, 8, 2, 7, 40), moves: [][2]int{{0, 5}}, count: 2, all: 4, meet: 0, meetingAt: 7, out: [][2]int{{5, 7}}, goal: []int{8}, steps: -1},
		// No move at all: the Stride is beyond the Plank, or what it leads to does not rest.
		{p: partyOf(3, 0, 3, 4, 2, 1), count: 1, all: 4, meet: 0, meetingAt: 2, out: [][2]int{{2, 2}}, goal: []int{2}, steps: 0},
		{p: partyOf(3, 0, 3, 4, 2, 1), count: 1, all: 4, meet: 0, meetingAt: 2, out: [][2]int{{2, 2}}, goal: []int{1}, steps: -1},
		{p: partyOf(12, 5, 6, 2, 5, 9), count: 1, all: 2, meet: 0, meetingAt: 5, out: [][2]int{{5, 5}}, goal: []int{5}, steps: 0},
		{p: partyOf(3, 1, 2, 3, 1, 1, 2, 1), count: 1, all: 10, meet: -1, out: [][2]int{{1, 1}, {2, 2}}, goal: []int{2, 1}, steps: -1},
		// Two of the same Weight: the sum of their places is in 4..8.
		{p: partyOf(6, 2, 4, 1, 2, 1, 4, 1), moves: [][2]int{{0, 1}, {0, 3}, {1, 3}, {1, 5}}, count: 29, all: 29, meet: 2, meetingAt: 2, out: [][2]int{{0, 6}, {0, 6}}, goal: []int{0, 6}, steps: 4, walk: [][2]int{{0, 1}, {0, 0}, {1, 5}, {1, 6}}},
		{p: partyOf(6, 2, 4, 2, 2, 1, 4, 1), moves: [][2]int{{0, 0}, {0, 4}, {1, 2}, {1, 6}}, count: 10, all: 29, meet: 1, meetingAt: 2, out: [][2]int{{0, 6}, {0, 6}}, goal: []int{6, 0}, steps: 4, walk: [][2]int{{0, 4}, {1, 2}, {0, 6}, {1, 0}}},
		// They never meet, as they are not the same modulo the Stride.
		{p: partyOf(4, 0, 4, 2, 0, 1, 3, 1), moves: [][2]int{{0, 2}, {1, 1}}, count: 6, all: 25, meet: -1, out: [][2]int{{0, 4}, {1, 3}}, goal: []int{4, 1}, steps: 3, walk: [][2]int{{0, 2}, {0, 4}, {1, 1}}},
		// They may meet anywhere between, and the least place is taken.
		{p: partyOf(4, 0, 4, 1, 0, 1, 4, 1), moves: [][2]int{{0, 1}, {1, 3}}, count: 25, all: 25, meet: 4, meetingAt: 0, out: [][2]int{{0, 4}, {0, 4}}, goal: []int{4, 0}, steps: 8, walk: [][2]int{{0, 1}, {0, 2}, {0, 3}, {0, 4}, {1, 3}, {1, 2}, {1, 1}, {1, 0}}},
		{p: partyOf(4, 0, 4, 4, 0, 1, 4, 1), moves: [][2]int{{0, 4}, {1, 0}}, count: 4, all: 25, meet: 1, meetingAt: 0, out: [][2]int{{0, 4}, {0, 4}}, goal: []int{4, 0}, steps: 2, walk: [][2]int{{0, 4}, {1, 0}}},
	}
	for _, c := range cases {
		expectKnownWalks(t, c)
	}
}

func expectKnownWalks(t *testing.T, c knownWalks) {
	t.Helper()
	moves, _ := impl.SafeMoves(c.p)
	count, _ := impl.CountPlaces(c.p)
	all, _ := impl.RestingPlaces(c.p)
	meet, meetingAt, ok := impl.MeetSteps(c.p)
	if !ok {
		meet = -1
	}
	if !slices.Equal(moves, c.moves) || count != c.count || all != c.all || meet != c.meet || meetingAt != c.meetingAt {
		t.Errorf("%v has the moves %v, comes to %d of %d, and meets in %d at %d; want %+v", c.p, moves, count, all, meet, meetingAt, c)
	}
	for i, want := range c.out {
		if least, greatest, ok := impl.FarthestOut(c.p, i); !ok || [2]int{least, greatest} != want {
			t.Errorf("FarthestOut(%v, %d) = %d, %d, %v; want %v", c.p, i, least, greatest, ok, want)
		}
	}
	if walk := expectSteps(t, c.p, c.goal, c.steps); !slices.Equal(walk, c.walk) {
		t.Errorf("FirstWalkTo(%v, %v) = %v; want %v", c.p, c.goal, walk, c.walk)
	}
}

// Where the People are in each other's way, the shortest walk is much longer than the way to the places.
func TestLongWay(t *testing.T) {
	p := longWay()
	goal := []int{6, 11, 1}
	walk := expectSteps(t, p, goal, 41)
	if want := journeyOf(p).firstByDescent(goal); !slices.Equal(walk, want) {
		t.Errorf("FirstWalkTo(%v, %v) = %v; want %v", p, goal, walk, want)
	}
	p.Stride = 1
	expectSteps(t, p, goal, 18)
}

// partyCall is one call of a function of this chapter: what it returns, as one value each way.
type partyCall struct {
	name    string
	party   impl.Party
	moves   [][2]int
	numbers []int
	is      bool
	ok      bool
}

func (c partyCall) zero() bool {
	return noParty(c.party) && len(c.moves) == 0 && !c.is && !slices.ContainsFunc(c.numbers, func(n int) bool { return n != 0 })
}

// aloneCalls calls all functions that have a Party only, and FarthestOut.
func aloneCalls(p impl.Party, i int) []partyCall {
	moves, movesOK := impl.SafeMoves(p)
	count, countOK := impl.CountPlaces(p)
	all, allOK := impl.RestingPlaces(p)
	meet, place, meetOK := impl.MeetSteps(p)
	least, greatest, outOK := impl.FarthestOut(p, i)
	return []partyCall{
		{name: "IsParty", ok: impl.IsParty(p)}, {name: "SafeMoves", moves: moves, ok: movesOK}, {name: "CountPlaces", numbers: []int{count}, ok: countOK},
		{name: "RestingPlaces", numbers: []int{all}, ok: allOK}, {name: "MeetSteps", numbers: []int{meet, place}, ok: meetOK}, {name: "FarthestOut", numbers: []int{least, greatest}, ok: outOK},
	}
}

// walkCalls calls all functions that have moves.
func walkCalls(p impl.Party, walk [][2]int) []partyCall {
	is, isOK := impl.IsWalkOn(p, walk)
	end, endOK := impl.WalkTo(p, walk)
	calls := []partyCall{{name: "IsWalkOn", is: is, ok: isOK}, {name: "WalkTo", party: end, ok: endOK}}
	for _, move := range slices.Concat(walk[:min(len(walk), 2)], [][2]int{{0, 0}, {0, 3}}) {
		next, ok := impl.MoveOne(p, move)
		calls = append(calls, partyCall{name: "MoveOne", party: next, ok: ok})
	}
	return calls
}

// goalCalls calls all functions that have places to come to.
func goalCalls(p impl.Party, places []int) []partyCall {
	steps, stepsOK := impl.StepsTo(p, places)
	walk, walkOK := impl.FirstWalkTo(p, places)
	return []partyCall{{name: "StepsTo", numbers: []int{steps}, ok: stepsOK}, {name: "FirstWalkTo", moves: walk, ok: walkOK}}
}

func partyCalls(p impl.Party, i int, walk [][2]int, places []int) []partyCall {
	return slices.Concat(aloneCalls(p, i), walkCalls(p, walk), goalCalls(p, places))
}

func samePartyCalls(x, y []partyCall) bool {
	return slices.EqualFunc(x, y, func(c, d partyCall) bool {
		return c.name == d.name && sameParty(c.party, d.party) && slices.Equal(c.moves, d.moves) && slices.Equal(c.numbers, d.numbers) && c.is == d.is && c.ok == d.ok
	})
}

func expectPartyCallsFail(t *testing.T, with any, calls ...partyCall) {
	t.Helper()
	for _, c := range calls {
		if c.ok || !c.zero() {
			t.Errorf("%s with %v: %+v", c.name, with, c)
		}
	}
}

func TestFunctionsFailWithoutAParty(t *testing.T) {
	for _, p := range badParties() {
		first := p
		first.People = p.People[:min(len(p.People), 5)]
		for i := range max(1, len(first.People)) {
			expectPartyCallsFail(t, first, aloneCalls(p, i)...)
		}
		// Also with no moves, and with the places where the People are.
		for _, walk := range [][][2]int{nil, {}, {{0, 3}}, {{0, 5 + p.Stride}}, {{1, 3}, {0, 2}}} {
			expectPartyCallsFail(t, first, walkCalls(p, walk)...)
		}
		for _, places := range [][]int{nil, placesOf(p), {3}, {3, 3}, {3, 3, 3}, {3, 3, 3, 3}} {
			expectPartyCallsFail(t, first, goalCalls(p, places)...)
		}
	}
}

func scribblePartyCall(c partyCall) {
	moves := c.moves[:cap(c.moves)]
	for i := range moves {
		moves[i] = [2]int{-7, -7}
	}
	people := c.party.People[:cap(c.party.People)]
	for i := range people {
		people[i] = impl.Load{Place: -7, Weight: -7}
	}
}

// Promise 13: results for all arguments, the same ones again, and the arguments as they were, also beyond their length.
func TestPartyFunctionsReturnAndLeaveTheirArguments(t *testing.T) {
	next := numbersFrom(111)
	parties := slices.Concat(manyParties(90), badParties())
	for k, p := range parties {
		rests := impl.IsParty(p)
		walks := [][][2]int{nil, {{k, -k}}, {{0, 3}, {1, 4}, {9, 9}}}
		places := [][]int{placesOf(p), nil, {k % 13, 6, 5}, {0}, {3, 1 << 40}}
		if rests {
			walks = append(walks, walkAround(p, next, 1), walkAround(p, next, 9), walkAround(p, next, 60))
			end, _ := walkByDefinition(p, walks[4])
			places = append(places, placesOf(end))
		}
		for n, walk := range walks {
			list, i := places[n%len(places)], append(hugeNumbers(), 0, 1, 2)[(k+n)%10]
			wholePeople := slices.Concat(p.People, rowOf(3, 1, 4, 1))
			wholeWalk := slices.Concat(walk, [][2]int{{0, 1}, {0, 2}})
			given, whole := withNumbers(list)
			peopleBefore, walkBefore, listBefore := slices.Clone(wholePeople), slices.Clone(wholeWalk), slices.Clone(whole)
			party := p
			party.People = wholePeople[:len(p.People)]
			want := partyCalls(cloneParty(p), i, slices.Clone(walk), slices.Clone(list))
			calls := partyCalls(party, i, wholeWalk[:len(walk)], given)
			if !samePartyCalls(calls, want) {
				t.Fatalf("other results of the same arguments %v, %v and %v", p, walk, list)
			}
			for _, c := range calls {
				if !c.ok && !c.zero() {
					t.Fatalf("%s fails with %+v", c.name, c)
				}
				scribblePartyCall(c)
			}
			if !slices.Equal(wholePeople, peopleBefore) || !slices.Equal(wholeWalk, walkBefore) || !slices.Equal(whole, listBefore) {
				t.Fatalf("%v, %v and %v became %v, %v and %v", peopleBefore, walkBefore, listBefore, wholePeople, wholeWalk, whole)
			}
			if !samePartyCalls(partyCalls(party, i, wholeWalk[:len(walk)], given), want) {
				t.Fatalf("other results of %v, %v and %v again", p, walk, list)
			}
		}
	}
}
