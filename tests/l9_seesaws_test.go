package tests

import (
	"maps"
	"math"
	"math/bits"
	"slices"
	"testing"

	"loop.example/g01159/impl"
)

// smallWeights lists all lists of at most three weights out of 1, 2, 3 and 99.
func smallWeights() [][]int {
	all := [][]int{nil, {}}
	for _, w := range []int{1, 2, 3, 99} {
		all = append(all, []int{w})
		for _, x := range []int{1, 2, 3, 99} {
			all = append(all, []int{w, x})
			for _, y := range []int{1, 2, 3, 99} {
				all = append(all, []int{w, x, y})
			}
		}
	}
	return all
}

// sixWeights lists lists of four to six weights, which are those that have the most seatings to be even.
func sixWeights() [][]int {
	all := [][]int{
		{1, 1, 1, 1}, {1, 2, 3, 4}, {99, 99, 99, 99}, {4, 3, 2, 1, 1}, {98, 99, 1, 1, 2}, {1, 1, 1, 1, 1, 1}, {1, 2, 3, 4, 5, 6}, {99, 1, 1, 1, 1, 1}, {99, 98, 97, 96, 95, 94},
	}
	next := numbersFrom(9)
	for i := range 7 {
		weights := make([]int, 4+i%3)
		for k := range weights {
			weights[k] = 1 + next(12)
		}
		all = append(all, weights)
	}
	return all
}

// longWeights lists lists of up to MaxLoads weights with an arm for each.
func longWeights(count int) (weights, arms [][]int) {
	next := numbersFrom(99)
	for n := range count {
		size := n % (impl.MaxLoads + 1)
		limit := []int{3, 9, 99}[next(3)]
		var w, a []int
		for range size {
			w, a = append(w, 1+next(limit)), append(a, 1+next(impl.MaxSeats))
		}
		weights, arms = append(weights, w), append(arms, a)
	}
	ends := slices.Repeat([]int{99}, impl.MaxLoads)
	weights = append(weights, ends, ends, slices.Repeat([]int{1}, impl.MaxLoads))
	arms = append(arms, slices.Repeat([]int{6}, impl.MaxLoads), slices.Repeat([]int{1}, impl.MaxLoads), slices.Repeat([]int{6}, impl.MaxLoads))
	return weights, arms
}

// badWeights are no weights on a seesaw, by their number or by one of them.
func badWeights() [][]int {
	all := [][]int{
		{0}, {-1}, {100}, {1, 0}, {0, 1}, {1, 100, 1}, {1, 1, -1}, slices.Repeat([]int{1}, impl.MaxLoads+1), slices.Repeat([]int{1}, 1<<16),
		slices.Concat(slices.Repeat([]int{1}, impl.MaxLoads-1), []int{100}),
	}
	for _, n := range hugeNumbers() {
		all = append(all, []int{n}, []int{1, n}, []int{n, n})
	}
	return all
}

// badDistances are no numbers of seats on each side, and no arms.
func badDistances() []int { return append(hugeNumbers(), 0, -1, 7, -6, 30, 60) }

// The definitions of the chapter, told once more.

func isSeatingByDefinition(weights []int, k int, seats []int) bool {
	taken := map[int]bool{}
	for _, place := range seats {
		if place < 30-k || place > 30+k || place == 30 {
			return false
		}
		taken[place] = true
	}
	return len(seats) == len(weights) && len(taken) == len(seats)
}

// eachSeating gives all seatings of n weights in lexicographic order.
func eachSeating(n, k int, give func(seats []int)) {
	var choose func(seats []int)
	choose = func(seats []int) {
		if len(seats) == n {
			give(seats)
			return
		}
		for place := 30 - k; place <= 30+k; place++ {
			if place != 30 && !slices.Contains(seats, place) {
				choose(append(seats, place))
			}
		}
	}
	choose(make([]int, 0, n))
}

// momentOfPlaces returns the moment about 30 of weights at as many places.
func momentOfPlaces(weights, places []int) int {
	moment := 0
	for i, w := range weights {
		moment += w * (places[i] - 30)
	}
	return moment
}

// evenByDefinition returns the first even seating, if there is one, and the number of all of them.
func evenByDefinition(weights []int, k int) ([]int, int) {
	var first []int
	count := 0
	eachSeating(len(weights), k, func(seats []int) {
		if momentOfPlaces(weights, seats) != 0 {
			return
		}
		if count == 0 {
			first = slices.Clone(seats)
		}
		count++
	})
	return first, count
}

// tiltsByDefinition lists all tilts of n weights in lexicographic order.
func tiltsByDefinition(n int) [][]int {
	tilts := [][]int{{}}
	for range n {
		var longer [][]int
		for _, tilt := range tilts {
			longer = append(longer, append(slices.Clone(tilt), -1), append(slices.Clone(tilt), 1))
		}
		tilts = longer
	}
	return tilts
}

func momentOfTilt(weights, arms, tilt []int) int {
	moment := 0
	for i, w := range weights {
		moment += w * arms[i] * tilt[i]
	}
	return moment
}

// momentOfLoads returns the moment about a place of the loads with some numbers, or without them, of a row.
func momentOfLoads(row []impl.Load, p int, numbers []int, without bool) int {
	moment := 0
	for i, l := range row {
		if slices.Contains(numbers, i) != without {
			moment += l.Weight * (l.Place - p)
		}
	}
	return moment
}

// groupsByDefinition tries all sets of numbers, and sorts those that are groups.
func groupsByDefinition(row []impl.Load, p int) [][]int {
	var groups [][]int
	for set := range 1 << len(row) {
		var numbers []int
		moment := 0
		for i, l := range row {
			if set>>i&1 == 1 {
				numbers = append(numbers, i)
				moment += l.Weight * (l.Place - p)
			}
		}
		if moment == 0 {
			groups = append(groups, numbers)
		}
	}
	slices.SortFunc(groups, func(x, y []int) int {
		if len(x) != len(y) {
			return len(x) - len(y)
		}
		return slices.Compare(x, y)
	})
	return groups
}

func sameLists(x, y [][]int) bool { return slices.EqualFunc(x, y, slices.Equal[[]int]) }

// splitByDefinition returns the first group about the centre that has the load 0, and leaves others.
func splitByDefinition(row []impl.Load) ([]int, bool) {
	weight, moment := sumsOf(row)
	if len(row) < 2 || moment%weight != 0 {
		return nil, false
	}
	for _, group := range groupsByDefinition(row, int(moment/weight)) {
		if slices.Contains(group, 0) && len(group) < len(row) {
			return group, true
		}
	}
	return nil, false
}

// evenAbout reports whether a row has the moment 0 about a place.
func evenAbout(row []impl.Load, p int) bool { return momentOfLoads(row, p, nil, true) == 0 }

func moveByDefinition(row []impl.Load, p int) (int, int, bool) {
	for i, l := range row {
		for to := 0; to <= 60 && !evenAbout(row, p); to++ {
			moved := slices.Clone(row)
			moved[i].Place = to
			if to != l.Place && evenAbout(moved, p) {
				return i, to, true
			}
		}
	}
	return 0, 0, false
}

func swapByDefinition(row []impl.Load, p int) (int, int, bool) {
	for i := range row {
		for k := i + 1; k < len(row) && !evenAbout(row, p); k++ {
			swapped := slices.Clone(row)
			swapped[i].Place, swapped[k].Place = row[k].Place, row[i].Place
			if evenAbout(swapped, p) {
				return i, k, true
			}
		}
	}
	return 0, 0, false
}

// groupRows lists rows whose Loads are near to each other and light, so that many of them are even about a place.
func groupRows(count int) [][]impl.Load {
	rows := [][]impl.Load{
		nil, {}, rowOf(30, 5), rowOf(0, 1), rowOf(60, 99), rowOf(29, 1, 31, 1, 30, 5), repeatLoad(8, 30, 7), repeatLoad(impl.MaxLoads, 30, 99),
		rowOf(0, 1, 60, 1, 0, 1, 60, 1, 0, 1, 60, 1, 0, 1, 60, 1), slices.Concat(repeatLoad(6, 0, 99), repeatLoad(6, 60, 99)),
	}
	next := numbersFrom(19)
	for n := range count {
		row := make([]impl.Load, n%(impl.MaxLoads+1))
		start, span, limit := next(50), 1+next(11), 1+next(9)
		for i := range row {
			row[i] = impl.Load{Place: start + next(span), Weight: 1 + next(limit)}
		}
		rows = append(rows, row)
	}
	return rows
}

// placesAround lists places of a row and others, so that the row is to the left of some and to the right of others.
func placesAround(row []impl.Load) []int {
	places := []int{0, 30, 60}
	if len(row) > 0 {
		weight, moment := sumsOf(row)
		middle := int(moment / weight)
		places = append(places, middle, min(middle+1, 60), row[0].Place)
	}
	return places
}

func TestIsSeating(t *testing.T) {
	expect := func(weights []int, k int, seats []int) {
		t.Helper()
		want := isSeatingByDefinition(weights, k, seats)
		if is, ok := impl.IsSeating(weights, k, seats); !ok || is != want {
			t.Errorf("IsSeating(%v, %d, %v) = %v, %v; want %v", weights, k, seats, is, ok, want)
		}
	}
	for k := 1; k <= impl.MaxSeats; k++ {
		for x := 22; x <= 38; x++ {
			expect([]int{5}, k, []int{x})
			for y := 22; y <= 38; y++ {
				expect([]int{1, 99}, k, []int{x, y})
				expect([]int{1}, k, []int{x, y})
				expect([]int{1, 2, 3}, k, []int{x, y})
				expect([]int{1, 2, 3}, k, []int{x, 31, y})
			}
		}
		for _, n := range append(hugeNumbers(), 0, 1, -1, -29) {
			expect([]int{4}, k, []int{n})
			expect([]int{4, 4}, k, []int{29, n})
			expect([]int{4, 4}, k, []int{n, n})
			expect(nil, k, []int{n})
		}
		expect(nil, k, nil)
		expect([]int{}, k, []int{})
		expect([]int{1}, k, nil)
		expect(nil, k, []int{29})
		expect([]int{1}, k, make([]int, 1<<16))
	}
	// All twelve seats, and one weight more than there are seats.
	full := []int{24, 36, 25, 35, 26, 34, 27, 33, 28, 32, 29, 31}
	expect(slices.Repeat([]int{99}, 12), 6, full)
	expect(slices.Repeat([]int{99}, 12), 5, full)
	expect(slices.Repeat([]int{99}, 11), 6, full)
	expect(slices.Repeat([]int{99}, 11), 6, full[1:])
	expect([]int{1, 1, 1}, 1, []int{29, 31, 30})
	expect([]int{1, 1, 1}, 1, []int{29, 31, 29})
	if is, ok := impl.IsSeating(slices.Repeat([]int{99}, 12), 6, full); !ok || !is {
		t.Error("no seating on all seats")
	}
}

func TestSeatRow(t *testing.T) {
	for _, weights := range smallWeights() {
		for k := 1; k <= 3; k++ {
			eachSeating(len(weights), k, func(seats []int) {
				row, ok := impl.SeatRow(weights, k, seats)
				if !ok || len(row) != len(weights) {
					t.Fatalf("SeatRow(%v, %d, %v) = %v, %v", weights, k, seats, row, ok)
				}
				for i, l := range row {
					if l != (impl.Load{Place: seats[i], Weight: weights[i]}) {
						t.Fatalf("SeatRow(%v, %d, %v) = %v", weights, k, seats, row)
					}
				}
			})
		}
	}
	full := []int{24, 36, 25, 35, 26, 34, 27, 33, 28, 32, 29, 31}
	row, ok := impl.SeatRow([]int{1, 2, 3, 4, 5, 6, 7, 8, 9, 10, 11, 12}, 6, full)
	if !ok || !slices.Equal(row, rowOf(24, 1, 36, 2, 25, 3, 35, 4, 26, 5, 34, 6, 27, 7, 33, 8, 28, 9, 32, 10, 29, 11, 31, 12)) {
		t.Errorf("twelve weights sit as %v, %v", row, ok)
	}
	none := []struct {
		weights []int
		k       int
		seats   []int
	}{
		{[]int{1}, 1, nil}, {nil, 1, []int{29}}, {[]int{1}, 1, []int{30}}, {[]int{1}, 1, []int{28}}, {[]int{1}, 1, []int{32}}, {[]int{1, 1}, 2, []int{28, 28}},
		{[]int{1, 1}, 2, []int{28, 29, 31}}, {[]int{1, 1, 1}, 2, []int{28, 29}}, {[]int{1, 1}, 6, []int{math.MaxInt, math.MinInt}}, {[]int{1, 1}, 6, []int{23, 24}},
	}
	for _, c := range none {
		if row, ok := impl.SeatRow(c.weights, c.k, c.seats); ok || len(row) != 0 {
			t.Errorf("SeatRow(%v, %d, %v) = %v, %v", c.weights, c.k, c.seats, row, ok)
		}
	}
}

// With a part of the guarantee: CountEven is greater than 0 exactly if FirstEven does not fail.
func TestFirstEvenAndCountEven(t *testing.T) {
	for _, weights := range slices.Concat(smallWeights(), sixWeights()) {
		for k := 1; k <= impl.MaxSeats; k++ {
			want, wantCount := evenByDefinition(weights, k)
			first, ok := impl.FirstEven(weights, k)
			count, countOK := impl.CountEven(weights, k)
			if ok != (wantCount > 0) || !slices.Equal(first, want) {
				t.Errorf("FirstEven(%v, %d) = %v, %v; want %v of %d", weights, k, first, ok, want, wantCount)
			}
			if !countOK || count != wantCount || count > 0 != ok {
				t.Errorf("CountEven(%v, %d) = %d, %v; want %d", weights, k, count, countOK, wantCount)
			}
			if !ok {
				continue
			}
			row, seated := impl.SeatRow(weights, k, first)
			if moment, _ := impl.MomentAbout(row, 30); !seated || moment != 0 {
				t.Errorf("FirstEven(%v, %d) = %v has the moment %d, %v", weights, k, first, moment, seated)
			}
		}
	}
}

func TestKnownEvenSeatings(t *testing.T) {
	cases := []struct {
		weights []int
		k       int
		first   []int
		count   int
	}{
		// Without weights, the only seating is the one without seats.
		{nil, 1, nil, 1}, {nil, 6, nil, 1}, {[]int{1}, 1, nil, 0}, {[]int{99}, 6, nil, 0},
		{[]int{1, 1}, 1, []int{29, 31}, 2}, {[]int{1, 1}, 6, []int{24, 36}, 12}, {[]int{1, 2}, 1, nil, 0}, {[]int{1, 2}, 2, []int{28, 31}, 2}, {[]int{2, 1}, 6, []int{27, 36}, 6},
		{[]int{1, 6}, 5, nil, 0}, {[]int{1, 6}, 6, []int{24, 31}, 2}, {[]int{1, 7}, 6, nil, 0}, {[]int{3, 2}, 6, []int{26, 36}, 4},
		// There are as many seats as weights, or fewer.
		{[]int{1, 1, 1}, 1, nil, 0}, {[]int{1, 1, 1, 1}, 2, []int{28, 29, 31, 32}, 24}, {[]int{1, 1, 1, 1, 1}, 2, nil, 0},
		{[]int{1, 1, 1, 1, 1, 1}, 3, []int{27, 28, 29, 31, 32, 33}, 720}, {[]int{1, 1, 1, 1, 1, 1}, 2, nil, 0},
		{[]int{1, 2, 3}, 2, nil, 0}, {[]int{1, 2, 3}, 3, []int{27, 33, 29}, 2},
	}
	for _, c := range cases {
		first, ok := impl.FirstEven(c.weights, c.k)
		count, countOK := impl.CountEven(c.weights, c.k)
		if ok != (c.count > 0) || !slices.Equal(first, c.first) || !countOK || count != c.count {
			t.Errorf("%v with %d seats on each side: %v, %v and %d, %v; want %v and %d", c.weights, c.k, first, ok, count, countOK, c.first, c.count)
		}
	}
	for size := 7; size <= impl.MaxLoads; size++ {
		for k := 1; k <= impl.MaxSeats; k++ {
			weights := slices.Repeat([]int{1}, size)
			if first, ok := impl.FirstEven(weights, k); ok || len(first) != 0 {
				t.Errorf("FirstEven(%v, %d) = %v, %v", weights, k, first, ok)
			}
			if count, ok := impl.CountEven(weights, k); ok || count != 0 {
				t.Errorf("CountEven(%v, %d) = %d, %v", weights, k, count, ok)
			}
		}
	}
}

// Promise 9: tilts with a moment are counted, and all together are 2 to the power of the number of weights.
func TestTiltsAreCountedAndAllTogetherAreAPowerOfTwo(t *testing.T) {
	allWeights, allArms := longWeights(200)
	for n, weights := range allWeights {
		arms := allArms[n]
		counts := map[int]int{}
		for _, tilt := range tiltsByDefinition(len(weights)) {
			counts[momentOfTilt(weights, arms, tilt)]++
		}
		moments := slices.Sorted(maps.Keys(counts))
		for i := 0; i < len(moments); i += 1 + len(moments)/30 {
			for _, m := range []int{moments[i] - 1, moments[i], moments[i] + 1} {
				if count, ok := impl.CountTilts(weights, arms, m); !ok || count != counts[m] {
					t.Fatalf("CountTilts(%v, %v, %d) = %d, %v; want %d", weights, arms, m, count, ok, counts[m])
				}
			}
		}
	}
	for _, n := range []int{0, 1, 2, 3, 5, 8, 12, 200, 201, 202} {
		together := 0
		for moment := -impl.MaxWaver; moment <= impl.MaxWaver; moment++ {
			count, ok := impl.CountTilts(allWeights[n], allArms[n], moment)
			if !ok {
				t.Fatalf("CountTilts(%v, %v, %d) fails", allWeights[n], allArms[n], moment)
			}
			together += count
		}
		if together != 1<<len(allWeights[n]) {
			t.Errorf("%v with the arms %v have %d tilts", allWeights[n], allArms[n], together)
		}
	}
}

func TestCountTiltsOfKnownWeights(t *testing.T) {
	ends, sixes := slices.Repeat([]int{99}, 12), slices.Repeat([]int{6}, 12)
	cases := []struct {
		weights, arms []int
		moment, count int
	}{
		{nil, nil, 0, 1}, {nil, nil, 1, 0}, {nil, nil, impl.MaxWaver, 0}, {nil, nil, -impl.MaxWaver, 0}, {[]int{5}, []int{2}, 10, 1}, {[]int{5}, []int{2}, -10, 1}, {[]int{5}, []int{2}, 0, 0},
		{[]int{3, 2}, []int{1, 2}, 1, 1}, {[]int{3, 2}, []int{1, 2}, -1, 1}, {[]int{3, 2}, []int{1, 2}, 7, 1}, {[]int{3, 2}, []int{1, 2}, 0, 0},
		// Several may sit at the same place.
		{[]int{1, 1}, []int{1, 1}, 2, 1}, {[]int{1, 1}, []int{1, 1}, 0, 2}, {[]int{2, 1}, []int{3, 6}, 0, 2}, {ends, sixes, 0, 924}, {ends, sixes, 7128, 1}, {ends, sixes, -7128, 1},
		{ends, sixes, 7128 - 2*594, 12}, {ends, sixes, impl.MaxWaver, 0},
	}
	for _, c := range cases {
		if count, ok := impl.CountTilts(c.weights, c.arms, c.moment); !ok || count != c.count {
			t.Errorf("CountTilts(%v, %v, %d) = %d, %v; want %d", c.weights, c.arms, c.moment, count, ok, c.count)
		}
	}
	for _, moment := range append(hugeNumbers(), impl.MaxWaver+1, -impl.MaxWaver-1, 20000, -20000) {
		for _, c := range cases {
			if count, ok := impl.CountTilts(c.weights, c.arms, moment); ok || count != 0 {
				t.Errorf("CountTilts(%v, %v, %d) = %d, %v", c.weights, c.arms, moment, count, ok)
			}
		}
	}
}

func TestLeastTilt(t *testing.T) {
	allWeights, allArms := longWeights(400)
	for n, weights := range allWeights {
		var want []int
		least := math.MaxInt
		for _, tilt := range tiltsByDefinition(len(weights)) {
			if size := max(momentOfTilt(weights, allArms[n], tilt), -momentOfTilt(weights, allArms[n], tilt)); size < least {
				want, least = tilt, size
			}
		}
		tilt, size, ok := impl.LeastTilt(weights, allArms[n])
		if !ok || size != least || !slices.Equal(tilt, want) {
			t.Errorf("LeastTilt(%v, %v) = %v, %d, %v; want %v, %d", weights, allArms[n], tilt, size, ok, want, least)
		}
	}
	cases := []struct {
		weights, arms, tilt []int
		least               int
	}{
		{nil, nil, nil, 0}, {[]int{99}, []int{6}, []int{-1}, 594}, {[]int{3, 2}, []int{1, 2}, []int{-1, 1}, 1}, {[]int{1, 1}, []int{1, 1}, []int{-1, 1}, 0},
		{[]int{1, 2, 3}, []int{1, 1, 1}, []int{-1, -1, 1}, 0}, {[]int{1, 1, 1}, []int{3, 2, 1}, []int{-1, 1, 1}, 0}, {[]int{1, 1, 1}, []int{2, 2, 2}, []int{-1, -1, 1}, 2},
	}
	for _, c := range cases {
		if tilt, size, ok := impl.LeastTilt(c.weights, c.arms); !ok || size != c.least || !slices.Equal(tilt, c.tilt) {
			t.Errorf("LeastTilt(%v, %v) = %v, %d, %v; want %v, %d", c.weights, c.arms, tilt, size, ok, c.tilt, c.least)
		}
	}
}

func TestTiltRow(t *testing.T) {
	allWeights, allArms := longWeights(40)
	for n, weights := range allWeights {
		for _, tilt := range tiltsByDefinition(len(weights)) {
			row, ok := impl.TiltRow(weights, allArms[n], tilt)
			if !ok || len(row) != len(weights) {
				t.Fatalf("TiltRow(%v, %v, %v) = %v, %v", weights, allArms[n], tilt, row, ok)
			}
			for i, l := range row {
				if l != (impl.Load{Place: 30 + tilt[i]*allArms[n][i], Weight: weights[i]}) {
					t.Fatalf("TiltRow(%v, %v, %v) = %v", weights, allArms[n], tilt, row)
				}
			}
			if moment, ok := impl.MomentAbout(row, 30); !ok || moment != momentOfTilt(weights, allArms[n], tilt) {
				t.Fatalf("TiltRow(%v, %v, %v) has the moment %d, %v", weights, allArms[n], tilt, moment, ok)
			}
		}
	}
	// All lists of signs, of which those with a 0 are no tilts.
	for _, signs := range signLists(3) {
		row, ok := impl.TiltRow([]int{1, 2, 3}, []int{6, 1, 6}, signs)
		if want := !slices.Contains(signs, 0); ok != want || !ok && len(row) != 0 {
			t.Errorf("the signs %v make %v, %v", signs, row, ok)
		}
	}
	for _, signs := range [][]int{nil, {1}, {1, 1, 1}, {1, 2}, {-2, 1}, {1, math.MaxInt}, {math.MinInt, 1}, {0, 0}, make([]int, 1<<16)} {
		if row, ok := impl.TiltRow([]int{1, 2}, []int{1, 1}, signs); ok || len(row) != 0 {
			t.Errorf("TiltRow with the signs %v = %v, %v", signs[:min(len(signs), 5)], row, ok)
		}
	}
	if row, ok := impl.TiltRow(nil, nil, []int{1}); ok || len(row) != 0 {
		t.Errorf("a sign without a weight makes %v, %v", row, ok)
	}
}

// With a part of the guarantee: with each group, the loads that are not in it have the moment of the row.
func TestZeroGroupsAndCountZero(t *testing.T) {
	for _, row := range slices.Concat(groupRows(260), longRows(60), shortRows()[:80]) {
		for _, p := range placesAround(row) {
			want := groupsByDefinition(row, p)
			if count, ok := impl.CountZero(row, p); !ok || count != len(want) {
				t.Errorf("CountZero(%v, %d) = %d, %v; want %d", row, p, count, ok, len(want))
			}
			groups, ok := impl.ZeroGroups(row, p)
			if len(row) > 8 {
				if ok || len(groups) != 0 {
					t.Errorf("ZeroGroups(%v, %d) = %v, %v", row, p, groups, ok)
				}
				continue
			}
			if !ok || !sameLists(groups, want) {
				t.Errorf("ZeroGroups(%v, %d) = %v, %v; want %v", row, p, groups, ok, want)
			}
			all, _ := impl.MomentAbout(row, p)
			for _, group := range groups {
				if momentOfLoads(row, p, group, false) != 0 || momentOfLoads(row, p, group, true) != all {
					t.Errorf("%v is no group of %v about %d", group, row, p)
				}
			}
		}
	}
}

func TestKnownGroups(t *testing.T) {
	cases := []struct {
		row    []impl.Load
		p      int
		groups [][]int
	}{
		{nil, 0, [][]int{{}}}, {nil, 60, [][]int{{}}}, {rowOf(30, 5), 30, [][]int{{}, {0}}}, {rowOf(30, 5), 29, [][]int{{}}}, {rowOf(0, 1), 0, [][]int{{}, {0}}},
		{rowOf(29, 1, 31, 1, 30, 5), 30, [][]int{{}, {2}, {0, 1}, {0, 1, 2}}}, {rowOf(28, 1, 31, 2, 29, 2, 32, 1), 30, [][]int{{}, {0, 1}, {0, 3}, {1, 2}, {2, 3}, {0, 1, 2, 3}}},
		// A list comes behind all those that are shorter, also if it is less.
		{rowOf(29, 1, 31, 1, 30, 1, 30, 1), 30, [][]int{{}, {2}, {3}, {0, 1}, {2, 3}, {0, 1, 2}, {0, 1, 3}, {0, 1, 2, 3}}},
		{rowOf(28, 2, 29, 3, 37, 1), 30, [][]int{{}, {0, 1, 2}}},
	}
	for _, c := range cases {
		groups, ok := impl.ZeroGroups(c.row, c.p)
		count, countOK := impl.CountZero(c.row, c.p)
		if !ok || !sameLists(groups, c.groups) || !countOK || count != len(c.groups) {
			t.Errorf("%v about %d: %v, %v and %d, %v; want %v", c.row, c.p, groups, ok, count, countOK, c.groups)
		}
	}
	for size := range impl.MaxLoads + 1 {
		count, ok := impl.CountZero(repeatLoad(size, 17, 9), 17)
		groups, all := impl.ZeroGroups(repeatLoad(size, 17, 9), 17)
		if !ok || count != 1<<size || all != (size <= 8) || all && len(groups) != count {
			t.Errorf("%d Loads at the place have %d groups, %v, and %d, %v", size, count, ok, len(groups), all)
		}
	}
}

// The load 0 and others, and those without it, have the centre of the row.
func TestSplitAlike(t *testing.T) {
	for _, row := range slices.Concat(groupRows(600), longRows(80), shortRows()) {
		want, wantOK := splitByDefinition(row)
		group, ok := impl.SplitAlike(row)
		if ok != wantOK || !slices.Equal(group, want) {
			t.Errorf("SplitAlike(%v) = %v, %v; want %v, %v", row, group, ok, want, wantOK)
		}
		if !ok {
			continue
		}
		var parts [2][]impl.Load
		for i, l := range row {
			part := asInt(slices.Contains(group, i))
			parts[part] = append(parts[part], l)
		}
		centre, _ := impl.CentreOf(row)
		one, oneOK := impl.CentreOf(parts[0])
		two, twoOK := impl.CentreOf(parts[1])
		if !oneOK || !twoOK || one != centre || two != centre {
			t.Errorf("%v of %v has the centre %v, and the others %v; want %v", group, row, two, one, centre)
		}
	}
	cases := []struct {
		row  []impl.Load
		want []int
	}{
		{nil, nil}, {rowOf(30, 5), nil}, {rowOf(0, 1), nil}, {rowOf(30, 5, 30, 6), []int{0}}, {rowOf(0, 1, 60, 1), nil}, {rowOf(29, 1, 31, 1, 30, 5), []int{0, 1}},
		{rowOf(30, 5, 29, 1, 31, 1), []int{0}}, {rowOf(10, 1, 14, 1, 12, 3, 12, 1), []int{0, 1}},
		// The centre is no integer, though the loads could be split alike.
		{rowOf(0, 1, 1, 1, 0, 1, 1, 1), nil},
		// Another load than 0 is at the centre alone, but the group has the load 0.
		{rowOf(30, 2, 33, 2, 33, 1, 36, 2), []int{0, 3}}, {rowOf(33, 1, 30, 2, 36, 2), []int{0}}, {rowOf(28, 1, 27, 1, 35, 1, 30, 4), []int{0, 1, 2}},
		{repeatLoad(impl.MaxLoads, 60, 99), []int{0}}, {slices.Concat(repeatLoad(6, 0, 99), repeatLoad(6, 60, 99)), []int{0, 6}},
	}
	for _, c := range cases {
		if group, ok := impl.SplitAlike(c.row); ok != (c.want != nil) || !slices.Equal(group, c.want) {
			t.Errorf("SplitAlike(%v) = %v, %v; want %v", c.row, group, ok, c.want)
		}
	}
}

func TestOneMoveAndOneSwap(t *testing.T) {
	for _, row := range slices.Concat(groupRows(600), longRows(80), shortRows()) {
		for _, p := range placesAround(row) {
			wantLoad, wantPlace, wantOK := moveByDefinition(row, p)
			if load, place, ok := impl.OneMove(row, p); load != wantLoad || place != wantPlace || ok != wantOK {
				t.Errorf("OneMove(%v, %d) = %d, %d, %v; want %d, %d, %v", row, p, load, place, ok, wantLoad, wantPlace, wantOK)
			}
			wantOne, wantOther, wantOK := swapByDefinition(row, p)
			if one, other, ok := impl.OneSwap(row, p); one != wantOne || other != wantOther || ok != wantOK {
				t.Errorf("OneSwap(%v, %d) = %d, %d, %v; want %d, %d, %v", row, p, one, other, ok, wantOne, wantOther, wantOK)
			}
		}
	}
}

func TestKnownMoves(t *testing.T) {
	cases := []struct {
		row         []impl.Load
		p           int
		load, place int
		ok          bool
	}{
		{rowOf(30, 2, 33, 1), 30, 1, 30, true}, {rowOf(33, 1), 30, 0, 30, true}, {rowOf(60, 99), 0, 0, 0, true}, {rowOf(0, 99), 60, 0, 60, true}, {nil, 30, 0, 0, false}, {rowOf(30, 7), 30, 0, 0, false},
		{rowOf(29, 1, 31, 1), 30, 0, 0, false}, {rowOf(29, 1, 31, 2), 30, 0, 28, true}, {rowOf(29, 2, 31, 3), 30, 0, 0, false},
		// The first load would be moved beyond the places.
		{rowOf(0, 1, 60, 2), 60, 0, 60, true}, {rowOf(1, 1, 3, 2), 1, 1, 1, true}, {rowOf(59, 1, 57, 2), 59, 1, 59, true}, {rowOf(0, 1, 1, 2), 0, 1, 0, true}, {rowOf(60, 1, 59, 2), 60, 1, 60, true},
		{rowOf(4, 1, 2, 2), 0, 0, 0, false}, {rowOf(4, 1, 0, 2), 0, 0, 0, true}, {rowOf(56, 1, 60, 2), 60, 0, 60, true},
		// A moment that no weight divides.
		{rowOf(30, 4, 31, 3), 30, 1, 30, true}, {rowOf(32, 4, 31, 3), 30, 0, 0, false},
	}
	for _, c := range cases {
		if load, place, ok := impl.OneMove(c.row, c.p); load != c.load || place != c.place || ok != c.ok {
			t.Errorf("OneMove(%v, %d) = %d, %d, %v; want %d, %d, %v", c.row, c.p, load, place, ok, c.load, c.place, c.ok)
		}
	}
}

func TestKnownSwaps(t *testing.T) {
	cases := []struct {
		row        []impl.Load
		p          int
		one, other int
		ok         bool
	}{
		{rowOf(29, 1, 32, 2), 30, 0, 1, true}, {rowOf(32, 2, 29, 1), 30, 0, 1, true}, {nil, 30, 0, 0, false}, {rowOf(33, 1), 30, 0, 0, false}, {rowOf(29, 1, 31, 1), 30, 0, 0, false},
		{rowOf(28, 2, 31, 1), 30, 0, 1, true}, {rowOf(28, 2, 33, 1), 30, 0, 0, false},
		// Loads of the same weight, or at the same place, change nothing.
		{rowOf(29, 1, 32, 1), 30, 0, 0, false}, {rowOf(31, 1, 31, 2), 30, 0, 0, false},
		// It is even already, though loads could be exchanged.
		{rowOf(28, 1, 31, 2, 31, 2, 28, 1, 30, 7, 30, 7), 30, 0, 0, false},
		{rowOf(30, 3, 29, 1, 32, 2), 30, 1, 2, true}, {rowOf(29, 1, 30, 3, 32, 2), 30, 0, 2, true}, {rowOf(29, 1, 29, 1, 32, 2, 31, 1), 30, 0, 2, true}, {rowOf(0, 1, 60, 99), 30, 0, 0, false},
	}
	for _, c := range cases {
		if one, other, ok := impl.OneSwap(c.row, c.p); one != c.one || other != c.other || ok != c.ok {
			t.Errorf("OneSwap(%v, %d) = %d, %d, %v; want %d, %d, %v", c.row, c.p, one, other, ok, c.one, c.other, c.ok)
		}
	}
}

// seesawCall is one call of a function of this chapter: what it returns, as one value each way.
type seesawCall struct {
	name    string
	list    []int
	lists   [][]int
	row     []impl.Load
	numbers []int
	is      bool
	ok      bool
}

func (c seesawCall) zero() bool {
	return len(c.list) == 0 && len(c.lists) == 0 && len(c.row) == 0 && !c.is && !slices.ContainsFunc(c.numbers, func(n int) bool { return n != 0 })
}

// seatCalls calls all functions that have weights and a number of seats.
func seatCalls(weights []int, k int, seats []int) []seesawCall {
	is, isOK := impl.IsSeating(weights, k, seats)
	row, rowOK := impl.SeatRow(weights, k, seats)
	first, firstOK := impl.FirstEven(weights, k)
	count, countOK := impl.CountEven(weights, k)
	return []seesawCall{
		{name: "IsSeating", is: is, ok: isOK}, {name: "SeatRow", row: row, ok: rowOK}, {name: "FirstEven", list: first, ok: firstOK},
		{name: "CountEven", numbers: []int{count}, ok: countOK},
	}
}

// tiltCalls calls all functions that have weights and arms.
func tiltCalls(weights, arms []int, moment int, signs []int) []seesawCall {
	least, size, leastOK := impl.LeastTilt(weights, arms)
	count, countOK := impl.CountTilts(weights, arms, moment)
	row, rowOK := impl.TiltRow(weights, arms, signs)
	return []seesawCall{
		{name: "LeastTilt", list: least, numbers: []int{size}, ok: leastOK}, {name: "CountTilts", numbers: []int{count}, ok: countOK}, {name: "TiltRow", row: row, ok: rowOK},
	}
}

// placeCalls calls all functions that have a row and a place.
func placeCalls(row []impl.Load, p int) []seesawCall {
	groups, groupsOK := impl.ZeroGroups(row, p)
	count, countOK := impl.CountZero(row, p)
	load, place, moveOK := impl.OneMove(row, p)
	one, other, swapOK := impl.OneSwap(row, p)
	return []seesawCall{
		{name: "ZeroGroups", lists: groups, ok: groupsOK}, {name: "CountZero", numbers: []int{count}, ok: countOK}, {name: "OneMove", numbers: []int{load, place}, ok: moveOK},
		{name: "OneSwap", numbers: []int{one, other}, ok: swapOK},
	}
}

func splitCall(row []impl.Load) seesawCall {
	group, ok := impl.SplitAlike(row)
	return seesawCall{name: "SplitAlike", list: group, ok: ok}
}

func sameSeesawCalls(x, y []seesawCall) bool {
	return slices.EqualFunc(x, y, func(c, d seesawCall) bool {
		return c.name == d.name && slices.Equal(c.list, d.list) && sameLists(c.lists, d.lists) && slices.Equal(c.row, d.row) &&
			slices.Equal(c.numbers, d.numbers) && c.is == d.is && c.ok == d.ok
	})
}

func expectSeesawCallsFail(t *testing.T, with any, calls ...seesawCall) {
	t.Helper()
	for _, c := range calls {
		if c.ok || !c.zero() {
			t.Errorf("%s with %v: %+v", c.name, with, c)
		}
	}
}

func TestFunctionsFailWithoutWeights(t *testing.T) {
	for _, weights := range badWeights() {
		first := weights[:min(len(weights), 13)]
		ones := slices.Repeat([]int{1}, len(weights))
		expectSeesawCallsFail(t, first, seatCalls(weights, 6, []int{24, 25, 26}[:min(len(weights), 3)])...)
		expectSeesawCallsFail(t, first, tiltCalls(weights, ones, 0, ones)...)
		expectSeesawCallsFail(t, first, tiltCalls(weights, nil, 0, nil)...)
	}
}

func TestFunctionsFailWithoutSeatsOrArms(t *testing.T) {
	for _, weights := range slices.Concat(smallWeights(), sixWeights()) {
		seats := []int{24, 25, 26, 27, 28, 29}[:len(weights)]
		ones := slices.Repeat([]int{1}, len(weights))
		for _, n := range badDistances() {
			expectSeesawCallsFail(t, n, seatCalls(weights, n, seats)...)
			for i := range weights {
				arms := slices.Clone(ones)
				arms[i] = n
				expectSeesawCallsFail(t, arms, tiltCalls(weights, arms, 0, ones)...)
			}
		}
		// Fewer arms than weights, and more.
		expectSeesawCallsFail(t, "an arm more", tiltCalls(weights, append(slices.Clone(ones), 1), 0, ones)...)
		expectSeesawCallsFail(t, "many arms", tiltCalls(weights, slices.Repeat([]int{1}, 1<<16), 0, ones)...)
		if len(weights) > 0 {
			expectSeesawCallsFail(t, "an arm less", tiltCalls(weights, ones[1:], 0, ones)...)
			expectSeesawCallsFail(t, "no arms", tiltCalls(weights, nil, 0, ones)...)
		}
	}
}

func TestGroupFunctionsFailWithoutARowOrAPlace(t *testing.T) {
	for _, bad := range badRows() {
		first := bad[:min(len(bad), 13)]
		expectSeesawCallsFail(t, first, splitCall(bad))
		for _, p := range []int{0, 29, 30, 60} {
			expectSeesawCallsFail(t, first, placeCalls(bad, p)...)
		}
	}
	for _, row := range slices.Concat(groupRows(40), shortRows()) {
		for _, p := range badPlaces() {
			expectSeesawCallsFail(t, p, placeCalls(row, p)...)
		}
	}
}

// scribbleSeesawCall changes all that was made, and what is behind it in its memory.
func scribbleSeesawCall(c seesawCall) {
	scribble(c.list[:cap(c.list)])
	for _, list := range c.lists {
		scribble(list[:cap(list)])
	}
	row := c.row[:cap(c.row)]
	for i := range row {
		row[i] = impl.Load{Place: -7, Weight: -7}
	}
}

// withNumbers returns a list in a memory that goes on behind it, and all of this memory.
func withNumbers(list []int) (given, whole []int) {
	whole = slices.Concat(list, []int{1, 31})
	return whole[:len(list)], whole
}

// Promise 13: results for all arguments, the same ones again, and the arguments as they were, also beyond their length.
func TestSeatAndTiltFunctionsReturnAndLeaveTheirArguments(t *testing.T) {
	numbers := append(hugeNumbers(), 0, 1, 2, 3, 6, -1, 7, 31)
	allWeights, allArms := longWeights(60)
	lists := slices.Concat(allWeights, sixWeights()[:3], badWeights()[:8], [][]int{{29, 31}, {-1, 1}, {1, -1, 1}, {24, 36, 30}})
	for n, weights := range lists {
		number, other := numbers[n%len(numbers)], lists[(n*5+3)%len(lists)]
		if n < len(allArms) {
			other = allArms[n]
		}
		all := func(weights, other []int) []seesawCall {
			tilt := tiltsByDefinition(min(len(weights), 12))[0]
			return slices.Concat(seatCalls(weights, number, other), seatCalls(other, number, weights), tiltCalls(weights, other, number, tilt), tiltCalls(other, weights, number, weights),
				tiltCalls(weights, weights, number, other), seatCalls(weights, 2+n%2, other))
		}
		given, whole := withNumbers(weights)
		otherGiven, otherWhole := withNumbers(other)
		before, otherBefore := slices.Clone(whole), slices.Clone(otherWhole)
		want, calls := all(slices.Clone(weights), slices.Clone(other)), all(given, otherGiven)
		if !sameSeesawCalls(calls, want) {
			t.Fatalf("other results of the same lists %v and %v with %d", weights, other, number)
		}
		for _, c := range calls {
			if !c.ok && !c.zero() {
				t.Fatalf("%s fails with %+v", c.name, c)
			}
			scribbleSeesawCall(c)
		}
		if !slices.Equal(whole, before) || !slices.Equal(otherWhole, otherBefore) {
			t.Fatalf("the lists %v and %v became %v and %v", before, otherBefore, whole, otherWhole)
		}
		if !sameSeesawCalls(all(given, otherGiven), want) {
			t.Fatalf("other results of %v and %v with %d again", weights, other, number)
		}
	}
}

// Promise 13 for rows.
func TestGroupFunctionsReturnAndLeaveTheirArguments(t *testing.T) {
	for n, row := range slices.Concat(groupRows(80), shortRows()[:40], badRows()) {
		p := append(badPlaces(), 0, 30, 60, 17)[n%13]
		whole := slices.Concat(row, rowOf(30, 1, 31, 1))
		before := slices.Clone(whole)
		given := whole[:len(row)]
		all := func(row []impl.Load) []seesawCall {
			return append(slices.Concat(placeCalls(row, p), placeCalls(row, 30)), splitCall(row))
		}
		want, calls := all(slices.Clone(row)), all(given)
		if !sameSeesawCalls(calls, want) {
			t.Fatalf("other results of the same row %v with %d", row, p)
		}
		for _, c := range calls {
			if !c.ok && !c.zero() {
				t.Fatalf("%s fails with %+v", c.name, c)
			}
			scribbleSeesawCall(c)
		}
		if !slices.Equal(whole, before) || !sameSeesawCalls(all(given), want) {
			t.Fatalf("the row %v became %v, or has other results again", before, whole)
		}
	}
}

// Each group is new memory, also behind its numbers.
func TestGroupsShareNoMemory(t *testing.T) {
	for _, row := range [][]impl.Load{repeatLoad(8, 30, 7), repeatLoad(5, 30, 1), rowOf(29, 1, 31, 1, 30, 5, 30, 2, 29, 2, 31, 2)} {
		want, _ := impl.ZeroGroups(row, 30)
		for i := range want {
			groups, _ := impl.ZeroGroups(row, 30)
			scribble(groups[i][:cap(groups[i])])
			for k, group := range groups {
				if k != i && !slices.Equal(group, want[k]) {
					t.Fatalf("with the group %v of %v, %v became %v", want[i], row, want[k], group)
				}
			}
		}
	}
}

// Groups of all loads at one place are all strictly ascending lists, so each of a size is there as often as numbers can be chosen.
func TestGroupsOfLoadsAtThePlaceAreAllLists(t *testing.T) {
	groups, ok := impl.ZeroGroups(repeatLoad(8, 9, 3), 9)
	if !ok || len(groups) != 256 || !allDifferent(groups) {
		t.Fatalf("%d groups, %v", len(groups), ok)
	}
	var sizes, want [9]int
	for set, group := range groups {
		sizes[len(group)]++
		want[bits.OnesCount(uint(set))]++
	}
	if sizes != want {
		t.Errorf("groups by their sizes: %v; want %v", sizes, want)
	}
}
