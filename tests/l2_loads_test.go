package tests

import (
	"math"
	"math/big"
	"slices"
	"sort"
	"strconv"
	"strings"
	"testing"

	"loop.example/g01159/impl"
)

// rowOf makes a row of places and weights in turn.
func rowOf(numbers ...int) []impl.Load {
	row := []impl.Load{}
	for i := 0; i < len(numbers); i += 2 {
		row = append(row, impl.Load{Place: numbers[i], Weight: numbers[i+1]})
	}
	return row
}

func repeatLoad(n, place, weight int) []impl.Load {
	return slices.Repeat(rowOf(place, weight), n)
}

// shortRows lists the rows of at most two Loads with places and weights at and near their limits.
func shortRows() [][]impl.Load {
	rows := [][]impl.Load{nil, {}}
	var ones []impl.Load
	for _, p := range []int{0, 1, 2, 30, 59, 60} {
		for _, w := range []int{1, 2, 50, 98, 99} {
			ones = append(ones, impl.Load{Place: p, Weight: w})
		}
	}
	for _, x := range ones {
		rows = append(rows, []impl.Load{x})
		for _, y := range ones {
			rows = append(rows, []impl.Load{x, y})
		}
	}
	return rows
}

// longRows lists many rows of all sizes, always the same ones.
func longRows(count int) [][]impl.Load {
	seed := uint32(1)
	next := func(n int) int {
		seed = seed*1664525 + 1013904223
		return int(seed>>8) % n
	}
	rows := [][]impl.Load{
		repeatLoad(impl.MaxLoads, 0, 1), repeatLoad(impl.MaxLoads, 60, 99), repeatLoad(impl.MaxLoads-1, 60, 99),
		repeatLoad(impl.MaxLoads, 30, 99), slices.Concat(repeatLoad(6, 0, 99), repeatLoad(6, 60, 99)),
	}
	for len(rows) < count {
		row := make([]impl.Load, next(impl.MaxLoads+1))
		start, span := next(50), 1+next(11)
		for i := range row {
			row[i] = impl.Load{Place: start + next(span), Weight: 1 + next(99)}
			if len(rows)%3 == 0 {
				row[i] = impl.Load{Place: next(61), Weight: 1 + next(9)}
			}
		}
		rows = append(rows, row)
	}
	return rows
}

func someBases() [][2]int {
	places := []int{0, 1, 2, 17, 29, 30, 31, 45, 59, 60}
	var bases [][2]int
	for i, a := range places {
		for _, b := range places[i:] {
			bases = append(bases, [2]int{a, b})
		}
	}
	return bases
}

// badRows are no rows, by their length, by a place or by a weight.
func badRows() [][]impl.Load {
	rows := [][]impl.Load{
		rowOf(0, 0), rowOf(-1, 1), rowOf(61, 1), rowOf(30, 100), rowOf(30, -1), rowOf(30, 1, 30, 0), rowOf(-1, 1, 30, 1),
		rowOf(30, 1, 61, 1, 30, 1), repeatLoad(impl.MaxLoads+1, 30, 1), repeatLoad(1<<16, 30, 1), make([]impl.Load, 1),
		slices.Concat(repeatLoad(impl.MaxLoads-1, 30, 1), rowOf(30, 100)),
	}
	for _, n := range []int{math.MaxInt, math.MinInt, math.MinInt + 1, 1 << 32, -1 << 32, 1<<62 + 1} {
		rows = append(rows, rowOf(n, 1), rowOf(30, n), rowOf(n, n), rowOf(n, 1, n, 1))
	}
	return rows
}

func badPlaces() []int {
	return []int{-1, 61, -60, 120, math.MaxInt, math.MinInt, math.MinInt + 1, 1 << 32, -1 << 32}
}

func badBases() [][2]int {
	bases := [][2]int{{1, 0}, {60, 0}, {31, 30}, {60, 59}, {-1, -1}, {61, 61}, {math.MaxInt, math.MinInt}, {math.MinInt, math.MaxInt}}
	for _, p := range badPlaces() {
		bases = append(bases, [2]int{p, 30}, [2]int{30, p}, [2]int{0, p}, [2]int{p, 60})
	}
	return bases
}

// The definitions of the chapter, told once more with the fractions of the library.

func sumsOf(row []impl.Load) (weight, moment int64) {
	for _, l := range row {
		weight += int64(l.Weight)
		moment += int64(l.Weight) * int64(l.Place)
	}
	return weight, moment
}

func centreByRat(row []impl.Load) *big.Rat {
	weight, moment := sumsOf(row)
	return big.NewRat(moment, weight)
}

func sideByRat(row []impl.Load, a, b int) int {
	if len(row) == 0 {
		return 0
	}
	centre := centreByRat(row)
	switch {
	case centre.Cmp(big.NewRat(int64(a), 1)) < 0:
		return -1
	case centre.Cmp(big.NewRat(int64(b), 1)) > 0:
		return 1
	}
	return 0
}

// sameFraction reports whether f is r in lowest terms, as the fractions of the library always are.
func sameFraction(f [2]int, r *big.Rat) bool {
	return r.Num().IsInt64() && int64(f[0]) == r.Num().Int64() && int64(f[1]) == r.Denom().Int64()
}

func standsBesides(row []impl.Load, a, b, place, weight int) bool {
	more := append(slices.Clone(row), impl.Load{Place: place, Weight: weight})
	return len(more) <= impl.MaxLoads && sideByRat(more, a, b) == 0
}

func TestIsRow(t *testing.T) {
	for _, row := range slices.Concat(shortRows(), longRows(300)) {
		if !impl.IsRow(row) {
			t.Errorf("IsRow(%v) is false", row)
		}
	}
	for _, row := range badRows() {
		if impl.IsRow(row) {
			t.Errorf("IsRow of %d Loads is true: %.3v", len(row), row[:min(len(row), 3)])
		}
	}
	for p := -3; p <= 63; p++ {
		for w := -3; w <= 103; w++ {
			if impl.IsRow(rowOf(p, w)) != (p >= 0 && p <= 60 && w >= 1 && w <= 99) {
				t.Errorf("IsRow of %d:%d", p, w)
			}
		}
	}
	for n := range 30 {
		if impl.IsRow(repeatLoad(n, 60, 99)) != (n <= 12) {
			t.Errorf("IsRow of %d Loads", n)
		}
	}
}

func TestWeightMomentAndCentre(t *testing.T) {
	for _, row := range slices.Concat(shortRows(), longRows(500)) {
		weight, moment := sumsOf(row)
		if w, ok := impl.WeightOf(row); !ok || int64(w) != weight {
			t.Fatalf("WeightOf(%v) = %d, %v; want %d", row, w, ok, weight)
		}
		for _, p := range []int{0, 1, 29, 30, 31, 60} {
			if m, ok := impl.MomentAbout(row, p); !ok || int64(m) != moment-weight*int64(p) {
				t.Fatalf("MomentAbout(%v, %d) = %d, %v", row, p, m, ok)
			}
		}
		centre, ok := impl.CentreOf(row)
		if len(row) == 0 && (ok || centre != [2]int{}) || len(row) > 0 && (!ok || !sameFraction(centre, centreByRat(row))) {
			t.Fatalf("CentreOf(%v) = %v, %v", row, centre, ok)
		}
	}
}

func TestCentreIsInLowestTerms(t *testing.T) {
	cases := []struct {
		row  []impl.Load
		want [2]int
	}{
		{rowOf(0, 99), [2]int{0, 1}},
		{rowOf(60, 99), [2]int{60, 1}},
		{rowOf(0, 1, 1, 1), [2]int{1, 2}},
		{rowOf(0, 2, 1, 2), [2]int{1, 2}},
		{rowOf(2, 3, 5, 1), [2]int{11, 4}},
		{rowOf(0, 98, 60, 1), [2]int{20, 33}},
		{rowOf(0, 99, 0, 99, 60, 99), [2]int{20, 1}},
		{slices.Concat(rowOf(1, 1), repeatLoad(11, 0, 99)), [2]int{1, 1090}},
		{slices.Concat(rowOf(59, 1), repeatLoad(11, 60, 99)), [2]int{65399, 1090}},
	}
	for _, c := range cases {
		if got, ok := impl.CentreOf(c.row); !ok || got != c.want {
			t.Errorf("CentreOf(%v) = %v, %v; want %v", c.row, got, ok, c.want)
		}
	}
}

// The first half of promise 2, and what the reactions are by definition.
func TestRowStandsExactlyIfNoReactionIsLessThanZero(t *testing.T) {
	sides := map[int]int{}
	for _, row := range slices.Concat(shortRows(), longRows(500)) {
		weight, _ := sumsOf(row)
		for _, base := range someBases() {
			a, b := base[0], base[1]
			side, ok := impl.TipSide(row, a, b)
			if !ok || side != sideByRat(row, a, b) {
				t.Fatalf("TipSide(%v, %d, %d) = %d, %v", row, a, b, side, ok)
			}
			sides[side]++
			left, right, ok := impl.ReactionsOf(row, a, b)
			if a == b {
				if ok || left != [2]int{} || right != [2]int{} {
					t.Fatalf("ReactionsOf(%v, %d, %d) = %v, %v, %v", row, a, b, left, right, ok)
				}
				continue
			}
			about, _ := impl.MomentAbout(row, a)
			atB := big.NewRat(int64(about), int64(b-a))
			atA := new(big.Rat).Sub(big.NewRat(weight, 1), atB)
			if !ok || !sameFraction(left, atA) || !sameFraction(right, atB) {
				t.Fatalf("ReactionsOf(%v, %d, %d) = %v, %v, %v; want %v, %v", row, a, b, left, right, ok, atA, atB)
			}
			if (left[0] >= 0 && right[0] >= 0) != (side == 0) {
				t.Fatalf("%v on %d, %d: side %d, reactions %v, %v", row, a, b, side, left, right)
			}
		}
	}
	if sides[-1] == 0 || sides[0] == 0 || sides[1] == 0 {
		t.Fatal("not all sides were tried", sides)
	}
}

// The other half of promise 2, and of the guarantee: the mirrored row tips to the other side.
func TestMirroredRowsOnMirroredBases(t *testing.T) {
	for _, row := range slices.Concat(shortRows(), longRows(500)) {
		mirror, ok := impl.MirrorRow(row)
		if !ok || len(mirror) != len(row) {
			t.Fatalf("MirrorRow(%v) = %v, %v", row, mirror, ok)
		}
		for i, l := range row {
			if mirror[i] != (impl.Load{Place: 60 - l.Place, Weight: l.Weight}) {
				t.Fatalf("MirrorRow(%v) = %v", row, mirror)
			}
		}
		if back, ok := impl.MirrorRow(mirror); !ok || !slices.Equal(back, row) {
			t.Fatalf("MirrorRow(%v) = %v, %v", mirror, back, ok)
		}
		for _, base := range someBases() {
			side, one := impl.TipSide(row, base[0], base[1])
			other, two := impl.TipSide(mirror, 60-base[1], 60-base[0])
			if !one || !two || side != -other {
				t.Fatalf("%v on %v: %d, mirrored %d", row, base, side, other)
			}
			left, right, one := impl.ReactionsOf(row, base[0], base[1])
			mirrorLeft, mirrorRight, two := impl.ReactionsOf(mirror, 60-base[1], 60-base[0])
			if one != two || left != mirrorRight || right != mirrorLeft {
				t.Fatalf("%v on %v: reactions %v, %v, mirrored %v, %v", row, base, left, right, mirrorLeft, mirrorRight)
			}
		}
	}
}

// Both places of a base belong to it, also where they are the same.
func TestRowsStandAtTheEndsOfTheBase(t *testing.T) {
	cases := []struct {
		row        []impl.Load
		a, b, want int
	}{
		{nil, 0, 0, 0}, {nil, 60, 60, 0}, {nil, 17, 20, 0},
		{rowOf(30, 1), 30, 30, 0}, {rowOf(30, 99), 30, 31, 0}, {rowOf(30, 99), 29, 30, 0},
		{rowOf(30, 1), 31, 31, -1}, {rowOf(30, 1), 29, 29, 1}, {rowOf(0, 1), 0, 0, 0}, {rowOf(60, 1), 60, 60, 0},
		{rowOf(29, 1, 31, 1), 30, 30, 0}, {rowOf(29, 2, 31, 1), 30, 30, -1}, {rowOf(29, 1, 31, 2), 30, 30, 1},
		{slices.Concat(repeatLoad(11, 0, 99), rowOf(1, 1)), 0, 0, 1}, {slices.Concat(repeatLoad(11, 60, 99), rowOf(59, 1)), 60, 60, -1},
		{rowOf(0, 1, 60, 99), 0, 59, 1}, {rowOf(0, 99, 60, 1), 1, 60, -1}, {rowOf(2, 3, 5, 1), 3, 5, -1},
	}
	for _, c := range cases {
		if side, ok := impl.TipSide(c.row, c.a, c.b); !ok || side != c.want {
			t.Errorf("TipSide(%v, %d, %d) = %d, %v; want %d", c.row, c.a, c.b, side, ok, c.want)
		}
	}
}

func TestReactionsOfKnownRows(t *testing.T) {
	cases := []struct {
		row         []impl.Load
		a, b        int
		left, right [2]int
	}{
		{nil, 0, 60, [2]int{0, 1}, [2]int{0, 1}},
		{rowOf(2, 3, 5, 1), 2, 3, [2]int{1, 1}, [2]int{3, 1}},
		{rowOf(0, 1), 10, 13, [2]int{13, 3}, [2]int{-10, 3}},
		{rowOf(60, 2), 0, 40, [2]int{-1, 1}, [2]int{3, 1}},
		{rowOf(7, 5), 7, 9, [2]int{5, 1}, [2]int{0, 1}},
		{rowOf(9, 5), 7, 9, [2]int{0, 1}, [2]int{5, 1}},
		{rowOf(1, 1), 0, 60, [2]int{59, 60}, [2]int{1, 60}},
		{repeatLoad(12, 60, 99), 0, 1, [2]int{-70092, 1}, [2]int{71280, 1}},
	}
	for _, c := range cases {
		left, right, ok := impl.ReactionsOf(c.row, c.a, c.b)
		if !ok || left != c.left || right != c.right {
			t.Errorf("ReactionsOf(%v, %d, %d) = %v, %v, %v; want %v, %v", c.row, c.a, c.b, left, right, ok, c.left, c.right)
		}
	}
}

// mergedByMap is what MergeRow must return, and whether it is a row.
func mergedByMap(row []impl.Load) ([]impl.Load, bool) {
	sums := map[int]int{}
	for _, l := range row {
		sums[l.Place] += l.Weight
	}
	var merged []impl.Load
	fits := true
	for p, w := range sums {
		merged = append(merged, impl.Load{Place: p, Weight: w})
		fits = fits && w <= impl.MaxWeight
	}
	sort.Slice(merged, func(i, j int) bool { return merged[i].Place < merged[j].Place })
	return merged, fits
}

func TestMergeRow(t *testing.T) {
	tried := map[bool]int{}
	for _, row := range slices.Concat(shortRows(), longRows(1000)) {
		want, fits := mergedByMap(row)
		tried[fits]++
		got, ok := impl.MergeRow(row)
		if ok != fits || ok && !slices.Equal(got, want) || !ok && len(got) != 0 {
			t.Fatalf("MergeRow(%v) = %v, %v; want %v, %v", row, got, ok, want, fits)
		}
		if !ok {
			continue
		}
		weight, _ := impl.WeightOf(row)
		merged, _ := impl.WeightOf(got)
		centre, some := impl.CentreOf(row)
		same, others := impl.CentreOf(got)
		if weight != merged || centre != same || some != others {
			t.Fatalf("MergeRow(%v) = %v has another weight or centre", row, got)
		}
	}
	if tried[true] == 0 || tried[false] == 0 {
		t.Fatal("only one kind of row was tried", tried)
	}
}

func TestMergeRowAtTheGreatestWeight(t *testing.T) {
	cases := []struct {
		row, want []impl.Load
		ok        bool
	}{
		{nil, nil, true},
		{rowOf(5, 1, 2, 3, 5, 2), rowOf(2, 3, 5, 3), true},
		{rowOf(60, 50, 0, 99, 60, 49), rowOf(0, 99, 60, 99), true},
		{rowOf(60, 50, 0, 99, 60, 50), nil, false},
		{rowOf(0, 99, 0, 1), nil, false},
		{repeatLoad(12, 7, 8), rowOf(7, 96), true},
		{repeatLoad(12, 7, 9), nil, false},
		{rowOf(9, 1, 8, 1, 7, 1, 6, 1, 5, 1, 4, 1), rowOf(4, 1, 5, 1, 6, 1, 7, 1, 8, 1, 9, 1), true},
	}
	for _, c := range cases {
		if got, ok := impl.MergeRow(c.row); ok != c.ok || !slices.Equal(got, c.want) {
			t.Errorf("MergeRow(%v) = %v, %v; want %v, %v", c.row, got, ok, c.want, c.ok)
		}
	}
}

func TestJoinRows(t *testing.T) {
	rows := append(longRows(60), nil, rowOf(2, 3, 5, 1), rowOf(5, 1))
	for _, a := range rows {
		for _, b := range rows {
			want := len(a)+len(b) <= 12
			got, ok := impl.JoinRows(a, b)
			if ok != want || ok && !slices.Equal(got, slices.Concat(a, b)) || !ok && len(got) != 0 {
				t.Fatalf("JoinRows(%v, %v) = %v, %v", a, b, got, ok)
			}
		}
	}
	for _, bad := range badRows() {
		for _, good := range [][]impl.Load{nil, rowOf(2, 3), repeatLoad(12, 1, 1)} {
			one, first := impl.JoinRows(bad, good)
			two, second := impl.JoinRows(good, bad)
			if first || second || len(one) != 0 || len(two) != 0 {
				t.Errorf("joined with no row: %v, %v", one, two)
			}
		}
	}
}

// A part of the guarantee: rows that stand on the same base stand there together.
func TestRowsThatStandStandTogether(t *testing.T) {
	rows := append(longRows(120), nil, rowOf(30, 99), rowOf(0, 1, 60, 1))
	together := 0
	for _, base := range someBases() {
		for _, a := range rows {
			if side, _ := impl.TipSide(a, base[0], base[1]); side != 0 {
				continue
			}
			for _, b := range rows {
				joined, ok := impl.JoinRows(a, b)
				if side, _ := impl.TipSide(b, base[0], base[1]); side != 0 || !ok {
					continue
				}
				together++
				if side, ok := impl.TipSide(joined, base[0], base[1]); !ok || side != 0 {
					t.Fatalf("%v and %v stand on %v, but not together", a, b, base)
				}
			}
		}
	}
	if together < 100 {
		t.Fatal("rows tried together", together)
	}
}

func TestShiftRow(t *testing.T) {
	for _, row := range slices.Concat(shortRows(), longRows(200)) {
		for by := -63; by <= 63; by++ {
			want := make([]impl.Load, len(row))
			fits := by >= -60 && by <= 60
			for i, l := range row {
				want[i] = impl.Load{Place: l.Place + by, Weight: l.Weight}
				fits = fits && want[i].Place >= 0 && want[i].Place <= 60
			}
			got, ok := impl.ShiftRow(row, by)
			if ok != fits || ok && !slices.Equal(got, want) || !ok && len(got) != 0 {
				t.Fatalf("ShiftRow(%v, %d) = %v, %v", row, by, got, ok)
			}
		}
	}
	for _, row := range [][]impl.Load{nil, rowOf(0, 1), rowOf(60, 1), rowOf(0, 1, 60, 1)} {
		for _, by := range []int{61, -61, 120, -120, math.MaxInt, math.MinInt, math.MinInt + 60, 1 << 32, -1 << 32} {
			if got, ok := impl.ShiftRow(row, by); ok || len(got) != 0 {
				t.Errorf("ShiftRow(%v, %d) = %v, %v", row, by, got, ok)
			}
		}
	}
}

// rowsToLoad has rows of all sizes, on which one more Load is tried.
func rowsToLoad() [][]impl.Load {
	return append(longRows(60), nil, rowOf(0, 1), rowOf(60, 99), rowOf(30, 50), rowOf(2, 3, 5, 1), rowOf(0, 99, 1, 1),
		rowOf(29, 1, 31, 1), rowOf(0, 1, 60, 1), repeatLoad(11, 30, 1), repeatLoad(12, 30, 1))
}

func TestStandPlaces(t *testing.T) {
	for _, row := range rowsToLoad() {
		for _, base := range someBases() {
			for _, w := range []int{1, 2, 17, 50, 98, 99} {
				var places []int
				for p := range 61 {
					if standsBesides(row, base[0], base[1], p, w) {
						places = append(places, p)
					}
				}
				low, high, ok := impl.StandPlaces(row, base[0], base[1], w)
				if ok != (len(places) > 0) || ok && (low != places[0] || high != places[len(places)-1]) || !ok && (low != 0 || high != 0) {
					t.Fatalf("StandPlaces(%v, %v, %d) = %d, %d, %v; want %v", row, base, w, low, high, ok, places)
				}
				if ok && len(places) != high-low+1 {
					t.Fatalf("StandPlaces(%v, %v, %d): not at all places between", row, base, w)
				}
			}
		}
	}
}

func TestStandPlacesOfKnownRows(t *testing.T) {
	cases := []struct {
		row       []impl.Load
		a, b, w   int
		low, high int
		ok        bool
	}{
		{nil, 0, 0, 1, 0, 0, true}, {nil, 60, 60, 99, 60, 60, true}, {nil, 0, 60, 5, 0, 60, true}, {nil, 7, 9, 99, 7, 9, true},
		{rowOf(2, 3, 5, 1), 2, 3, 4, 2, 3, true}, {rowOf(0, 99), 30, 30, 99, 60, 60, true}, {rowOf(0, 99), 30, 30, 98, 0, 0, false},
		{rowOf(0, 99), 31, 60, 99, 0, 0, false}, {repeatLoad(11, 30, 9), 30, 30, 1, 30, 30, true},
		{repeatLoad(12, 30, 9), 30, 30, 1, 0, 0, false}, {rowOf(30, 1), 0, 60, 0, 0, 0, false}, {rowOf(30, 1), 0, 60, 100, 0, 0, false},
		{rowOf(30, 1), 0, 60, -1, 0, 0, false}, {rowOf(30, 1), 0, 60, math.MaxInt, 0, 0, false}, {rowOf(30, 1), 0, 60, math.MinInt, 0, 0, false},
		{nil, 0, 60, 0, 0, 0, false}, {nil, 0, 60, 100, 0, 0, false}, {rowOf(30, 1), 0, 60, 1 << 32, 0, 0, false},
	}
	for _, c := range cases {
		low, high, ok := impl.StandPlaces(c.row, c.a, c.b, c.w)
		if low != c.low || high != c.high || ok != c.ok {
			t.Errorf("StandPlaces(%v, %d, %d, %d) = %d, %d, %v", c.row, c.a, c.b, c.w, low, high, ok)
		}
	}
}

// counterByDefinition tries all weights from the least one on.
func counterByDefinition(row []impl.Load, a, b, p int) (int, bool) {
	if sideByRat(row, a, b) == 0 {
		return 0, true
	}
	for w := 1; w <= impl.MaxWeight; w++ {
		if standsBesides(row, a, b, p, w) {
			return w, true
		}
	}
	return 0, false
}

// extraByDefinition tries all weights from the greatest one on.
func extraByDefinition(row []impl.Load, a, b, p int) (int, bool) {
	if len(row) == impl.MaxLoads || sideByRat(row, a, b) != 0 {
		return 0, false
	}
	for w := impl.MaxWeight; w > 0; w-- {
		if standsBesides(row, a, b, p, w) {
			return w, true
		}
	}
	return 0, true
}

func TestLeastCounterAndMostExtra(t *testing.T) {
	counters, extras := map[int]bool{}, map[int]bool{}
	for _, row := range rowsToLoad() {
		for _, base := range someBases() {
			a, b := base[0], base[1]
			for _, p := range []int{0, 1, 16, 29, 30, 31, 59, 60} {
				want, fine := counterByDefinition(row, a, b, p)
				got, ok := impl.LeastCounter(row, a, b, p)
				if got != want || ok != fine {
					t.Fatalf("LeastCounter(%v, %d, %d, %d) = %d, %v; want %d, %v", row, a, b, p, got, ok, want, fine)
				}
				counters[got] = true
				want, fine = extraByDefinition(row, a, b, p)
				got, ok = impl.MostExtra(row, a, b, p)
				if got != want || ok != fine {
					t.Fatalf("MostExtra(%v, %d, %d, %d) = %d, %v; want %d, %v", row, a, b, p, got, ok, want, fine)
				}
				extras[got] = true
			}
		}
	}
	if len(counters) < 20 || len(extras) < 20 || !extras[99] {
		t.Fatal("few weights were found", len(counters), len(extras))
	}
}

func TestLeastCounterOfKnownRows(t *testing.T) {
	cases := []struct {
		row        []impl.Load
		a, b, p, w int
		ok         bool
	}{
		{nil, 7, 9, 60, 0, true}, {rowOf(8, 1), 7, 9, 60, 0, true}, {rowOf(2, 3, 5, 1), 3, 5, 6, 1, true},
		{rowOf(0, 99), 30, 30, 60, 99, true}, {rowOf(0, 99), 30, 60, 59, 0, false}, {rowOf(0, 10), 1, 9, 10, 2, true},
		{rowOf(0, 10), 1, 9, 1, 0, false}, {rowOf(0, 10), 1, 9, 0, 0, false}, {rowOf(0, 1), 10, 10, 13, 0, false},
		{rowOf(60, 99, 60, 99), 30, 40, 0, 99, true}, {rowOf(60, 99, 60, 99), 30, 39, 0, 0, false},
		{repeatLoad(12, 30, 1), 30, 30, 0, 0, true}, {repeatLoad(12, 30, 1), 31, 60, 60, 0, false},
		{repeatLoad(11, 30, 1), 31, 60, 60, 1, true},
		{rowOf(8, 1), 7, 9, 61, 0, false}, {rowOf(8, 1), 7, 9, -1, 0, false}, {nil, 7, 9, 61, 0, false}, {rowOf(0, 9), 7, 9, 61, 0, false},
	}
	for _, c := range cases {
		if w, ok := impl.LeastCounter(c.row, c.a, c.b, c.p); w != c.w || ok != c.ok {
			t.Errorf("LeastCounter(%v, %d, %d, %d) = %d, %v; want %d, %v", c.row, c.a, c.b, c.p, w, ok, c.w, c.ok)
		}
	}
}

func TestMostExtraOfKnownRows(t *testing.T) {
	cases := []struct {
		row        []impl.Load
		a, b, p, w int
		ok         bool
	}{
		{nil, 7, 9, 8, 99, true}, {nil, 7, 9, 6, 0, true}, {nil, 7, 7, 7, 99, true}, {rowOf(2, 3, 5, 1), 2, 3, 4, 1, true},
		{rowOf(8, 10), 7, 9, 10, 10, true}, {rowOf(8, 10), 7, 9, 11, 5, true}, {rowOf(9, 10), 7, 9, 10, 0, true},
		{rowOf(9, 10), 7, 9, 0, 2, true}, {rowOf(8, 99), 7, 9, 10, 99, true}, {rowOf(8, 98), 7, 9, 10, 98, true},
		{rowOf(6, 1), 7, 9, 9, 0, false}, {rowOf(10, 1), 7, 9, 7, 0, false}, {repeatLoad(12, 8, 1), 7, 9, 8, 0, false},
		{repeatLoad(11, 8, 1), 7, 9, 8, 99, true}, {rowOf(8, 1), 7, 9, 61, 0, false}, {rowOf(8, 1), 7, 9, -1, 0, false},
		{nil, 7, 9, 61, 0, false}, {nil, 7, 9, math.MinInt, 0, false},
	}
	for _, c := range cases {
		if w, ok := impl.MostExtra(c.row, c.a, c.b, c.p); w != c.w || ok != c.ok {
			t.Errorf("MostExtra(%v, %d, %d, %d) = %d, %v; want %d, %v", c.row, c.a, c.b, c.p, w, ok, c.w, c.ok)
		}
	}
}

// narrowByDefinition tries all bases on which a row stands, the narrowest ones first.
func narrowByDefinition(row []impl.Load) [2]int {
	for span := range 61 {
		for a := 0; a+span <= 60; a++ {
			if sideByRat(row, a, a+span) == 0 {
				return [2]int{a, a + span}
			}
		}
	}
	return [2]int{-1, -1}
}

// With the guarantee that the moment about the centre, if this is a place, is 0.
func TestNarrowBase(t *testing.T) {
	spans := map[int]int{}
	for _, row := range slices.Concat(shortRows(), longRows(300)) {
		a, b, ok := impl.NarrowBase(row)
		if len(row) == 0 {
			if ok || a != 0 || b != 0 {
				t.Errorf("NarrowBase of no Loads = %d, %d, %v", a, b, ok)
			}
			continue
		}
		if want := narrowByDefinition(row); !ok || [2]int{a, b} != want {
			t.Fatalf("NarrowBase(%v) = %d, %d, %v; want %v", row, a, b, ok, want)
		}
		spans[b-a]++
		centre, _ := impl.CentreOf(row)
		if (centre[1] == 1) != (a == b) {
			t.Fatalf("NarrowBase(%v) = %d, %d with the centre %v", row, a, b, centre)
		}
		if m, ok := impl.MomentAbout(row, a); !ok || (m == 0) != (a == b) {
			t.Fatalf("NarrowBase(%v) = %d, %d with the moment %d", row, a, b, m)
		}
	}
	if spans[0] == 0 || spans[1] == 0 {
		t.Fatal("only one kind of centre was tried", spans)
	}
}

func textByHand(row []impl.Load) string {
	if len(row) == 0 {
		return "none"
	}
	text := ""
	for _, l := range row {
		text += " " + strconv.Itoa(l.Place) + ":" + strconv.Itoa(l.Weight)
	}
	return text[1:]
}

func TestRowTextsRoundTrip(t *testing.T) {
	rows := slices.Concat(shortRows(), longRows(500))
	for p := range 61 {
		for w := 1; w <= 99; w++ {
			rows = append(rows, rowOf(p, w))
		}
	}
	for _, row := range rows {
		s, ok := impl.RowText(row)
		if !ok || s != textByHand(row) {
			t.Fatalf("RowText(%v) = %q, %v", row, s, ok)
		}
		if back, ok := impl.ParseRow(s); !ok || !slices.Equal(back, row) {
			t.Fatalf("ParseRow(%q) = %v, %v", s, back, ok)
		}
	}
}

// ParseRow accepts just what RowText can return, here among all short strings.
func TestParseRowAcceptsJustWhatRowTextWrites(t *testing.T) {
	written := map[string][]impl.Load{"none": nil}
	for p := range 61 {
		for w := 1; w <= 99; w++ {
			written[textByHand(rowOf(p, w))] = rowOf(p, w)
		}
	}
	for p := range 10 {
		for w := 1; w <= 9; w++ {
			for q := range 10 {
				for x := 1; x <= 9; x++ {
					written[textByHand(rowOf(p, w, q, x))] = rowOf(p, w, q, x)
				}
			}
		}
	}
	for _, s := range wordsOver("0 1:69", 7) {
		want, is := written[s]
		if row, ok := impl.ParseRow(s); ok != is || !slices.Equal(row, want) {
			t.Fatalf("ParseRow(%q) = %v, %v; want %v, %v", s, row, ok, want, is)
		}
	}
}

func TestParseRowRejectsOtherTexts(t *testing.T) {
	full := textByHand(repeatLoad(impl.MaxLoads, 60, 99))
	if row, ok := impl.ParseRow(full); !ok || len(row) != impl.MaxLoads {
		t.Error("longest row", row, ok)
	}
	texts := []string{
		"", " ", ":", "None", "none ", " none", "nonenone", "none none", "none 1:1", "1:1 none", "1", "1:", ":1", "1:1:1", "1::1",
		"1:1 ", " 1:1", "1:1  2:2", "1:1\t2:2", "1:1\n", "1:1,2:2", "01:1", "1:01", "+1:1", "1:+1", "-0:1", "-1:1", "1:-1", "1:0",
		"61:1", "1:100", "1:1 61:1", "60:99 60:100", "1.0:1", "1:1e1", "0x1:1", "1 :1", "1: 1", "1:1 2", "1000000:1", "1:1000000",
		"18446744073709551617:1", "1:18446744073709551617", "1:1\x00", "\xff:1", "１:1", "1;1",
		full + " 60:99", full + " ", full + " x", strings.Repeat("1:1 ", 999) + "1:1", strings.Repeat("1:1 ", 5000),
		strings.Repeat(" ", impl.MaxString), strings.Repeat(":", impl.MaxString+1), strings.Repeat("0", 5000) + "1:1", everyByte(),
	}
	for _, s := range texts {
		if row, ok := impl.ParseRow(s); ok || len(row) != 0 {
			t.Errorf("ParseRow(%.40q) = %v, %v", s, row, ok)
		}
	}
}

// rowCall is one call of a function of this chapter: what it returns, as one value each way.
type rowCall struct {
	name   string
	values []int
	made   []impl.Load
	text   string
	ok     bool
}

// callsOf calls all functions of the chapter that have a row with these arguments.
func callsOf(row []impl.Load, a, b, p int) []rowCall {
	weight, weightOK := impl.WeightOf(row)
	moment, momentOK := impl.MomentAbout(row, p)
	centre, centreOK := impl.CentreOf(row)
	side, sideOK := impl.TipSide(row, a, b)
	left, right, reactionsOK := impl.ReactionsOf(row, a, b)
	merged, mergedOK := impl.MergeRow(row)
	joined, joinedOK := impl.JoinRows(row, row)
	shifted, shiftedOK := impl.ShiftRow(row, p)
	mirror, mirrorOK := impl.MirrorRow(row)
	low, high, placesOK := impl.StandPlaces(row, a, b, p)
	counter, counterOK := impl.LeastCounter(row, a, b, p)
	extra, extraOK := impl.MostExtra(row, a, b, p)
	from, to, narrowOK := impl.NarrowBase(row)
	text, textOK := impl.RowText(row)
	return []rowCall{
		{name: "WeightOf", values: []int{weight}, ok: weightOK},
		{name: "MomentAbout", values: []int{moment}, ok: momentOK},
		{name: "CentreOf", values: centre[:], ok: centreOK},
		{name: "TipSide", values: []int{side}, ok: sideOK},
		{name: "ReactionsOf", values: slices.Concat(left[:], right[:]), ok: reactionsOK},
		{name: "MergeRow", made: merged, ok: mergedOK},
		{name: "JoinRows", made: joined, ok: joinedOK},
		{name: "ShiftRow", made: shifted, ok: shiftedOK},
		{name: "MirrorRow", made: mirror, ok: mirrorOK},
		{name: "StandPlaces", values: []int{low, high}, ok: placesOK},
		{name: "LeastCounter", values: []int{counter}, ok: counterOK},
		{name: "MostExtra", values: []int{extra}, ok: extraOK},
		{name: "NarrowBase", values: []int{from, to}, ok: narrowOK},
		{name: "RowText", text: text, ok: textOK},
	}
}

func (c rowCall) zero() bool {
	return len(c.made) == 0 && c.text == "" && !slices.ContainsFunc(c.values, func(v int) bool { return v != 0 })
}

func sameCalls(x, y []rowCall) bool {
	return slices.EqualFunc(x, y, func(c, d rowCall) bool {
		return c.name == d.name && slices.Equal(c.values, d.values) && slices.Equal(c.made, d.made) && c.text == d.text && c.ok == d.ok
	})
}

// Without a row every function fails, with zero values beside the false.
func TestFunctionsFailWithoutARow(t *testing.T) {
	for _, row := range badRows() {
		for _, c := range callsOf(row, 20, 40, 30) {
			if c.ok || !c.zero() {
				t.Errorf("%s of %d Loads, %v first: %+v", c.name, len(row), row[0], c)
			}
		}
	}
}

func TestFunctionsFailWithoutABase(t *testing.T) {
	needBase := []string{"TipSide", "ReactionsOf", "StandPlaces", "LeastCounter", "MostExtra"}
	for _, row := range [][]impl.Load{nil, rowOf(30, 1), rowOf(0, 1, 60, 1), rowOf(0, 9), rowOf(60, 9), repeatLoad(12, 30, 1)} {
		for _, base := range badBases() {
			for _, c := range callsOf(row, base[0], base[1], 30) {
				if slices.Contains(needBase, c.name) && (c.ok || !c.zero()) {
					t.Errorf("%s of %v on %v: %+v", c.name, row, base, c)
				}
			}
		}
	}
}

func TestFunctionsFailWithoutAPlace(t *testing.T) {
	needPlace := []string{"MomentAbout", "LeastCounter", "MostExtra"}
	for _, row := range [][]impl.Load{nil, rowOf(30, 1), rowOf(0, 1, 60, 1), rowOf(0, 9), rowOf(60, 9), repeatLoad(12, 30, 1)} {
		for _, p := range badPlaces() {
			for _, c := range callsOf(row, 20, 40, p) {
				if slices.Contains(needPlace, c.name) && (c.ok || !c.zero()) {
					t.Errorf("%s of %v with %d: %+v", c.name, row, p, c)
				}
			}
		}
	}
}

// Promise 13: results for all arguments, the same ones again, and the arguments as they were, also
// beyond their length.
func TestRowFunctionsReturnAndLeaveTheirArguments(t *testing.T) {
	numbers := append(badPlaces(), 0, 1, 30, 60, 99)
	for _, row := range slices.Concat(badRows(), longRows(40), [][]impl.Load{nil, rowOf(60, 1, 0, 2, 60, 3)}) {
		full := append(slices.Clone(row), rowOf(7, 7, 8, 8)...)
		before := slices.Clone(full)
		given := full[:len(row)]
		for i, a := range numbers {
			p := numbers[(i*5+3)%len(numbers)]
			b := numbers[(i*3+1)%len(numbers)]
			calls := callsOf(given, a, b, p)
			for _, c := range calls {
				if !c.ok && !c.zero() {
					t.Fatalf("%s fails with %+v", c.name, c)
				}
				for k := range c.made {
					c.made[k] = impl.Load{Place: -7, Weight: -7}
				}
				_ = append(c.made, impl.Load{Place: -8, Weight: -8})
			}
			if !slices.Equal(full, before) {
				t.Fatalf("the row %v became %v", before, full)
			}
			if again := callsOf(given, a, b, p); !sameCalls(again, callsOf(slices.Clone(row), a, b, p)) {
				t.Fatalf("other results of the same row %v", row)
			}
		}
	}
}

// Results share no memory with an argument: changing either does not show in the other.
func TestMadeRowsAreNewMemory(t *testing.T) {
	row := rowOf(2, 3, 5, 1, 9, 4)
	want := slices.Clone(row)
	merged, _ := impl.MergeRow(row)
	left, _ := impl.JoinRows(row, nil)
	right, _ := impl.JoinRows(nil, row)
	shifted, _ := impl.ShiftRow(row, 0)
	mirror, _ := impl.MirrorRow(row)
	for i := range row {
		row[i] = impl.Load{Place: 60, Weight: 99}
	}
	for _, made := range [][]impl.Load{merged, left, right, shifted} {
		if !slices.Equal(made, want) {
			t.Error("made row changed", made)
		}
		made[0].Weight = 50
	}
	if back, ok := impl.MirrorRow(mirror); !ok || !slices.Equal(back, want) {
		t.Error("mirrored row changed", mirror)
	}
	if !slices.Equal(row, repeatLoad(3, 60, 99)) {
		t.Error("argument changed", row)
	}
	first, _ := impl.ParseRow("2:3 5:1")
	first[0].Place = 9
	if second, ok := impl.ParseRow("2:3 5:1"); !ok || !slices.Equal(second, rowOf(2, 3, 5, 1)) {
		t.Error("ParseRow again", second)
	}
}
