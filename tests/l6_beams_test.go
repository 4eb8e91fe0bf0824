package tests

import (
	"math"
	"math/big"
	"slices"
	"testing"

	"loop.example/g01159/impl"
)

func beamOf(length, left, right int) impl.Beam {
	return impl.Beam{Length: length, Left: left, Right: right}
}

// manyBeams lists all short Beams, and longer ones with supports at and near their ends.
func manyBeams() []impl.Beam {
	var beams []impl.Beam
	for length := 1; length <= 6; length++ {
		for left := range length {
			for right := left + 1; right <= length; right++ {
				beams = append(beams, beamOf(length, left, right))
			}
		}
	}
	for _, length := range []int{10, 27, 59, 60} {
		places := []int{0, 1, length / 3, length / 2, length - 1, length}
		for i, left := range places {
			for _, right := range places[i+1:] {
				beams = append(beams, beamOf(length, left, right))
			}
		}
	}
	return beams
}

// badBeams are no Beams, by their Length or by a support.
func badBeams() []impl.Beam {
	beams := []impl.Beam{
		{}, beamOf(0, 0, 1), beamOf(-1, 0, 1), beamOf(61, 0, 60), beamOf(61, 0, 61), beamOf(10, 5, 5), beamOf(10, 6, 5), beamOf(10, -1, 5),
		beamOf(10, 0, 11), beamOf(10, 10, 11), beamOf(10, 11, 12), beamOf(10, -2, -1), beamOf(1, 1, 1), beamOf(1, 0, 0), beamOf(0, -1, 0),
	}
	for _, n := range []int{math.MaxInt, math.MinInt, math.MinInt + 1, 1 << 32, -1 << 32} {
		beams = append(beams, beamOf(n, 0, 1), beamOf(10, n, 5), beamOf(10, 5, n), beamOf(n, 0, n), beamOf(n, n, n), beamOf(10, n, n+1))
	}
	return beams
}

// rowsOn lists rows of all sizes that are on a Beam, also with all that it can bear at its ends.
func rowsOn(b impl.Beam) [][]impl.Load {
	next := numbersFrom(uint32(1 + b.Length + 61*b.Left + 3721*b.Right))
	rows := [][]impl.Load{
		nil, {}, rowOf(0, 1), rowOf(b.Length, 1), rowOf(b.Left, 7), rowOf(b.Right, 7), rowOf(b.Left, 2, b.Right, 3),
		rowOf(b.Length, 99, 0, 99), repeatLoad(impl.MaxLoads, 0, 99), repeatLoad(impl.MaxLoads, b.Length, 99),
		repeatLoad(impl.MaxLoads-1, b.Length, 99), repeatLoad(5, b.Length/2, 3),
	}
	for len(rows) < 40 {
		row := make([]impl.Load, 1+next(impl.MaxLoads))
		for i := range row {
			row[i] = impl.Load{Place: next(b.Length + 1), Weight: 1 + next(99)}
			if len(rows)%2 == 0 {
				row[i] = impl.Load{Place: b.Left + next(b.Right-b.Left+1), Weight: 1 + next(5)}
			}
		}
		rows = append(rows, row)
	}
	return rows
}

// rowsOff are rows that are not on a Beam, unless it is as long as can be.
func rowsOff(b impl.Beam) [][]impl.Load {
	if b.Length == impl.MaxPlace {
		return nil
	}
	over := b.Length + 1
	return [][]impl.Load{rowOf(over, 1), rowOf(60, 1), rowOf(b.Left, 99, over, 1), rowOf(over, 1, b.Right, 9), append(repeatLoad(11, 0, 1), rowOf(over, 1)...)}
}

// The definitions of the chapter, told once more.

// reactionsByDefinition returns the reactions times the span, by the fractions of the library.
func reactionsByDefinition(b impl.Beam, row []impl.Load) [2]int {
	weight, moment := sumsOf(row)
	span := int64(b.Right - b.Left)
	right := big.NewRat(moment-weight*int64(b.Left), span)
	left := new(big.Rat).Sub(big.NewRat(weight, 1), right)
	times := big.NewRat(span, 1)
	left.Mul(left, times)
	right.Mul(right, times)
	return [2]int{int(left.Num().Int64()), int(right.Num().Int64())}
}

func shearByDefinition(b impl.Beam, row []impl.Load, p int) int {
	reactions := reactionsByDefinition(b, row)
	shear := 0
	if b.Left <= p {
		shear += reactions[0]
	}
	if b.Right <= p {
		shear += reactions[1]
	}
	for _, l := range row {
		if l.Place <= p {
			shear -= (b.Right - b.Left) * l.Weight
		}
	}
	return shear
}

func bendByDefinition(b impl.Beam, row []impl.Load, p int) int {
	reactions := reactionsByDefinition(b, row)
	bend := 0
	if b.Left < p {
		bend += reactions[0] * (p - b.Left)
	}
	if b.Right < p {
		bend += reactions[1] * (p - b.Right)
	}
	for _, l := range row {
		if l.Place < p {
			bend -= (b.Right - b.Left) * l.Weight * (p - l.Place)
		}
	}
	return bend
}

func bendsByDefinition(b impl.Beam, row []impl.Load) []int {
	bends := make([]int, b.Length+1)
	for p := range bends {
		bends[p] = bendByDefinition(b, row, p)
	}
	return bends
}

func restsByDefinition(b impl.Beam, row []impl.Load) bool {
	return sideByRat(row, b.Left, b.Right) == 0
}

func TestIsBeam(t *testing.T) {
	for length := -2; length <= 63; length++ {
		for left := -2; left <= 63; left++ {
			for right := -2; right <= 63; right++ {
				want := length >= 1 && length <= 60 && left >= 0 && left < right && right <= length
				if impl.IsBeam(beamOf(length, left, right)) != want {
					t.Fatalf("IsBeam of %d with the supports %d and %d is %v", length, left, right, !want)
				}
			}
		}
	}
	for _, b := range manyBeams() {
		if !impl.IsBeam(b) {
			t.Errorf("IsBeam(%v) is false", b)
		}
	}
	for _, b := range badBeams() {
		if impl.IsBeam(b) {
			t.Errorf("IsBeam(%v) is true", b)
		}
	}
}

func TestRestsOn(t *testing.T) {
	counts := map[bool]int{}
	for _, b := range manyBeams() {
		for _, row := range rowsOn(b) {
			want := restsByDefinition(b, row)
			if rests, ok := impl.RestsOn(b, row); !ok || rests != want {
				t.Fatalf("RestsOn(%v, %v) = %v, %v", b, row, rests, ok)
			}
			counts[want]++
		}
	}
	if counts[true] < 500 || counts[false] < 500 {
		t.Error("too few rows of a kind", counts)
	}
}

// Loads on supports, ends that jut out and no Loads.
func TestRestsOnOfKnownRows(t *testing.T) {
	cases := []struct {
		b    impl.Beam
		row  []impl.Load
		want bool
	}{
		{beamOf(10, 2, 8), nil, true}, {beamOf(10, 2, 8), rowOf(2, 99), true}, {beamOf(10, 2, 8), rowOf(8, 99), true},
		{beamOf(10, 2, 8), rowOf(1, 1), false}, {beamOf(10, 2, 8), rowOf(9, 1), false}, {beamOf(10, 2, 8), rowOf(0, 3, 8, 1), true},
		{beamOf(10, 2, 8), rowOf(0, 4, 8, 1), false}, {beamOf(10, 2, 8), rowOf(10, 3, 2, 1), true}, {beamOf(10, 2, 8), rowOf(10, 4, 2, 1), false},
		{beamOf(10, 2, 8), rowOf(0, 50, 10, 50), true}, {beamOf(1, 0, 1), rowOf(0, 99, 1, 1), true}, {beamOf(60, 59, 60), rowOf(60, 99), true},
		{beamOf(60, 59, 60), rowOf(58, 1, 60, 1), true}, {beamOf(60, 59, 60), rowOf(58, 2, 60, 1), false}, {beamOf(60, 0, 1), rowOf(60, 1, 0, 59), true},
		{beamOf(60, 0, 1), rowOf(60, 1, 0, 58), false},
	}
	for _, c := range cases {
		if rests, ok := impl.RestsOn(c.b, c.row); !ok || rests != c.want {
			t.Errorf("RestsOn(%v, %v) = %v, %v", c.b, c.row, rests, ok)
		}
	}
}

func TestSupportTimes(t *testing.T) {
	for _, b := range manyBeams() {
		for _, row := range rowsOn(b) {
			want := reactionsByDefinition(b, row)
			left, right, ok := impl.SupportTimes(b, row)
			if !ok || [2]int{left, right} != want {
				t.Fatalf("SupportTimes(%v, %v) = %d, %d, %v; want %v", b, row, left, right, ok, want)
			}
			span := b.Right - b.Left
			weight, _ := impl.WeightOf(row)
			if left+right != weight*span {
				t.Fatalf("SupportTimes(%v, %v) = %d, %d with the weight %d", b, row, left, right, weight)
			}
			aboutLeft, _ := impl.MomentAbout(row, b.Left)
			aboutRight, _ := impl.MomentAbout(row, b.Right)
			if left != -aboutRight || right != aboutLeft {
				t.Fatalf("SupportTimes(%v, %v) = %d, %d with the moments %d, %d", b, row, left, right, aboutLeft, aboutRight)
			}
			// As fractions they are those of chapter 2, and a row rests exactly if none is less than 0.
			atLeft, atRight, _ := impl.ReactionsOf(row, b.Left, b.Right)
			if left*atLeft[1] != atLeft[0]*span || right*atRight[1] != atRight[0]*span {
				t.Fatalf("SupportTimes(%v, %v) = %d, %d; ReactionsOf are %v, %v", b, row, left, right, atLeft, atRight)
			}
			if rests, _ := impl.RestsOn(b, row); rests != (left >= 0 && right >= 0) {
				t.Fatalf("RestsOn(%v, %v) = %v with the reactions %d, %d", b, row, rests, left, right)
			}
		}
	}
}

func TestSupportTimesOfKnownRows(t *testing.T) {
	cases := []struct {
		b    impl.Beam
		row  []impl.Load
		want [2]int
	}{
		{beamOf(10, 2, 8), nil, [2]int{0, 0}}, {beamOf(10, 2, 8), rowOf(5, 6), [2]int{18, 18}}, {beamOf(10, 2, 8), rowOf(2, 5), [2]int{30, 0}},
		{beamOf(10, 2, 8), rowOf(8, 5), [2]int{0, 30}}, {beamOf(10, 2, 8), rowOf(0, 1), [2]int{8, -2}}, {beamOf(10, 2, 8), rowOf(10, 1), [2]int{-2, 8}},
		{beamOf(60, 0, 1), repeatLoad(12, 60, 99), [2]int{-70092, 71280}}, {beamOf(60, 59, 60), repeatLoad(12, 0, 99), [2]int{71280, -70092}},
		{beamOf(60, 0, 60), repeatLoad(12, 1, 99), [2]int{70092, 1188}},
	}
	for _, c := range cases {
		if left, right, ok := impl.SupportTimes(c.b, c.row); !ok || [2]int{left, right} != c.want {
			t.Errorf("SupportTimes(%v, %v) = %d, %d, %v; want %v", c.b, c.row, left, right, ok, c.want)
		}
	}
}

func TestShearsAndBends(t *testing.T) {
	for _, b := range manyBeams() {
		for _, row := range rowsOn(b) {
			shears, one := impl.ShearTimes(b, row)
			bends, two := impl.BendTimes(b, row)
			if !one || !two || len(shears) != b.Length || !slices.Equal(bends, bendsByDefinition(b, row)) {
				t.Fatalf("on %v, %v has the shears %v, %v and the bends %v, %v", b, row, shears, one, bends, two)
			}
			for p, shear := range shears {
				if shear != shearByDefinition(b, row, p) || bends[p+1] != bends[p]+shear {
					t.Fatalf("ShearTimes(%v, %v) = %v at %d, and the bends are %v", b, row, shears, p, bends)
				}
			}
			if bends[0] != 0 || bends[b.Length] != 0 {
				t.Fatalf("BendTimes(%v, %v) = %v", b, row, bends)
			}
		}
	}
}

func TestShearsAndBendsOfKnownRows(t *testing.T) {
	cases := []struct {
		b             impl.Beam
		row           []impl.Load
		shears, bends []int
	}{
		{beamOf(1, 0, 1), nil, []int{0}, []int{0, 0}},
		{beamOf(1, 0, 1), rowOf(0, 5, 1, 7), []int{0}, []int{0, 0}},
		{beamOf(2, 0, 2), rowOf(1, 3), []int{3, -3}, []int{0, 3, 0}},
		{beamOf(4, 1, 3), nil, []int{0, 0, 0, 0}, []int{0, 0, 0, 0, 0}},
		{beamOf(4, 1, 3), rowOf(1, 9, 3, 9), []int{0, 0, 0, 0}, []int{0, 0, 0, 0, 0}},
		{beamOf(4, 1, 3), rowOf(0, 1), []int{-2, 1, 1, 0}, []int{0, -2, -1, 0, 0}},
		{beamOf(4, 1, 3), rowOf(4, 1), []int{0, -1, -1, 2}, []int{0, 0, -1, -2, 0}},
		{beamOf(4, 1, 3), rowOf(0, 1, 4, 1), []int{-2, 0, 0, 2}, []int{0, -2, -2, -2, 0}},
		{beamOf(4, 1, 3), rowOf(4, 2, 2, 3, 2, 1), []int{0, 2, -6, 4}, []int{0, 0, 2, -4, 0}},
		{beamOf(10, 2, 8), rowOf(5, 6), []int{0, 0, 18, 18, 18, -18, -18, -18, 0, 0}, []int{0, 0, 0, 18, 36, 54, 36, 18, 0, 0, 0}},
		{beamOf(3, 0, 1), rowOf(3, 99), []int{-198, 99, 99}, []int{0, -198, -99, 0}},
		{beamOf(3, 2, 3), rowOf(0, 99), []int{-99, -99, 198}, []int{0, -99, -198, 0}},
	}
	for _, c := range cases {
		shears, one := impl.ShearTimes(c.b, c.row)
		bends, two := impl.BendTimes(c.b, c.row)
		if !one || !two || !slices.Equal(shears, c.shears) || !slices.Equal(bends, c.bends) {
			t.Errorf("on %v, %v has the shears %v, %v and the bends %v, %v", c.b, c.row, shears, one, bends, two)
		}
	}
}

func TestGreatestBend(t *testing.T) {
	down := 0
	for _, b := range manyBeams() {
		for _, row := range rowsOn(b) {
			bends := bendsByDefinition(b, row)
			sizes := make([]int, len(bends))
			for p, bend := range bends {
				sizes[p] = max(bend, -bend)
			}
			want := slices.Max(sizes)
			place := slices.Index(sizes, want)
			if greatest, at, ok := impl.GreatestBend(b, row); !ok || greatest != want || at != place {
				t.Fatalf("GreatestBend(%v, %v) = %d, %d, %v; want %d, %d", b, row, greatest, at, ok, want, place)
			}
			if bends[place] < 0 {
				down++
			}
		}
	}
	if down < 200 {
		t.Error("too few bends of less than 0", down)
	}
	cases := []struct {
		b    impl.Beam
		row  []impl.Load
		want [2]int
	}{
		{beamOf(10, 2, 8), nil, [2]int{0, 0}}, {beamOf(10, 2, 8), rowOf(2, 9, 8, 9), [2]int{0, 0}}, {beamOf(10, 2, 8), rowOf(5, 6), [2]int{54, 5}},
		{beamOf(4, 1, 3), rowOf(0, 1), [2]int{2, 1}}, {beamOf(4, 1, 3), rowOf(4, 1), [2]int{2, 3}}, {beamOf(4, 1, 3), rowOf(0, 1, 4, 1), [2]int{2, 1}},
		{beamOf(4, 1, 3), rowOf(4, 2, 2, 4), [2]int{4, 3}}, {beamOf(4, 1, 3), rowOf(4, 1, 2, 3), [2]int{2, 2}},
		{beamOf(9, 0, 9), rowOf(3, 1, 6, 1), [2]int{27, 3}}, {beamOf(60, 0, 60), repeatLoad(12, 30, 99), [2]int{1069200, 30}},
		{beamOf(60, 0, 59), repeatLoad(12, 60, 99), [2]int{70092, 59}}, {beamOf(60, 0, 1), repeatLoad(12, 60, 99), [2]int{70092, 1}},
	}
	for _, c := range cases {
		if greatest, at, ok := impl.GreatestBend(c.b, c.row); !ok || [2]int{greatest, at} != c.want {
			t.Errorf("GreatestBend(%v, %v) = %d, %d, %v; want %v", c.b, c.row, greatest, at, ok, c.want)
		}
	}
}

func TestInfluenceOf(t *testing.T) {
	for _, b := range manyBeams() {
		for p := range b.Length + 1 {
			influence, ok := impl.InfluenceOf(b, p)
			if !ok || len(influence) != b.Length+1 {
				t.Fatalf("InfluenceOf(%v, %d) = %v, %v", b, p, influence, ok)
			}
			for place, got := range influence {
				if want := bendByDefinition(b, rowOf(place, 1), p); got != want {
					t.Fatalf("InfluenceOf(%v, %d) = %v; want %d for %d", b, p, influence, want, place)
				}
			}
		}
	}
	cases := []struct {
		b    impl.Beam
		p    int
		want []int
	}{
		{beamOf(4, 1, 3), 0, []int{0, 0, 0, 0, 0}}, {beamOf(4, 1, 3), 1, []int{-2, 0, 0, 0, 0}}, {beamOf(4, 1, 3), 2, []int{-1, 0, 1, 0, -1}},
		{beamOf(4, 1, 3), 3, []int{0, 0, 0, 0, -2}}, {beamOf(4, 1, 3), 4, []int{0, 0, 0, 0, 0}}, {beamOf(1, 0, 1), 1, []int{0, 0}},
		{beamOf(5, 0, 5), 2, []int{0, 3, 6, 4, 2, 0}}, {beamOf(10, 2, 8), 5, []int{-6, -3, 0, 3, 6, 9, 6, 3, 0, -3, -6}},
	}
	for _, c := range cases {
		if influence, ok := impl.InfluenceOf(c.b, c.p); !ok || !slices.Equal(influence, c.want) {
			t.Errorf("InfluenceOf(%v, %d) = %v, %v; want %v", c.b, c.p, influence, ok, c.want)
		}
	}
}

// The first half of promise 6: bends are those by influence.
func TestBendsAreThoseByInfluence(t *testing.T) {
	for _, b := range manyBeams() {
		for _, row := range rowsOn(b) {
			bends, _ := impl.BendTimes(b, row)
			for p, bend := range bends {
				influence, _ := impl.InfluenceOf(b, p)
				sum := 0
				for _, l := range row {
					sum += l.Weight * influence[l.Place]
				}
				if by, ok := impl.BendBy(b, row, p); !ok || by != bend || sum != bend {
					t.Fatalf("BendBy(%v, %v, %d) = %d, %v; by influence %d, and the bend is %d", b, row, p, by, ok, sum, bend)
				}
			}
		}
	}
}

func TestOutermostPlaces(t *testing.T) {
	found, none, helped := 0, 0, 0
	for _, b := range manyBeams() {
		for _, row := range rowsOn(b) {
			for _, w := range []int{1, 20, 99} {
				var places []int
				for p := range b.Length + 1 {
					if standsBesides(row, b.Left, b.Right, p, w) {
						places = append(places, p)
					}
				}
				low, high, ok := impl.OutermostPlaces(b, row, w)
				if ok != (len(places) > 0) || ok && (low != places[0] || high != places[len(places)-1]) || !ok && (low != 0 || high != 0) {
					t.Fatalf("OutermostPlaces(%v, %v, %d) = %d, %d, %v; want %v", b, row, w, low, high, ok, places)
				}
				if !ok {
					none++
					continue
				}
				found++
				if !restsByDefinition(b, row) {
					helped++
				}
			}
		}
	}
	if found < 1000 || none < 1000 || helped < 100 {
		t.Error("too few rows of a kind", found, none, helped)
	}
}

func TestOutermostPlacesOfKnownRows(t *testing.T) {
	b := beamOf(10, 2, 8)
	cases := []struct {
		b         impl.Beam
		row       []impl.Load
		weight    int
		low, high int
		ok        bool
	}{
		{b, nil, 1, 2, 8, true}, {b, nil, 99, 2, 8, true}, {b, rowOf(5, 6), 30, 2, 8, true}, {b, rowOf(5, 6), 18, 1, 9, true},
		{b, rowOf(5, 6), 19, 2, 8, true}, {b, rowOf(5, 6), 9, 0, 10, true}, {b, rowOf(5, 6), 10, 1, 9, true}, {b, rowOf(5, 99), 1, 0, 10, true},
		// The walker has to hold the row down.
		{b, rowOf(0, 3), 1, 8, 10, true}, {b, rowOf(0, 4), 1, 10, 10, true}, {b, rowOf(0, 5), 1, 0, 0, false}, {b, rowOf(10, 4), 1, 0, 0, true},
		{b, rowOf(10, 5), 1, 0, 0, false}, {b, repeatLoad(11, 5, 1), 1, 0, 10, true}, {b, repeatLoad(12, 5, 1), 1, 0, 0, false},
		{b, repeatLoad(12, 2, 1), 5, 0, 0, false}, {beamOf(60, 0, 60), repeatLoad(11, 60, 99), 99, 0, 60, true},
		{beamOf(10, 2, 8), nil, 0, 0, 0, false}, {b, nil, 100, 0, 0, false}, {b, rowOf(5, 6), -1, 0, 0, false}, {b, rowOf(5, 6), 0, 0, 0, false},
		{b, rowOf(5, 6), 100, 0, 0, false}, {b, rowOf(5, 6), math.MaxInt, 0, 0, false}, {b, rowOf(5, 6), math.MinInt, 0, 0, false},
		{b, rowOf(5, 6), 1 << 32, 0, 0, false},
	}
	for _, c := range cases {
		low, high, ok := impl.OutermostPlaces(c.b, c.row, c.weight)
		if low != c.low || high != c.high || ok != c.ok {
			t.Errorf("OutermostPlaces(%v, %v, %d) = %d, %d, %v", c.b, c.row, c.weight, low, high, ok)
		}
	}
}

// manyConvoys lists convoys of all sizes, also with several Loads side by side, and all as far behind as can be.
func manyConvoys() [][]impl.Load {
	next := numbersFrom(11)
	convoys := [][]impl.Load{
		rowOf(0, 1), rowOf(0, 99), rowOf(0, 2, 3, 1), rowOf(0, 1, 0, 1), rowOf(0, 1, 20, 1), rowOf(0, 99, 20, 99), rowOf(0, 1, 1, 99),
		repeatLoad(6, 0, 1), repeatLoad(6, 0, 99), append(rowOf(0, 1), repeatLoad(5, 20, 99)...), rowOf(0, 99, 4, 98, 8, 97, 12, 96, 16, 95, 20, 94),
		rowOf(0, 1, 1, 1, 2, 1, 3, 1, 4, 1, 5, 1), rowOf(0, 5, 0, 4, 7, 3, 7, 2),
	}
	for len(convoys) < 60 {
		convoy := rowOf(0, 1+next(99))
		space := []int{2, 6, 21}[len(convoys)%3]
		for range next(impl.MaxConvoy) {
			convoy = append(convoy, impl.Load{Place: next(space), Weight: 1 + next(99)})
		}
		slices.SortStableFunc(convoy, func(x, y impl.Load) int { return x.Place - y.Place })
		convoys = append(convoys, convoy)
	}
	return convoys
}

// badConvoys are no convoys, by their size, a place, a weight or their order.
func badConvoys() [][]impl.Load {
	convoys := [][]impl.Load{
		nil, {}, rowOf(1, 1), rowOf(0, 0), rowOf(0, 100), rowOf(0, -1), rowOf(-1, 1), rowOf(0, 1, 21, 1), rowOf(0, 1, 60, 1), rowOf(0, 1, 5, 0),
		rowOf(0, 1, 5, 100), rowOf(0, 1, -1, 1), rowOf(3, 1, 0, 1), rowOf(0, 1, 5, 1, 4, 1), rowOf(0, 1, 5, 1, 0, 1), rowOf(-1, 1, 0, 1),
		rowOf(0, 1, 21, 1, 20, 1), repeatLoad(7, 0, 1), repeatLoad(1<<16, 0, 1), rowOf(1, 1, 2, 1), rowOf(20, 1), make([]impl.Load, 1),
	}
	for _, n := range []int{math.MaxInt, math.MinInt, math.MinInt + 1, 1 << 32, -1 << 32} {
		convoys = append(convoys, rowOf(n, 1), rowOf(0, n), rowOf(0, 1, n, 1), rowOf(0, 1, 1, n), rowOf(n, 1, 0, 1))
	}
	return convoys
}

func TestIsConvoy(t *testing.T) {
	for _, convoy := range manyConvoys() {
		if !impl.IsConvoy(convoy) {
			t.Errorf("IsConvoy(%v) is false", convoy)
		}
	}
	for _, convoy := range badConvoys() {
		if impl.IsConvoy(convoy) {
			t.Errorf("IsConvoy of %d Loads is true: %.3v", len(convoy), convoy[:min(len(convoy), 3)])
		}
	}
	for p := -3; p <= 63; p++ {
		for w := -3; w <= 103; w++ {
			heavy := w >= 1 && w <= 99
			if impl.IsConvoy(rowOf(p, w)) != (p == 0 && heavy) || impl.IsConvoy(rowOf(0, 1, p, w)) != (p >= 0 && p <= 20 && heavy) {
				t.Errorf("IsConvoy with %d:%d", p, w)
			}
			if impl.IsConvoy(rowOf(0, 1, 10, 1, p, 1)) != (p >= 10 && p <= 20) {
				t.Errorf("IsConvoy with %d behind 10", p)
			}
		}
	}
	for n := range 30 {
		if impl.IsConvoy(repeatLoad(n, 0, 99)) != (n >= 1 && n <= 6) {
			t.Errorf("IsConvoy of %d Loads", n)
		}
	}
}

func convoyByDefinition(convoy []impl.Load, x int) []impl.Load {
	var row []impl.Load
	for _, l := range convoy {
		if x-l.Place >= 0 {
			row = append(row, impl.Load{Place: x - l.Place, Weight: l.Weight})
		}
	}
	return row
}

func TestConvoyRow(t *testing.T) {
	for _, b := range manyBeams() {
		for _, convoy := range manyConvoys() {
			for x := range b.Length + 1 {
				row, ok := impl.ConvoyRow(b, convoy, x)
				if !ok || !slices.Equal(row, convoyByDefinition(convoy, x)) {
					t.Fatalf("ConvoyRow(%v, %v, %d) = %v, %v", b, convoy, x, row, ok)
				}
				if _, on := impl.RestsOn(b, row); !on {
					t.Fatalf("ConvoyRow(%v, %v, %d) = %v is not on the Beam", b, convoy, x, row)
				}
			}
		}
	}
	b := beamOf(10, 2, 8)
	cases := []struct {
		convoy []impl.Load
		x      int
		want   []impl.Load
	}{
		{rowOf(0, 2, 3, 1), 0, rowOf(0, 2)}, {rowOf(0, 2, 3, 1), 2, rowOf(2, 2)}, {rowOf(0, 2, 3, 1), 3, rowOf(3, 2, 0, 1)},
		{rowOf(0, 2, 3, 1), 10, rowOf(10, 2, 7, 1)}, {rowOf(0, 5, 0, 4, 7, 3, 7, 2), 8, rowOf(8, 5, 8, 4, 1, 3, 1, 2)},
		{rowOf(0, 5, 0, 4, 7, 3, 7, 2), 6, rowOf(6, 5, 6, 4)}, {rowOf(0, 1, 20, 9), 10, rowOf(10, 1)},
	}
	for _, c := range cases {
		if row, ok := impl.ConvoyRow(b, c.convoy, c.x); !ok || !slices.Equal(row, c.want) {
			t.Errorf("ConvoyRow(%v, %v, %d) = %v, %v; want %v", b, c.convoy, c.x, row, ok, c.want)
		}
	}
}

func TestWorstBend(t *testing.T) {
	below := 0
	for _, b := range manyBeams() {
		for _, convoy := range manyConvoys()[:30] {
			for _, p := range []int{0, 1, b.Left, (b.Left + b.Right) / 2, b.Right, b.Length} {
				worst, at, ok := impl.WorstBend(b, convoy, p)
				var bends []int
				for x := range b.Length + 1 {
					bends = append(bends, bendByDefinition(b, convoyByDefinition(convoy, x), p))
				}
				want := slices.Max(bends)
				if !ok || worst != want || at != slices.Index(bends, want) {
					t.Fatalf("WorstBend(%v, %v, %d) = %d, %d, %v; the bends are %v", b, convoy, p, worst, at, ok, bends)
				}
				if want < 0 {
					below++
				}
			}
		}
	}
	if below < 10 {
		t.Error("too few worst bends of less than 0", below)
	}
}

// The greatest bend keeps its sign, and is taken at the least position that has it.
func TestWorstBendOfKnownConvoys(t *testing.T) {
	cases := []struct {
		b      impl.Beam
		convoy []impl.Load
		p      int
		want   [2]int
	}{
		{beamOf(10, 2, 8), rowOf(0, 2, 3, 1), 5, [2]int{18, 5}}, {beamOf(10, 2, 8), rowOf(0, 2, 3, 1), 0, [2]int{0, 0}},
		{beamOf(10, 2, 8), rowOf(0, 1, 3, 2), 5, [2]int{18, 8}}, {beamOf(10, 2, 8), rowOf(0, 1), 2, [2]int{0, 2}},
		{beamOf(10, 2, 8), rowOf(0, 1), 8, [2]int{0, 0}}, {beamOf(10, 2, 8), rowOf(0, 1), 9, [2]int{0, 0}},
		// Two Loads that are as heavy come to the middle one behind the other.
		{beamOf(10, 2, 8), rowOf(0, 1, 6, 1), 5, [2]int{9, 5}}, {beamOf(4, 0, 4), rowOf(0, 1, 1, 1), 2, [2]int{6, 2}},
		// On the end that juts out to the left, each Load makes the bend less.
		{beamOf(10, 9, 10), rowOf(0, 1, 0, 1), 9, [2]int{0, 9}}, {beamOf(10, 9, 10), rowOf(0, 1, 1, 5), 9, [2]int{0, 10}},
		{beamOf(10, 9, 10), rowOf(0, 1, 2, 5), 9, [2]int{-5, 10}}, {beamOf(10, 9, 10), rowOf(0, 1, 5, 9, 6, 9), 9, [2]int{-5, 4}},
		{beamOf(60, 0, 60), append(rowOf(0, 99), repeatLoad(5, 0, 99)...), 30, [2]int{534600, 30}},
	}
	for _, c := range cases {
		if worst, at, ok := impl.WorstBend(c.b, c.convoy, c.p); !ok || [2]int{worst, at} != c.want {
			t.Errorf("WorstBend(%v, %v, %d) = %d, %d, %v; want %v", c.b, c.convoy, c.p, worst, at, ok, c.want)
		}
	}
}

// The other half of promise 6: a convoy crosses exactly if it rests in each position.
func TestConvoyCrossesExactlyIfItRestsInEachPosition(t *testing.T) {
	firstTips := map[bool]int{}
	crossed := 0
	for _, b := range manyBeams() {
		for _, convoy := range manyConvoys() {
			tips := -1
			for x := b.Length; x >= 0; x-- {
				row, _ := impl.ConvoyRow(b, convoy, x)
				rests, ok := impl.RestsOn(b, row)
				if !ok || rests != restsByDefinition(b, convoyByDefinition(convoy, x)) {
					t.Fatalf("%v on %v at %d: %v, %v", convoy, b, x, rests, ok)
				}
				if !rests {
					tips = x
				}
			}
			if can, ok := impl.CanCross(b, convoy); !ok || can != (tips < 0) {
				t.Fatalf("CanCross(%v, %v) = %v, %v; it tips at %d", b, convoy, can, ok, tips)
			}
			if tips < 0 {
				crossed++
			} else {
				firstTips[tips > 0]++
			}
		}
	}
	if crossed < 500 || firstTips[true] < 500 || firstTips[false] < 500 {
		t.Error("too few convoys of a kind", crossed, firstTips)
	}
}

func TestCanCrossOfKnownConvoys(t *testing.T) {
	cases := []struct {
		b      impl.Beam
		convoy []impl.Load
		want   bool
	}{
		{beamOf(10, 0, 10), rowOf(0, 99), true}, {beamOf(10, 0, 9), rowOf(0, 1), false}, {beamOf(10, 1, 10), rowOf(0, 1), false},
		{beamOf(10, 2, 8), rowOf(0, 2, 3, 1), false}, {beamOf(1, 0, 1), repeatLoad(6, 0, 99), true},
		// Behind the right support it is held by what is before it.
		{beamOf(10, 0, 9), rowOf(0, 1, 1, 1), false}, {beamOf(10, 0, 9), rowOf(0, 1, 2, 1), true}, {beamOf(10, 0, 9), rowOf(0, 2, 2, 1), false},
		{beamOf(10, 0, 9), rowOf(0, 2, 3, 1), true}, {beamOf(10, 0, 8), rowOf(0, 1, 2, 1), false}, {beamOf(10, 0, 8), rowOf(0, 1, 3, 1), false},
		{beamOf(10, 0, 8), rowOf(0, 1, 3, 2), true}, {beamOf(10, 0, 9), rowOf(0, 1, 20, 99), false}, {beamOf(10, 0, 9), rowOf(0, 1, 10, 99), true},
		{beamOf(10, 0, 8), rowOf(0, 1, 9, 99), true}, {beamOf(10, 0, 8), rowOf(0, 1, 10, 99), false}, {beamOf(60, 0, 1), rowOf(0, 1, 1, 99), false},
		{beamOf(10, 1, 10), rowOf(0, 1, 1, 99), false},
	}
	for _, c := range cases {
		if can, ok := impl.CanCross(c.b, c.convoy); !ok || can != c.want {
			t.Errorf("CanCross(%v, %v) = %v, %v", c.b, c.convoy, can, ok)
		}
	}
}

func TestMirrorBeam(t *testing.T) {
	for _, b := range manyBeams() {
		mirror, ok := impl.MirrorBeam(b)
		if !ok || mirror != beamOf(b.Length, b.Length-b.Right, b.Length-b.Left) {
			t.Errorf("MirrorBeam(%v) = %v, %v", b, mirror, ok)
		}
		if back, ok := impl.MirrorBeam(mirror); !ok || back != b {
			t.Errorf("MirrorBeam(%v) = %v, %v", mirror, back, ok)
		}
	}
}

// A part of the guarantee: the bend at p of a MirrorBeam with a mirrored row is that of the Beam at Length less p.
func TestBendsOfMirrorBeams(t *testing.T) {
	for _, b := range manyBeams() {
		mirror, _ := impl.MirrorBeam(b)
		for _, row := range rowsOn(b) {
			mirrored := slices.Clone(row)
			for i := range mirrored {
				mirrored[i].Place = b.Length - mirrored[i].Place
			}
			bends, one := impl.BendTimes(b, row)
			others, two := impl.BendTimes(mirror, mirrored)
			slices.Reverse(others)
			if !one || !two || !slices.Equal(bends, others) {
				t.Fatalf("the bends of %v on %v are %v, and mirrored %v", row, b, bends, others)
			}
			left, right, _ := impl.SupportTimes(b, row)
			if otherLeft, otherRight, ok := impl.SupportTimes(mirror, mirrored); !ok || left != otherRight || right != otherLeft {
				t.Fatalf("the reactions of %v on %v are %d, %d, and mirrored %d, %d", row, b, left, right, otherLeft, otherRight)
			}
		}
	}
}

func sumsOfPairs(x, y []int) []int {
	sums := make([]int, len(x))
	for i := range sums {
		sums[i] = x[i] + y[i]
	}
	return sums
}

// A part of the guarantee: shears and bends of rows that are joined are the sums of both.
func TestShearsAndBendsOfJoinedRows(t *testing.T) {
	joins := 0
	for k, b := range manyBeams() {
		for i, x := range rowsOn(b) {
			for _, y := range rowsOn(b)[(i+k)%5:] {
				joined, ok := impl.JoinRows(x, y)
				if !ok {
					continue
				}
				joins++
				shears, _ := impl.ShearTimes(b, joined)
				ofX, _ := impl.ShearTimes(b, x)
				ofY, _ := impl.ShearTimes(b, y)
				if len(shears) != b.Length || !slices.Equal(shears, sumsOfPairs(ofX, ofY)) {
					t.Fatalf("on %v, the shears of %v and %v are %v, %v, and together %v", b, x, y, ofX, ofY, shears)
				}
				bends, _ := impl.BendTimes(b, joined)
				ofX, _ = impl.BendTimes(b, x)
				ofY, _ = impl.BendTimes(b, y)
				if len(bends) != b.Length+1 || !slices.Equal(bends, sumsOfPairs(ofX, ofY)) {
					t.Fatalf("on %v, the bends of %v and %v are %v, %v, and together %v", b, x, y, ofX, ofY, bends)
				}
			}
		}
	}
	if joins < 10000 {
		t.Error("too few joined rows", joins)
	}
}

// A part of the guarantee: with supports at both ends, each row that is on the Beam rests, and no bend is less than 0.
func TestSupportsAtBothEnds(t *testing.T) {
	for length := 1; length <= impl.MaxPlace; length++ {
		b := beamOf(length, 0, length)
		for _, row := range rowsOn(b) {
			if rests, ok := impl.RestsOn(b, row); !ok || !rests {
				t.Fatalf("RestsOn(%v, %v) = %v, %v", b, row, rests, ok)
			}
			if bends, ok := impl.BendTimes(b, row); !ok || slices.Min(bends) < 0 {
				t.Fatalf("BendTimes(%v, %v) = %v, %v", b, row, bends, ok)
			}
		}
		for _, convoy := range manyConvoys() {
			if can, ok := impl.CanCross(b, convoy); !ok || !can {
				t.Fatalf("CanCross(%v, %v) = %v, %v", b, convoy, can, ok)
			}
		}
	}
}

// beamCall is one call of a function of this chapter: what it returns, as one value each way.
type beamCall struct {
	name    string
	numbers []int
	list    []int
	row     []impl.Load
	ok      bool
}

func (c beamCall) zero() bool {
	return len(c.list) == 0 && len(c.row) == 0 && !slices.ContainsFunc(c.numbers, func(n int) bool { return n != 0 })
}

// rowOnBeamCalls calls all functions that have a Beam and a row with these arguments.
func rowOnBeamCalls(b impl.Beam, row []impl.Load, p, weight int) []beamCall {
	rests, restsOK := impl.RestsOn(b, row)
	left, right, supportOK := impl.SupportTimes(b, row)
	shears, shearOK := impl.ShearTimes(b, row)
	bends, bendOK := impl.BendTimes(b, row)
	greatest, place, greatestOK := impl.GreatestBend(b, row)
	by, byOK := impl.BendBy(b, row, p)
	low, high, outermostOK := impl.OutermostPlaces(b, row, weight)
	return []beamCall{
		{name: "RestsOn", numbers: []int{asInt(rests)}, ok: restsOK},
		{name: "SupportTimes", numbers: []int{left, right}, ok: supportOK},
		{name: "ShearTimes", list: shears, ok: shearOK},
		{name: "BendTimes", list: bends, ok: bendOK},
		{name: "GreatestBend", numbers: []int{greatest, place}, ok: greatestOK},
		{name: "BendBy", numbers: []int{by}, ok: byOK},
		{name: "OutermostPlaces", numbers: []int{low, high}, ok: outermostOK},
	}
}

// convoyOnBeamCalls calls all functions that have a Beam and a convoy with these arguments.
func convoyOnBeamCalls(b impl.Beam, convoy []impl.Load, n int) []beamCall {
	row, rowOK := impl.ConvoyRow(b, convoy, n)
	worst, at, worstOK := impl.WorstBend(b, convoy, n)
	can, canOK := impl.CanCross(b, convoy)
	return []beamCall{
		{name: "ConvoyRow", row: row, ok: rowOK},
		{name: "WorstBend", numbers: []int{worst, at}, ok: worstOK},
		{name: "CanCross", numbers: []int{asInt(can)}, ok: canOK},
	}
}

// beamOnlyCalls calls all functions that have a Beam without anything on it.
func beamOnlyCalls(b impl.Beam, p int) []beamCall {
	influence, influenceOK := impl.InfluenceOf(b, p)
	mirror, mirrorOK := impl.MirrorBeam(b)
	return []beamCall{
		{name: "InfluenceOf", list: influence, ok: influenceOK},
		{name: "MirrorBeam", numbers: []int{mirror.Length, mirror.Left, mirror.Right}, ok: mirrorOK},
	}
}

func sameBeamCalls(x, y []beamCall) bool {
	return slices.EqualFunc(x, y, func(c, d beamCall) bool {
		return c.name == d.name && slices.Equal(c.numbers, d.numbers) && slices.Equal(c.list, d.list) && slices.Equal(c.row, d.row) && c.ok == d.ok
	})
}

func expectBeamCallsFail(t *testing.T, b impl.Beam, calls ...beamCall) {
	t.Helper()
	for _, c := range calls {
		if c.ok || !c.zero() {
			t.Errorf("%s with %v: %+v", c.name, b, c)
		}
	}
}

func TestFunctionsFailWithoutABeam(t *testing.T) {
	for _, b := range badBeams() {
		for _, n := range []int{0, 1, 5, 10, b.Left, b.Length} {
			expectBeamCallsFail(t, b, beamOnlyCalls(b, n)...)
			expectBeamCallsFail(t, b, rowOnBeamCalls(b, nil, n, 1)...)
			expectBeamCallsFail(t, b, rowOnBeamCalls(b, rowOf(0, 1), n, 1)...)
			expectBeamCallsFail(t, b, convoyOnBeamCalls(b, rowOf(0, 1), n)...)
			expectBeamCallsFail(t, b, convoyOnBeamCalls(b, nil, n)...)
		}
	}
}

func TestFunctionsFailWithoutARowOnTheBeam(t *testing.T) {
	for _, b := range manyBeams() {
		for _, row := range slices.Concat(badRows(), rowsOff(b)) {
			expectBeamCallsFail(t, b, rowOnBeamCalls(b, row, b.Left, 1)...)
		}
	}
	// The row has to be on the Beam, not only on its base.
	if low, high, ok := impl.OutermostPlaces(beamOf(10, 2, 8), rowOf(11, 1), 99); ok || low != 0 || high != 0 {
		t.Error("a walker with a Load beyond the Beam", low, high, ok)
	}
}

func TestFunctionsFailWithoutAConvoy(t *testing.T) {
	for _, b := range manyBeams() {
		for _, convoy := range badConvoys() {
			expectBeamCallsFail(t, b, convoyOnBeamCalls(b, convoy, b.Left)...)
		}
	}
}

func TestFunctionsFailForPlacesBeyondTheBeam(t *testing.T) {
	for _, b := range manyBeams() {
		for _, p := range append(badPlaces(), b.Length+1) {
			influence, influenceOK := impl.InfluenceOf(b, p)
			by, byOK := impl.BendBy(b, rowOf(b.Left, 1), p)
			none, noneOK := impl.BendBy(b, nil, p)
			row, rowOK := impl.ConvoyRow(b, rowOf(0, 1), p)
			worst, at, worstOK := impl.WorstBend(b, rowOf(0, 1), p)
			expectBeamCallsFail(t, b,
				beamCall{name: "InfluenceOf", list: influence, ok: influenceOK}, beamCall{name: "BendBy", numbers: []int{by}, ok: byOK},
				beamCall{name: "BendBy of no Loads", numbers: []int{none}, ok: noneOK}, beamCall{name: "ConvoyRow", row: row, ok: rowOK},
				beamCall{name: "WorstBend", numbers: []int{worst, at}, ok: worstOK})
		}
	}
}

// scribbleBeamCall changes all that was made, and what is behind it in its memory.
func scribbleBeamCall(c beamCall) {
	scribble(c.list[:cap(c.list)])
	row := c.row[:cap(c.row)]
	for i := range row {
		row[i] = impl.Load{Place: -7, Weight: -7}
	}
}

// Promise 13: results for all arguments, the same ones again, and the arguments as they were, also beyond their length.
func TestBeamFunctionsReturnAndLeaveTheirArguments(t *testing.T) {
	numbers := []int{0, 1, 5, 10, -1, 60, 61, 99, math.MaxInt, math.MinInt}
	beams := slices.Concat(badBeams(), manyBeams())
	lists := slices.Concat(badRows()[:14], badConvoys(), manyConvoys()[:12], rowsOn(beamOf(10, 2, 8))[:16])
	for k, b := range beams {
		for i, list := range lists {
			n, weight := numbers[(k+i)%len(numbers)], numbers[(k+i)/len(numbers)%len(numbers)]
			whole := slices.Concat(list, rowOf(3, 4, 5, 6))
			before := slices.Clone(whole)
			given := whole[:len(list)]
			all := func(row []impl.Load) []beamCall {
				return slices.Concat(rowOnBeamCalls(b, row, n, weight), convoyOnBeamCalls(b, row, n), beamOnlyCalls(b, n))
			}
			want, calls := all(slices.Clone(list)), all(given)
			if !sameBeamCalls(calls, want) {
				t.Fatalf("other results of the same list %v on %v", list, b)
			}
			for _, c := range calls {
				if !c.ok && !c.zero() {
					t.Fatalf("%s fails with %+v", c.name, c)
				}
				scribbleBeamCall(c)
			}
			if !slices.Equal(whole, before) {
				t.Fatalf("the list %v became %v", before, whole)
			}
			if !sameBeamCalls(all(given), want) {
				t.Fatalf("other results of %v on %v again", list, b)
			}
		}
	}
}
