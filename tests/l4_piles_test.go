package tests

import (
	"math"
	"math/big"
	"slices"
	"testing"

	"loop.example/g01159/impl"
)

// evenPile makes a Pile with Weights of 1.
func evenPile(width int, lefts ...int) impl.Pile {
	return impl.Pile{Width: width, Lefts: lefts, Weights: slices.Repeat([]int{1}, len(lefts))}
}

func samePile(p, q impl.Pile) bool {
	return p.Width == q.Width && slices.Equal(p.Lefts, q.Lefts) && slices.Equal(p.Weights, q.Weights)
}

func clonePile(p impl.Pile) impl.Pile {
	return impl.Pile{Width: p.Width, Lefts: slices.Clone(p.Lefts), Weights: slices.Clone(p.Weights)}
}

func noPile(p impl.Pile) bool {
	return p.Width == 0 && len(p.Lefts) == 0 && len(p.Weights) == 0
}

// knownPiles lists Piles at the limits: one brick, a Width of 1, contacts of a single place or none.
func knownPiles() []impl.Pile {
	return []impl.Pile{
		evenPile(1, 0), evenPile(1, -1), evenPile(1, 1), evenPile(24, 0), evenPile(24, -12), evenPile(24, -11), evenPile(2, -1),
		evenPile(24, 99), evenPile(24, -99), evenPile(1, 99), evenPile(1, -99), evenPile(1, 98), evenPile(24, 87), evenPile(24, 88),
		evenPile(1, -1, 0), evenPile(1, -1, -2), evenPile(1, -1, 1), evenPile(4, -4, 0), evenPile(4, -4, 1), evenPile(4, -4, -9),
		evenPile(4, 0, -4), evenPile(4, 0, -5), evenPile(4, -4, 0, -4), evenPile(4, 1, -4), evenPile(4, -1), evenPile(4, -4, -2),
		evenPile(4, -3, -2, 0), evenPile(4, -99, -99), evenPile(4, 99, 99, 99), evenPile(4, 50, -50), evenPile(4, 99, -99),
		evenPile(3, slices.Repeat([]int{-3}, 8)...), evenPile(24, slices.Repeat([]int{-24}, 8)...), evenPile(1, slices.Repeat([]int{0}, 8)...),
		{Width: 4, Lefts: []int{-4, -2}, Weights: []int{99, 1}}, {Width: 4, Lefts: []int{-2, -4, 0}, Weights: []int{1, 2, 1}},
		{Width: 24, Lefts: []int{-24, 0, -24}, Weights: []int{1, 1, 1}}, {Width: 24, Lefts: []int{-24, 0, -24}, Weights: []int{1, 99, 1}},
	}
}

// manyPiles lists many Piles of all sizes, always the same ones, of which a lot stand firm.
func manyPiles(count int) []impl.Pile {
	piles := knownPiles()
	next := numbersFrom(4)
	for len(piles) < count {
		p := impl.Pile{Width: 1 + next([]int{2, 5, 24}[next(3)])}
		n, span, heaviest := 1+next(impl.MaxBricks), 1+next(p.Width+1), []int{1, 3, 99}[next(3)]
		left := -next(p.Width+1) - next(3)
		if len(piles)%7 == 0 {
			left += 60 - next(120)
		}
		for range n {
			p.Lefts = append(p.Lefts, left)
			p.Weights = append(p.Weights, 1+next(heaviest))
			left += next(2*span+1) - span
		}
		if len(piles)%5 == 0 {
			slices.Reverse(p.Weights)
			p.Weights[n-1] = 1 + next(99)
		}
		piles = append(piles, p)
	}
	return piles
}

// badPiles are no Piles, by their Width, their size, a left end, a weight or two lists of different lengths.
func badPiles() []impl.Pile {
	piles := []impl.Pile{
		{}, {Width: 4}, evenPile(0, -2), evenPile(25, -2), evenPile(-1, -2), evenPile(4, slices.Repeat([]int{-4}, 9)...),
		evenPile(4, -100), evenPile(4, 100), evenPile(4, -4, 100), evenPile(4, -100, -99), evenPile(4, -4, -100, -4),
		{Width: 4, Lefts: []int{-4}}, {Width: 4, Weights: []int{1}}, {Width: 4, Lefts: []int{-4, -4}, Weights: []int{1}},
		{Width: 4, Lefts: []int{-4}, Weights: []int{1, 1}}, {Width: 4, Lefts: []int{-4}, Weights: []int{0}},
		{Width: 4, Lefts: []int{-4}, Weights: []int{100}}, {Width: 4, Lefts: []int{-4, -4}, Weights: []int{1, -1}},
		{Width: 4, Lefts: []int{-4, -4}, Weights: []int{100, 1}}, {Width: 4, Lefts: make([]int, 8), Weights: make([]int, 8)},
		evenPile(4, make([]int, 1<<16)...), {Width: 4, Lefts: []int{-4}, Weights: make([]int, 1<<16)},
	}
	for _, n := range []int{math.MaxInt, math.MinInt, math.MinInt + 1, 1 << 32, 1<<32 + 1, -1 << 32, 1<<62 - 1} {
		piles = append(piles, evenPile(n, -2), evenPile(n, n), evenPile(4, n), evenPile(4, -4, n), evenPile(4, n, -4),
			impl.Pile{Width: 4, Lefts: []int{-4}, Weights: []int{n}}, impl.Pile{Width: 4, Lefts: []int{-4, -4}, Weights: []int{1, n}})
	}
	return piles
}

func badBricks(p impl.Pile) []int {
	return []int{-1, len(p.Lefts), len(p.Lefts) + 1, -len(p.Lefts), 8, 9, math.MaxInt, math.MinInt, 1 << 32, -1 << 32}
}

// The definitions of the chapter, told once more with places one by one and moments about the ends of the contact.

// contactByDefinition lists the places that a brick has in common with what is below it.
func contactByDefinition(p impl.Pile, i int) []int {
	var common []int
	for place := p.Lefts[i]; place <= p.Lefts[i]+p.Width; place++ {
		below := place <= 0
		if i > 0 {
			below = place >= p.Lefts[i-1] && place-p.Lefts[i-1] <= p.Width
		}
		if below {
			common = append(common, place)
		}
	}
	return common
}

// doubleMoment is twice the moment of the upper part of a brick about a place.
func doubleMoment(p impl.Pile, i, place int) int {
	sum := 0
	for j := i; j < len(p.Lefts); j++ {
		sum += p.Weights[j] * (p.Lefts[j] - place + p.Lefts[j] + p.Width - place)
	}
	return sum
}

func holdsByDefinition(p impl.Pile, i int) bool {
	contact := contactByDefinition(p, i)
	return len(contact) > 0 && doubleMoment(p, i, contact[0]) >= 0 && doubleMoment(p, i, contact[len(contact)-1]) <= 0
}

// looseByDefinition lists the bricks that do not hold, in ascending order.
func looseByDefinition(p impl.Pile) []int {
	var loose []int
	for i := range p.Lefts {
		if !holdsByDefinition(p, i) {
			loose = append(loose, i)
		}
	}
	return loose
}

func firmByDefinition(p impl.Pile) bool { return len(looseByDefinition(p)) == 0 }

func centreOfUpper(p impl.Pile, i int) *big.Rat {
	moment, weight := new(big.Rat), new(big.Rat)
	for j := i; j < len(p.Lefts); j++ {
		w := big.NewRat(int64(p.Weights[j]), 1)
		middle := big.NewRat(int64(2*p.Lefts[j]+p.Width), 2)
		moment.Add(moment, middle.Mul(middle, w))
		weight.Add(weight, w)
	}
	return moment.Quo(moment, weight)
}

func overhangByDefinition(p impl.Pile) int {
	most := 0
	for _, left := range p.Lefts {
		most = max(most, left+p.Width)
	}
	return most
}

func inBounds(p impl.Pile) bool {
	for i, left := range p.Lefts {
		if left < -99 || left > 99 || p.Weights[i] < 1 || p.Weights[i] > 99 {
			return false
		}
	}
	return len(p.Lefts) >= 1 && len(p.Lefts) <= 8
}

func shiftedBy(p impl.Pile, by int) impl.Pile {
	made := clonePile(p)
	for i := range made.Lefts {
		made.Lefts[i] += by
	}
	return made
}

func toppedBy(p impl.Pile, left, weight int) impl.Pile {
	made := clonePile(p)
	made.Lefts = append(made.Lefts, left)
	made.Weights = append(made.Weights, weight)
	return made
}

func TestIsPile(t *testing.T) {
	for _, p := range manyPiles(400) {
		if impl.IsPile(p) != inBounds(p) {
			t.Errorf("IsPile(%v)", p)
		}
	}
	for _, p := range badPiles() {
		if impl.IsPile(p) {
			t.Errorf("IsPile of %d bricks is true: %.3v", len(p.Lefts), p)
		}
	}
	for n := -3; n <= 110; n++ {
		if impl.IsPile(evenPile(n, -2)) != (n >= 1 && n <= 24) {
			t.Errorf("IsPile with the Width %d", n)
		}
		if impl.IsPile(impl.Pile{Width: 4, Lefts: []int{-2, -2}, Weights: []int{1, n}}) != (n >= 1 && n <= 99) {
			t.Errorf("IsPile with the weight %d", n)
		}
		for _, left := range []int{n, -n} {
			if impl.IsPile(evenPile(4, 7, left)) != (left >= -99 && left <= 99) {
				t.Errorf("IsPile with the left end %d", left)
			}
		}
		if n >= 0 && impl.IsPile(evenPile(4, make([]int, n)...)) != (n >= 1 && n <= 8) {
			t.Errorf("IsPile of %d bricks", n)
		}
	}
}

func TestContactOf(t *testing.T) {
	for _, p := range manyPiles(2000) {
		for i := range p.Lefts {
			contact := contactByDefinition(p, i)
			first, last, ok := impl.ContactOf(p, i)
			if len(contact) == 0 {
				if ok || first != 0 || last != 0 {
					t.Fatalf("ContactOf(%v, %d) = %d, %d, %v without a contact", p, i, first, last, ok)
				}
			} else if !ok || first != contact[0] || last != contact[len(contact)-1] {
				t.Fatalf("ContactOf(%v, %d) = %d, %d, %v; want %v", p, i, first, last, ok, contact)
			}
		}
	}
}

func TestContactOfKnownPiles(t *testing.T) {
	cases := []struct {
		p           impl.Pile
		i           int
		first, last int
		ok          bool
	}{
		{evenPile(4, -4), 0, -4, 0, true},
		{evenPile(4, -9), 0, -9, -5, true},
		{evenPile(4, -1), 0, -1, 0, true},
		{evenPile(4, 0), 0, 0, 0, true},
		{evenPile(4, 1), 0, 0, 0, false},
		{evenPile(1, 0), 0, 0, 0, true},
		{evenPile(1, -1), 0, -1, 0, true},
		{evenPile(4, 3, 5), 1, 5, 7, true},
		{evenPile(4, 5, 3), 1, 5, 7, true},
		{evenPile(4, 5, 5), 1, 5, 9, true},
		{evenPile(4, 5, 9), 1, 9, 9, true},
		{evenPile(4, 5, 1), 1, 5, 5, true},
		{evenPile(4, 5, 10), 1, 0, 0, false},
		{evenPile(4, 5, 0), 1, 0, 0, false},
		{evenPile(1, 5, 6), 1, 6, 6, true},
		{evenPile(1, 5, 7), 1, 0, 0, false},
		{evenPile(24, -99, -75, -75), 2, -75, -51, true},
		{evenPile(24, 99, -99), 1, 0, 0, false},
	}
	for _, c := range cases {
		if first, last, ok := impl.ContactOf(c.p, c.i); ok != c.ok || first != c.first || last != c.last {
			t.Errorf("ContactOf(%v, %d) = %d, %d, %v", c.p, c.i, first, last, ok)
		}
	}
}

func TestUpperCentre(t *testing.T) {
	for _, p := range manyPiles(2000) {
		for i := range p.Lefts {
			if centre, ok := impl.UpperCentre(p, i); !ok || !sameFraction(centre, centreOfUpper(p, i)) {
				t.Fatalf("UpperCentre(%v, %d) = %v, %v; want %v", p, i, centre, ok, centreOfUpper(p, i))
			}
		}
	}
	cases := []struct {
		p    impl.Pile
		i    int
		want [2]int
	}{
		{evenPile(4, -4, -2), 0, [2]int{-1, 1}},
		{evenPile(4, -4, -2), 1, [2]int{0, 1}},
		{evenPile(1, 0), 0, [2]int{1, 2}},
		{evenPile(1, -1), 0, [2]int{-1, 2}},
		{evenPile(1, -99), 0, [2]int{-197, 2}},
		{evenPile(24, 99), 0, [2]int{111, 1}},
		{evenPile(3, -1, -2), 0, [2]int{0, 1}},
		{impl.Pile{Width: 3, Lefts: []int{1, 5, 9}, Weights: []int{2, 1, 6}}, 0, [2]int{149, 18}},
		{impl.Pile{Width: 3, Lefts: []int{1, 5, 9}, Weights: []int{2, 1, 6}}, 1, [2]int{139, 14}},
		{impl.Pile{Width: 3, Lefts: []int{1, 5, 9}, Weights: []int{2, 1, 6}}, 2, [2]int{21, 2}},
	}
	for _, c := range cases {
		if centre, ok := impl.UpperCentre(c.p, c.i); !ok || centre != c.want {
			t.Errorf("UpperCentre(%v, %d) = %v, %v; want %v", c.p, c.i, centre, ok, c.want)
		}
	}
}

// expectHolds compares which bricks hold with what loose lists.
func expectHolds(t *testing.T, p impl.Pile, loose []int) {
	t.Helper()
	for i := range p.Lefts {
		if holds, ok := impl.HoldsBrick(p, i); !ok || holds == slices.Contains(loose, i) {
			t.Errorf("HoldsBrick(%v, %d) = %v, %v", p, i, holds, ok)
		}
	}
	if firm, ok := impl.StandsFirm(p); !ok || firm != (len(loose) == 0) {
		t.Errorf("StandsFirm(%v) = %v, %v", p, firm, ok)
	}
	highest, ok := impl.HighestLoose(p)
	if len(loose) == 0 && (ok || highest != 0) || len(loose) > 0 && (!ok || highest != slices.Max(loose)) {
		t.Errorf("HighestLoose(%v) = %d, %v; want the last one of %v", p, highest, ok, loose)
	}
}

func TestWhichBricksHold(t *testing.T) {
	firm, loose := 0, 0
	for _, p := range manyPiles(3000) {
		expectHolds(t, p, looseByDefinition(p))
		if firmByDefinition(p) {
			firm++
		} else {
			loose++
		}
		if t.Failed() {
			return
		}
	}
	if firm < 500 || loose < 500 {
		t.Error("too few Piles of a kind", firm, loose)
	}
}

func TestWhichBricksHoldInKnownPiles(t *testing.T) {
	cases := []struct {
		p     impl.Pile
		loose []int
	}{
		{evenPile(4, -2), nil},
		{evenPile(4, -1), []int{0}},
		{evenPile(4, -99), nil},
		{evenPile(1, 0), []int{0}},
		{evenPile(1, -1), nil},
		{evenPile(1, -1, -1, -1), nil},
		{evenPile(1, -2, -1), []int{1}},
		{evenPile(4, -4, -2), nil},
		{evenPile(4, -4, -1), []int{1}},
		{evenPile(4, -4, -6), nil},
		{evenPile(4, -4, -7), []int{1}},
		{evenPile(4, -4, 2), []int{0, 1}},
		{impl.Pile{Width: 4, Lefts: []int{-6, 0}, Weights: []int{9, 1}}, []int{1}},
		{evenPile(4, -2, 0), []int{0}},
		{evenPile(4, 50, -50), []int{0, 1}},
		// The contact of the middle brick is the single place 0, which is the centre of its upper part.
		{evenPile(4, -4, 0, -4), []int{2}},
		{impl.Pile{Width: 4, Lefts: []int{-4, 0, -4}, Weights: []int{1, 1, 2}}, []int{1, 2}},
		{impl.Pile{Width: 4, Lefts: []int{-4, 0, -4}, Weights: []int{1, 2, 1}}, []int{1, 2}},
		// So it is for the table and the lowest brick.
		{evenPile(4, 0, -4), []int{1}},
		{evenPile(4, 0, -2, -4), []int{1}},
		{impl.Pile{Width: 4, Lefts: []int{0, -4}, Weights: []int{2, 1}}, []int{0, 1}},
		{impl.Pile{Width: 4, Lefts: []int{0, -4}, Weights: []int{1, 2}}, []int{0, 1}},
		// A weight on top brings the centre above the table.
		{impl.Pile{Width: 4, Lefts: []int{-1, -3}, Weights: []int{1, 1}}, nil},
		{impl.Pile{Width: 4, Lefts: []int{-1, -3}, Weights: []int{2, 1}}, []int{0}},
	}
	for _, c := range cases {
		expectHolds(t, c.p, c.loose)
	}
}

// The guarantee: bricks above each other, with their left ends at -Width, stand firm.
func TestPilesAboveEachOtherStandFirm(t *testing.T) {
	next := numbersFrom(44)
	for width := 1; width <= impl.MaxWide; width++ {
		for n := 1; n <= impl.MaxBricks; n++ {
			p := evenPile(width, slices.Repeat([]int{-width}, n)...)
			for i := range p.Weights {
				p.Weights[i] = 1 + next(99)
			}
			expectHolds(t, p, nil)
			if over, ok := impl.OverhangOf(p); !ok || over != 0 {
				t.Errorf("OverhangOf(%v) = %d, %v", p, over, ok)
			}
		}
	}
}

func TestOverhangOf(t *testing.T) {
	for _, p := range manyPiles(1000) {
		if over, ok := impl.OverhangOf(p); !ok || over != overhangByDefinition(p) {
			t.Fatalf("OverhangOf(%v) = %d, %v; want %d", p, over, ok, overhangByDefinition(p))
		}
	}
	cases := []struct {
		p    impl.Pile
		want int
	}{
		{evenPile(4, -4), 0}, {evenPile(4, -3), 1}, {evenPile(4, -5), 0}, {evenPile(4, -99, -99), 0}, {evenPile(24, 99), 123},
		{evenPile(4, -4, -2), 2}, {evenPile(4, -2, -4), 2}, {evenPile(4, -4, -1, -4), 3}, {evenPile(4, 50, -50), 54}, {evenPile(1, -99, 99), 100},
	}
	for _, c := range cases {
		if over, ok := impl.OverhangOf(c.p); !ok || over != c.want {
			t.Errorf("OverhangOf(%v) = %d, %v; want %d", c.p, over, ok, c.want)
		}
	}
}

// eachEvenPile gives out all Piles of n bricks of a Width with one weight whose bricks have contacts
// and whose lowest brick is not farther to the left than it has to be at most.
func eachEvenPile(width, n, weight int, give func(p impl.Pile)) {
	p := impl.Pile{Width: width, Weights: slices.Repeat([]int{weight}, n)}
	var add func(from, to int)
	add = func(from, to int) {
		for left := from; left <= to; left++ {
			p.Lefts = append(p.Lefts, left)
			if len(p.Lefts) == n {
				give(p)
			} else {
				add(left-width, left+width)
			}
			p.Lefts = p.Lefts[:len(p.Lefts)-1]
		}
	}
	add(-width-1, 0)
}

// Promise 4: of all Piles of equal weights that stand firm, the greatest overhang is the one told.
func TestNoPileOfEqualWeightsHasMoreThanTheGreatestOverhang(t *testing.T) {
	mostBricks := []int{0, 8, 7, 6, 5, 5, 4, 4, 4, 3, 3, 3, 3, 3, 3, 3, 2, 2, 2, 2, 2, 2, 2, 2, 2}
	for width := 1; width <= impl.MaxWide; width++ {
		for n := 1; n <= mostBricks[width]; n++ {
			weight := []int{1, 99, 7}[n%3]
			most := 0
			eachEvenPile(width, n, weight, func(p impl.Pile) {
				if overhangByDefinition(p) > most && firmByDefinition(p) {
					most = overhangByDefinition(p)
				}
			})
			if got, ok := impl.GreatestOverhang(width, n); !ok || got != most {
				t.Errorf("GreatestOverhang(%d, %d) = %d, %v; want %d", width, n, got, ok, most)
			}
		}
	}
	for _, p := range manyPiles(6000) {
		if slices.Min(p.Weights) != slices.Max(p.Weights) {
			continue
		}
		over, _ := impl.OverhangOf(p)
		firm, _ := impl.StandsFirm(p)
		if most, ok := impl.GreatestOverhang(p.Width, len(p.Lefts)); firm && (!ok || over > most) {
			t.Fatalf("%v stands firm with the overhang %d, but the greatest one is %d", p, over, most)
		}
	}
}

// greatestBySearch goes through all Piles that stand firm, also the great ones: Piles are alike for
// the bricks below if both the sum of their left ends and the greatest one are the same distance
// from that of the lowest brick.
func greatestBySearch(width, n int) int {
	type alike struct{ sum, reach int }
	piles := map[alike]bool{{}: true}
	for m := 1; m < n; m++ {
		more := map[alike]bool{}
		for a := range piles {
			for d := -width; d <= width; d++ {
				centre := 2*a.sum + m*width
				if centre >= 2*m*max(0, d) && centre <= 2*m*(min(0, d)+width) {
					more[alike{a.sum - m*d, max(0, a.reach-d)}] = true
				}
			}
		}
		piles = more
	}
	most := 0
	for a := range piles {
		for left := -width - 1; left <= 0; left++ {
			centre := 2*a.sum + n*width
			if centre >= 0 && centre <= 2*n*width && centre+2*n*left <= 0 {
				most = max(most, left+a.reach+width)
			}
		}
	}
	return most
}

func TestGreatestOverhang(t *testing.T) {
	for width := 1; width <= impl.MaxWide; width++ {
		before := 0
		limit := new(big.Rat)
		for n := 1; n <= impl.MaxBricks; n++ {
			got, ok := impl.GreatestOverhang(width, n)
			if want := greatestBySearch(width, n); !ok || got != want {
				t.Errorf("GreatestOverhang(%d, %d) = %d, %v; want %d", width, n, got, ok, want)
			}
			limit.Add(limit, big.NewRat(int64(width), int64(2*n)))
			if got < before || big.NewRat(int64(got), 1).Cmp(limit) > 0 {
				t.Errorf("GreatestOverhang(%d, %d) = %d is not in %d..%v", width, n, got, before, limit)
			}
			before = got
		}
	}
	for _, c := range [][3]int{
		{1, 1, 0}, {1, 8, 0}, {2, 1, 1}, {2, 8, 1}, {3, 1, 1}, {3, 5, 2}, {3, 6, 3}, {4, 1, 2}, {4, 2, 3}, {4, 8, 5}, {24, 1, 12}, {24, 2, 18},
		{24, 3, 22}, {24, 4, 25}, {24, 8, 32},
	} {
		if got, ok := impl.GreatestOverhang(c[0], c[1]); !ok || got != c[2] {
			t.Errorf("GreatestOverhang(%d, %d) = %d, %v; want %d", c[0], c[1], got, ok, c[2])
		}
	}
}

// edgeByDefinition puts brick below brick, each time trying all places from the left.
func edgeByDefinition(width, n int) impl.Pile {
	p := evenPile(width, 0)
	for len(p.Lefts) < n {
		left := -1000
		next := impl.Pile{}
		for next.Width == 0 || !holdsByDefinition(next, 1) {
			left++
			next = evenPile(width, slices.Concat([]int{left}, p.Lefts)...)
		}
		p = next
	}
	by := 1000
	for !holdsByDefinition(shiftedBy(p, by), 0) {
		by--
	}
	return shiftedBy(p, by)
}

// Promise 4 and the guarantee: the Pile at the edge stands firm, as far to the right as it can, and
// has at most the greatest overhang.
func TestEdgePile(t *testing.T) {
	for width := 1; width <= impl.MaxWide; width++ {
		for n := 1; n <= impl.MaxBricks; n++ {
			p, ok := impl.EdgePile(width, n)
			if want := edgeByDefinition(width, n); !ok || !samePile(p, want) {
				t.Fatalf("EdgePile(%d, %d) = %v, %v; want %v", width, n, p, ok, want)
			}
			expectHolds(t, p, nil)
			if by, ok := impl.MostShift(p); !ok || by != 0 {
				t.Errorf("EdgePile(%d, %d) = %v can be shifted by %d, %v", width, n, p, by, ok)
			}
			over, _ := impl.OverhangOf(p)
			if most, ok := impl.GreatestOverhang(width, n); !ok || over > most {
				t.Errorf("EdgePile(%d, %d) = %v has the overhang %d, and the greatest one is %d", width, n, p, over, most)
			}
		}
	}
}

func TestKnownEdgePiles(t *testing.T) {
	cases := []struct {
		width int
		lefts []int
	}{
		{1, []int{-1}}, {1, []int{-1, -1}}, {1, slices.Repeat([]int{-1}, 8)}, {2, []int{-1}}, {3, []int{-2}}, {4, []int{-2}}, {4, []int{-3, -1}},
		{24, []int{-12}}, {24, []int{-18, -6}}, {24, []int{-20, -14, -2}},
	}
	for _, c := range cases {
		if p, ok := impl.EdgePile(c.width, len(c.lefts)); !ok || !samePile(p, evenPile(c.width, c.lefts...)) {
			t.Errorf("EdgePile(%d, %d) = %v, %v; want %v", c.width, len(c.lefts), p, ok, c.lefts)
		}
	}
}

func TestWithoutAWidthOrANumberOfBricksThereIsNoGreatestOverhang(t *testing.T) {
	numbers := []int{-99, -1, 0, 25, 1000, math.MaxInt, math.MinInt, 1 << 32, 1<<32 + 1, -1 << 32}
	var sizes [][2]int
	for _, n := range numbers {
		sizes = append(sizes, [2]int{n, 1}, [2]int{n, 8}, [2]int{1, n}, [2]int{24, n}, [2]int{n, n})
	}
	for _, size := range append(sizes, [2]int{1, 9}, [2]int{24, 9}, [2]int{4, 24}) {
		if most, ok := impl.GreatestOverhang(size[0], size[1]); ok || most != 0 {
			t.Errorf("GreatestOverhang(%d, %d) = %d, %v", size[0], size[1], most, ok)
		}
		if p, ok := impl.EdgePile(size[0], size[1]); ok || !noPile(p) {
			t.Errorf("EdgePile(%d, %d) = %v, %v", size[0], size[1], p, ok)
		}
	}
}

// expectPile compares what was made with what it should be, if that is a Pile.
func expectPile(t *testing.T, call string, p, got impl.Pile, ok bool, want impl.Pile) {
	t.Helper()
	if inBounds(want) != ok || ok && !samePile(got, want) || !ok && !noPile(got) {
		t.Fatalf("%s of %v = %v, %v; want %v", call, p, got, ok, want)
	}
}

func TestShiftPile(t *testing.T) {
	for _, p := range manyPiles(500) {
		for by := -99; by <= 99; by++ {
			shifted, ok := impl.ShiftPile(p, by)
			expectPile(t, "ShiftPile", p, shifted, ok, shiftedBy(p, by))
			for i := 1; ok && i < len(p.Lefts) && by%9 == 0; i++ {
				before, _ := impl.HoldsBrick(p, i)
				if holds, _ := impl.HoldsBrick(shifted, i); holds != before {
					t.Fatalf("HoldsBrick(%v, %d) = %v after ShiftPile by %d", shifted, i, holds, by)
				}
			}
		}
	}
	// By these numbers, there would still be a Pile.
	for _, c := range [][2]int{{-99, 100}, {-99, 198}, {99, -100}, {99, -198}, {0, 100}, {0, -100}, {99, math.MinInt}, {-99, math.MaxInt}} {
		if p, ok := impl.ShiftPile(evenPile(4, c[0]), c[1]); ok || !noPile(p) {
			t.Errorf("ShiftPile of %d by %d = %v, %v", c[0], c[1], p, ok)
		}
	}
}

func TestMostShift(t *testing.T) {
	some := 0
	for _, p := range manyPiles(1500) {
		most, found := 0, false
		for by := -99; by <= 99; by++ {
			if made := shiftedBy(p, by); inBounds(made) && firmByDefinition(made) {
				most, found = by, true
			}
		}
		if found {
			some++
		}
		if got, ok := impl.MostShift(p); ok != found || got != most {
			t.Fatalf("MostShift(%v) = %d, %v; want %d, %v", p, got, ok, most, found)
		}
	}
	if some < 300 {
		t.Error("too few Piles can be shifted", some)
	}
	cases := []struct {
		p    impl.Pile
		want int
		ok   bool
	}{
		{evenPile(4, -4, -2), 1, true},
		{evenPile(4, -2), 0, true},
		{evenPile(4, -1), -1, true},
		{evenPile(1, -99), 98, true},
		{evenPile(24, -99), 87, true},
		{evenPile(1, 98), -99, true},
		{evenPile(1, 99), 0, false},
		{evenPile(24, 87), -99, true},
		{evenPile(24, 88), 0, false},
		{evenPile(4, -4, 2), 0, false},
		{evenPile(4, 50, -50), 0, false},
	}
	for _, c := range cases {
		if got, ok := impl.MostShift(c.p); ok != c.ok || got != c.want {
			t.Errorf("MostShift(%v) = %d, %v; want %d, %v", c.p, got, ok, c.want, c.ok)
		}
	}
}

func TestTopLoadAndDropTop(t *testing.T) {
	for _, p := range manyPiles(300) {
		for left := -101; left <= 101; left++ {
			for _, weight := range []int{-1, 0, 1, 2, 99, 100} {
				topped, ok := impl.TopLoad(p, left, weight)
				expectPile(t, "TopLoad", p, topped, ok, toppedBy(p, left, weight))
				if back, dropped := impl.DropTop(topped); ok && (!dropped || !samePile(back, p)) {
					t.Fatalf("DropTop(%v) = %v, %v; want %v", topped, back, dropped, p)
				}
			}
		}
		for _, n := range []int{math.MaxInt, math.MinInt, 1 << 32, -1 << 32, 1<<32 + 1} {
			for _, top := range [][2]int{{n, 1}, {0, n}, {n, n}} {
				if topped, ok := impl.TopLoad(p, top[0], top[1]); ok || !noPile(topped) {
					t.Fatalf("TopLoad(%v, %d, %d) = %v, %v", p, top[0], top[1], topped, ok)
				}
			}
		}
		last := len(p.Lefts) - 1
		dropped, ok := impl.DropTop(p)
		expectPile(t, "DropTop", p, dropped, ok, impl.Pile{Width: p.Width, Lefts: p.Lefts[:last], Weights: p.Weights[:last]})
	}
}

func TestFirmTops(t *testing.T) {
	firm, some := 0, 0
	for _, p := range manyPiles(900) {
		weight := []int{1, 2, 7, 50, 98, 99}[len(p.Lefts)*p.Width%6]
		var tops []int
		for left := -99; left <= 99 && firmByDefinition(p); left++ {
			if made := toppedBy(p, left, weight); inBounds(made) && firmByDefinition(made) {
				tops = append(tops, left)
			}
		}
		if firmByDefinition(p) {
			firm++
		}
		from, to, ok := impl.FirmTops(p, weight)
		if len(tops) == 0 {
			if ok || from != 0 || to != 0 {
				t.Fatalf("FirmTops(%v, %d) = %d, %d, %v without any", p, weight, from, to, ok)
			}
			continue
		}
		some++
		if !ok || from != tops[0] || to != tops[len(tops)-1] || to-from+1 != len(tops) {
			t.Fatalf("FirmTops(%v, %d) = %d, %d, %v; want %v", p, weight, from, to, ok, tops)
		}
	}
	if firm < 200 || some < 150 {
		t.Error("too few Piles", firm, some)
	}
}

func TestFirmTopsOfKnownPiles(t *testing.T) {
	eight := evenPile(4, slices.Repeat([]int{-4}, 8)...)
	cases := []struct {
		p        impl.Pile
		weight   int
		from, to int
		ok       bool
	}{
		{evenPile(4, -4, -2), 1, -4, -2, true},
		{evenPile(4, -4), 1, -6, -2, true},
		{evenPile(4, -4), 99, -6, -2, true},
		{evenPile(4, -2), 1, -4, -2, true},
		{evenPile(1, -1), 1, -1, -1, true},
		{evenPile(1, -1), 99, -1, -1, true},
		{evenPile(1, -2), 1, -2, -2, true},
		{evenPile(2, -2), 1, -3, -1, true},
		// The bounds of left ends cut off a part.
		{evenPile(24, -99), 5, -99, -87, true},
		{eight, 1, 0, 0, false},
		{evenPile(4, slices.Repeat([]int{-4}, 7)...), 1, -6, -2, true},
		{evenPile(4, -4), 0, 0, 0, false},
		{evenPile(4, -4), 100, 0, 0, false},
		{evenPile(4, -4), -1, 0, 0, false},
		{evenPile(4, -4), math.MaxInt, 0, 0, false},
		{evenPile(4, -4), math.MinInt, 0, 0, false},
		// With one more brick at -3, these would stand firm, but they do not without it.
		{evenPile(4, -1), 1, 0, 0, false},
		{evenPile(4, -4, 2), 1, 0, 0, false},
		// The highest brick is beyond the table, so nothing that is heavy can be on it.
		{evenPile(24, -22, -17, -11, -1), 99, 0, 0, false},
	}
	for _, c := range cases {
		if from, to, ok := impl.FirmTops(c.p, c.weight); ok != c.ok || from != c.from || to != c.to {
			t.Errorf("FirmTops(%v, %d) = %d, %d, %v", c.p, c.weight, from, to, ok)
		}
	}
	topped, _ := impl.TopLoad(evenPile(4, -1), -3, 1)
	expectHolds(t, topped, nil)
}

func TestMirrorPile(t *testing.T) {
	for _, p := range manyPiles(2000) {
		want := clonePile(p)
		for i, left := range p.Lefts[1:] {
			want.Lefts[i+1] = p.Lefts[0] - (left - p.Lefts[0])
		}
		mirror, ok := impl.MirrorPile(p)
		expectPile(t, "MirrorPile", p, mirror, ok, want)
		if !ok {
			continue
		}
		if back, ok := impl.MirrorPile(mirror); !ok || !samePile(back, p) {
			t.Fatalf("MirrorPile(%v) = %v, %v; want %v", mirror, back, ok, p)
		}
		for i := 1; i < len(p.Lefts); i++ {
			before, _ := impl.HoldsBrick(p, i)
			if holds, ok := impl.HoldsBrick(mirror, i); !ok || holds != before {
				t.Fatalf("HoldsBrick(%v, %d) = %v in the mirror of %v", mirror, i, holds, p)
			}
		}
	}
	cases := []struct{ lefts, want []int }{
		{[]int{-4}, []int{-4}}, {[]int{-4, -2}, []int{-4, -6}}, {[]int{-4, 0, -9}, []int{-4, -8, 1}}, {[]int{0, 99, -99}, []int{0, -99, 99}},
		{[]int{99}, []int{99}}, {[]int{-99, -99}, []int{-99, -99}}, {[]int{98, 97}, []int{98, 99}}, {[]int{99, 98}, nil}, {[]int{-99, -98}, nil},
		{[]int{1, -98}, nil}, {[]int{1, -97}, []int{1, 99}},
	}
	for _, c := range cases {
		mirror, ok := impl.MirrorPile(evenPile(4, c.lefts...))
		expectPile(t, "MirrorPile", evenPile(4, c.lefts...), mirror, ok, evenPile(4, c.want...))
	}
}

// pileCall is one call of a function of this chapter: what it returns, as one value each way.
type pileCall struct {
	name   string
	values []int
	made   impl.Pile
	ok     bool
}

func (c pileCall) zero() bool {
	return noPile(c.made) && !slices.ContainsFunc(c.values, func(v int) bool { return v != 0 })
}

func asInt(b bool) int {
	if b {
		return 1
	}
	return 0
}

// brickCalls calls all functions that have a brick of a Pile.
func brickCalls(p impl.Pile, i int) []pileCall {
	first, last, contactOK := impl.ContactOf(p, i)
	centre, centreOK := impl.UpperCentre(p, i)
	holds, holdsOK := impl.HoldsBrick(p, i)
	return []pileCall{
		{name: "ContactOf", values: []int{first, last}, ok: contactOK},
		{name: "UpperCentre", values: centre[:], ok: centreOK},
		{name: "HoldsBrick", values: []int{asInt(holds)}, ok: holdsOK},
	}
}

// pileCalls calls all functions that have a Pile with these arguments.
func pileCalls(p impl.Pile, n, weight int) []pileCall {
	firm, firmOK := impl.StandsFirm(p)
	loose, looseOK := impl.HighestLoose(p)
	over, overOK := impl.OverhangOf(p)
	most, mostOK := impl.MostShift(p)
	from, to, topsOK := impl.FirmTops(p, weight)
	shifted, shiftedOK := impl.ShiftPile(p, n)
	topped, toppedOK := impl.TopLoad(p, n, weight)
	dropped, droppedOK := impl.DropTop(p)
	mirror, mirrorOK := impl.MirrorPile(p)
	return append(brickCalls(p, n),
		pileCall{name: "StandsFirm", values: []int{asInt(firm)}, ok: firmOK},
		pileCall{name: "HighestLoose", values: []int{loose}, ok: looseOK},
		pileCall{name: "OverhangOf", values: []int{over}, ok: overOK},
		pileCall{name: "MostShift", values: []int{most}, ok: mostOK},
		pileCall{name: "FirmTops", values: []int{from, to}, ok: topsOK},
		pileCall{name: "ShiftPile", made: shifted, ok: shiftedOK},
		pileCall{name: "TopLoad", made: topped, ok: toppedOK},
		pileCall{name: "DropTop", made: dropped, ok: droppedOK},
		pileCall{name: "MirrorPile", made: mirror, ok: mirrorOK},
	)
}

func TestFunctionsFailWithoutAPile(t *testing.T) {
	for _, p := range badPiles() {
		for _, n := range []int{0, 1, -1, 7} {
			for _, c := range pileCalls(p, n, 1) {
				if c.ok || !c.zero() {
					t.Errorf("%s of %d bricks, %.3v: %+v", c.name, len(p.Lefts), p, c)
				}
			}
		}
	}
}

func TestFunctionsFailWithoutABrick(t *testing.T) {
	for _, p := range manyPiles(60) {
		for _, i := range badBricks(p) {
			for _, c := range brickCalls(p, i) {
				if c.ok || !c.zero() {
					t.Errorf("%s of %v with %d: %+v", c.name, p, i, c)
				}
			}
		}
	}
}

// withRoom returns a Pile whose lists have more behind their ends, and these whole lists.
func withRoom(p impl.Pile) (given impl.Pile, lefts, weights []int) {
	lefts = slices.Concat(p.Lefts, []int{7, 8, 9})
	weights = slices.Concat(p.Weights, []int{1, 2, 3})
	return impl.Pile{Width: p.Width, Lefts: lefts[:len(p.Lefts)], Weights: weights[:len(p.Weights)]}, lefts, weights
}

func samePileCalls(x, y []pileCall) bool {
	return slices.EqualFunc(x, y, func(c, d pileCall) bool {
		return c.name == d.name && slices.Equal(c.values, d.values) && samePile(c.made, d.made) && c.ok == d.ok
	})
}

// Promise 13: results for all arguments, the same ones again, and the arguments as they were, also
// beyond their length. No two lists of the results share memory.
func TestPileFunctionsReturnAndLeaveTheirArguments(t *testing.T) {
	numbers := []int{0, 1, -1, 5, 99, -99, 100, math.MaxInt, math.MinInt}
	for _, p := range slices.Concat(badPiles(), manyPiles(80)) {
		given, lefts, weights := withRoom(p)
		leftsBefore, weightsBefore := slices.Clone(lefts), slices.Clone(weights)
		for k, n := range numbers {
			weight := numbers[(k*4+1)%len(numbers)]
			want := pileCalls(clonePile(p), n, weight)
			calls := pileCalls(given, n, weight)
			if !samePileCalls(calls, want) {
				t.Fatalf("other results of the same Pile %v", p)
			}
			for i, c := range calls {
				if !c.ok && !c.zero() {
					t.Fatalf("%s fails with %+v", c.name, c)
				}
				scribble(c.made.Lefts)
				if !slices.Equal(c.made.Weights, want[i].made.Weights) {
					t.Fatalf("%s: left ends and weights share memory", c.name)
				}
				scribble(c.made.Weights)
			}
			if !slices.Equal(lefts, leftsBefore) || !slices.Equal(weights, weightsBefore) {
				t.Fatalf("the Pile %v became %v, %v", p, lefts, weights)
			}
			if !samePileCalls(pileCalls(given, n, weight), want) {
				t.Fatalf("other results of %v again", p)
			}
		}
	}
}

// Made Piles share no memory with the Pile they are made from: changing it does not show in them.
func TestMadePilesAreNewMemory(t *testing.T) {
	p := evenPile(4, -4, -2, -3)
	shifted, _ := impl.ShiftPile(p, 0)
	topped, _ := impl.TopLoad(p, -3, 5)
	dropped, _ := impl.DropTop(p)
	mirror, _ := impl.MirrorPile(p)
	for i := range p.Lefts {
		p.Lefts[i], p.Weights[i] = 50, 50
	}
	wanted := []impl.Pile{
		evenPile(4, -4, -2, -3), {Width: 4, Lefts: []int{-4, -2, -3, -3}, Weights: []int{1, 1, 1, 5}}, evenPile(4, -4, -2), evenPile(4, -4, -6, -5),
	}
	for i, made := range []impl.Pile{shifted, topped, dropped, mirror} {
		if !samePile(made, wanted[i]) {
			t.Errorf("%v became %v", wanted[i], made)
		}
	}
	edge, _ := impl.EdgePile(24, 8)
	want := clonePile(edge)
	scribble(edge.Lefts)
	scribble(edge.Weights)
	if again, ok := impl.EdgePile(24, 8); !ok || !samePile(again, want) {
		t.Errorf("EdgePile(24, 8) = %v, %v again", again, ok)
	}
}
