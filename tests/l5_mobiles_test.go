package tests

import (
	"math"
	"math/big"
	"slices"
	"testing"

	"loop.example/g01159/impl"
)

// mobileOf makes a Mobile from the left and the right arm of each rod, and what hangs at its left and its right end.
func mobileOf(rods ...[4]int) impl.Mobile {
	var m impl.Mobile
	for _, r := range rods {
		m.Arms = append(m.Arms, [2]int{r[0], r[1]})
		m.Hung = append(m.Hung, [2]int{r[2], r[3]})
	}
	return m
}

// chainOf makes a Mobile of n rods, each at the right end of the one before.
func chainOf(n, left, right, leaf int) impl.Mobile {
	var m impl.Mobile
	for i := 1; i <= n; i++ {
		m.Arms = append(m.Arms, [2]int{left, right})
		m.Hung = append(m.Hung, [2]int{leaf, -i})
	}
	m.Hung[n-1][1] = leaf
	return m
}

func sameMobile(m, o impl.Mobile) bool {
	return slices.Equal(m.Arms, o.Arms) && slices.Equal(m.Hung, o.Hung)
}

func cloneMobile(m impl.Mobile) impl.Mobile {
	return impl.Mobile{Arms: slices.Clone(m.Arms), Hung: slices.Clone(m.Hung)}
}

func noMobile(m impl.Mobile) bool { return len(m.Arms) == 0 && len(m.Hung) == 0 }

// allShapes lists all ways in which 1..6 rods can hang at each other, with 0 for the leaves.
func allShapes() [][][2]int {
	layer := [][][2]int{{{}}}
	shapes := slices.Clone(layer)
	for size := 2; size <= 6; size++ {
		var next [][][2]int
		for _, shape := range layer {
			for i := range shape {
				for end := range 2 {
					if shape[i][end] == 0 {
						more := append(slices.Clone(shape), [2]int{})
						more[i][end] = 1 - size
						next = append(next, more)
					}
				}
			}
		}
		layer = next
		shapes = append(shapes, layer...)
	}
	return shapes
}

// manyMobiles lists Mobiles of all shapes, always the same ones, with arms and leaves up to different limits.
func manyMobiles() []impl.Mobile {
	next := numbersFrom(5)
	mobiles := []impl.Mobile{
		mobileOf([4]int{1, 1, 1, 1}), mobileOf([4]int{12, 12, 99, 99}), mobileOf([4]int{12, 1, 99, 1}), mobileOf([4]int{1, 12, 1, 99}),
		chainOf(6, 12, 12, 99), chainOf(6, 1, 1, 1), chainOf(6, 12, 1, 99), chainOf(6, 1, 12, 99), chainOf(5, 12, 12, 1),
	}
	for _, shape := range allShapes() {
		for _, limits := range [][2]int{{2, 3}, {12, 99}} {
			var m impl.Mobile
			for _, hung := range shape {
				for end := range hung {
					if hung[end] == 0 {
						hung[end] = 1 + next(limits[1])
					}
				}
				m.Arms = append(m.Arms, [2]int{1 + next(limits[0]), 1 + next(limits[0])})
				m.Hung = append(m.Hung, hung)
			}
			mobiles = append(mobiles, m)
		}
	}
	return mobiles
}

// levelMobiles lists level Mobiles: those of manyMobiles with the leaves with which they are level, or twice or three times these.
func levelMobiles() []impl.Mobile {
	var level []impl.Mobile
	for _, m := range manyMobiles() {
		for times := 1; times <= 3; times++ {
			weights, ok := scaledWeights(levelByDefinition(m), times)
			if ok {
				level = append(level, withLeaves(m, weights))
			}
		}
	}
	return level
}

// badMobiles are no Mobiles, by their size, an arm, a leaf, or a rod that hangs at no end, at two, at itself or at one behind it.
func badMobiles() []impl.Mobile {
	mobiles := []impl.Mobile{
		{}, {Arms: [][2]int{{1, 1}}}, {Hung: [][2]int{{1, 1}}}, chainOf(7, 1, 1, 1),
		{Arms: [][2]int{{1, 1}, {1, 1}}, Hung: [][2]int{{1, 1}}}, {Arms: [][2]int{{1, 1}}, Hung: [][2]int{{1, -1}, {1, 1}}},
		{Arms: [][2]int{{1, 1}}, Hung: [][2]int{{1, 1}, {1, 1}}}, {Arms: make([][2]int, 3), Hung: make([][2]int, 3)},
		mobileOf([4]int{1, 1, -1, 1}), mobileOf([4]int{1, 1, 1, -1}), mobileOf([4]int{1, 1, 0, 1}), mobileOf([4]int{1, 1, 1, 0}),
		mobileOf([4]int{1, 1, 1, 1}, [4]int{1, 1, 1, 1}), mobileOf([4]int{1, 1, -1, -1}, [4]int{1, 1, 1, 1}),
		mobileOf([4]int{1, 1, 1, 2}, [4]int{1, 1, -1, 1}), mobileOf([4]int{1, 1, -2, 1}, [4]int{1, 1, 1, 1}),
		mobileOf([4]int{1, 1, 2, -1}, [4]int{1, 1, 3, -1}), mobileOf([4]int{1, 1, -1, 1}, [4]int{1, 1, 1, 0}),
		mobileOf([4]int{1, 1, -2, 1}, [4]int{1, 1, 1, 1}, [4]int{1, 1, -1, 1}), mobileOf([4]int{1, 1, 1, 1}, [4]int{1, 1, -2, 1}, [4]int{1, 1, -1, 1}),
		mobileOf([4]int{1, 1, -1, -2}, [4]int{1, 1, -2, 1}, [4]int{1, 1, 1, 1}), mobileOf([4]int{1, 1, -1, 1}, [4]int{1, 1, 2, 1}, [4]int{1, 1, 1, 1}),
		mobileOf([4]int{1, 1, -1, 1}, [4]int{1, 1, -2, -2}, [4]int{1, 1, 1, 1}), mobileOf([4]int{1, 1, -2, 1}, [4]int{1, 1, 5, 1}, [4]int{1, 1, 1, 1}),
		mobileOf([4]int{1, 1, -1, 1}, [4]int{1, 1, -3, 1}, [4]int{1, 1, 1, 1}), mobileOf([4]int{1, 1, -1, 1}, [4]int{1, 13, 1, 1}),
		{Arms: make([][2]int, 1<<16), Hung: make([][2]int, 1<<16)}, {Arms: [][2]int{{1, 1}}, Hung: make([][2]int, 1<<16)},
	}
	for _, n := range []int{0, -1, 100, math.MaxInt, math.MinInt, math.MinInt + 1, 1 << 32, 1<<32 + 1, -1 << 32, -1<<32 - 1} {
		mobiles = append(mobiles, mobileOf([4]int{n, 1, 1, 1}), mobileOf([4]int{1, n, 1, 1}), mobileOf([4]int{1, 1, n, 1}), mobileOf([4]int{1, 1, 1, n}),
			mobileOf([4]int{1, 1, n, -1}, [4]int{1, 1, 1, 1}), mobileOf([4]int{1, 1, 1, -1}, [4]int{1, n, 1, 1}), mobileOf([4]int{1, 1, 1, -1}, [4]int{1, 1, 1, n}))
	}
	return mobiles
}

func badRods(m impl.Mobile) []int {
	return []int{-1, len(m.Arms), len(m.Arms) + 1, -len(m.Arms), 6, 7, math.MaxInt, math.MinInt, 1 << 32, -1 << 32}
}

// The definitions of the chapter, told once more from what hangs at an end on.

func weightOfHung(m impl.Mobile, hung int) int {
	if hung > 0 {
		return hung
	}
	return weightOfHung(m, m.Hung[-hung][0]) + weightOfHung(m, m.Hung[-hung][1])
}

func turnByDefinition(m impl.Mobile, rod int) int {
	return m.Arms[rod][1]*weightOfHung(m, m.Hung[rod][1]) - m.Arms[rod][0]*weightOfHung(m, m.Hung[rod][0])
}

func isLevelByDefinition(m impl.Mobile) bool {
	for i := range m.Arms {
		if turnByDefinition(m, i) != 0 {
			return false
		}
	}
	return true
}

func leavesByDefinition(m impl.Mobile) []int {
	var leaves []int
	for _, hung := range m.Hung {
		for _, h := range hung {
			if h > 0 {
				leaves = append(leaves, h)
			}
		}
	}
	return leaves
}

func withLeaves(m impl.Mobile, weights []int) impl.Mobile {
	made := cloneMobile(m)
	for i := range made.Hung {
		for end, hung := range made.Hung[i] {
			if hung > 0 {
				made.Hung[i][end] = weights[0]
				weights = weights[1:]
			}
		}
	}
	return made
}

// ratiosBelow tells of each leaf below a rod, by its rod and its end, which part of the rod's weight it has if all is level.
func ratiosBelow(m impl.Mobile, rod int) map[[2]int]*big.Rat {
	ratios := map[[2]int]*big.Rat{}
	length := int64(m.Arms[rod][0] + m.Arms[rod][1])
	for end, hung := range m.Hung[rod] {
		part := big.NewRat(int64(m.Arms[rod][1-end]), length)
		if hung > 0 {
			ratios[[2]int{rod, end}] = part
			continue
		}
		for at, ratio := range ratiosBelow(m, -hung) {
			ratios[at] = ratio.Mul(ratio, part)
		}
	}
	return ratios
}

// levelByDefinition returns the least leaves with which the rods and arms of a Mobile are level, in order.
func levelByDefinition(m impl.Mobile) []*big.Int {
	ratios := ratiosBelow(m, 0)
	common := big.NewInt(1)
	for _, ratio := range ratios {
		divisor := new(big.Int).GCD(nil, nil, common, ratio.Denom())
		common.Mul(common, new(big.Int).Quo(ratio.Denom(), divisor))
	}
	var weights []*big.Int
	divisor := new(big.Int)
	for i := range m.Hung {
		for end := range 2 {
			if ratio, ok := ratios[[2]int{i, end}]; ok {
				weight := new(big.Rat).Mul(ratio, new(big.Rat).SetInt(common)).Num()
				weights = append(weights, weight)
				divisor.GCD(nil, nil, divisor, weight)
			}
		}
	}
	for _, weight := range weights {
		weight.Quo(weight, divisor)
	}
	return weights
}

// scaledWeights multiplies weights; it fails if one of them is more than 99.
func scaledWeights(weights []*big.Int, times int) ([]int, bool) {
	var scaled []int
	for _, weight := range weights {
		if !weight.IsInt64() || weight.Int64()*int64(times) > 99 {
			return nil, false
		}
		scaled = append(scaled, int(weight.Int64())*times)
	}
	return scaled, true
}

// placesBelow tells of each leaf below a rod with its middle at a place, by its rod and its end, at which place it is.
func placesBelow(m impl.Mobile, rod, middle int) map[[2]int]int {
	places := map[[2]int]int{}
	for end, hung := range m.Hung[rod] {
		place := middle + (2*end-1)*m.Arms[rod][end]
		if hung > 0 {
			places[[2]int{rod, end}] = place
			continue
		}
		for at, p := range placesBelow(m, -hung, place) {
			places[at] = p
		}
	}
	return places
}

func leafRowByDefinition(m impl.Mobile, p int) ([]impl.Load, bool) {
	places := placesBelow(m, 0, p)
	var row []impl.Load
	for i, hung := range m.Hung {
		for end, h := range hung {
			if h < 0 {
				continue
			}
			place := places[[2]int{i, end}]
			if place < 0 || place > 60 {
				return nil, false
			}
			row = append(row, impl.Load{Place: place, Weight: h})
		}
	}
	return row, true
}

// cutByDefinition cuts a rod; it fails if its weight is none of a leaf.
func cutByDefinition(m impl.Mobile, rod int) (impl.Mobile, bool) {
	weight := weightOfHung(m, -rod)
	numbers := map[int]int{}
	for i := range m.Arms {
		if !hangsBelow(m, i, rod) {
			numbers[i] = len(numbers)
		}
	}
	var made impl.Mobile
	for i, hung := range m.Hung {
		if hangsBelow(m, i, rod) {
			continue
		}
		for end, h := range hung {
			if h == -rod {
				hung[end] = weight
			} else if h < 0 {
				hung[end] = -numbers[-h]
			}
		}
		made.Arms = append(made.Arms, m.Arms[i])
		made.Hung = append(made.Hung, hung)
	}
	return made, weight <= 99
}

// hangsBelow tells whether a rod is another one or hangs somewhere below it.
func hangsBelow(m impl.Mobile, rod, top int) bool {
	if rod == top {
		return true
	}
	for i, hung := range m.Hung {
		if hung[0] == -rod || hung[1] == -rod {
			return hangsBelow(m, i, top)
		}
	}
	return false
}

func TestIsMobile(t *testing.T) {
	mobiles := manyMobiles()
	if len(mobiles) != 9+2*(1+2+6+24+120+720) {
		t.Errorf("%d Mobiles", len(mobiles))
	}
	for _, m := range mobiles {
		if !impl.IsMobile(m) {
			t.Errorf("IsMobile(%v) is false", m)
		}
	}
	for _, m := range badMobiles() {
		if impl.IsMobile(m) {
			t.Errorf("IsMobile of %d rods is true: %.3v", len(m.Arms), m)
		}
	}
	for n := -10; n <= 110; n++ {
		isArm, isLeaf := n >= 1 && n <= 12, n >= 1 && n <= 99
		if impl.IsMobile(mobileOf([4]int{n, 1, 1, 1})) != isArm || impl.IsMobile(mobileOf([4]int{1, 1, -1, 1}, [4]int{1, n, 1, 1})) != isArm {
			t.Errorf("IsMobile with the arm %d", n)
		}
		if impl.IsMobile(mobileOf([4]int{1, 1, n, 1})) != isLeaf || impl.IsMobile(mobileOf([4]int{1, 1, -1, 1}, [4]int{1, 1, 1, n})) != isLeaf {
			t.Errorf("IsMobile with %d at an end", n)
		}
		if impl.IsMobile(mobileOf([4]int{1, 1, -1, n}, [4]int{1, 1, 1, 1}, [4]int{1, 1, 1, 1})) != (n == -2) {
			t.Errorf("IsMobile with %d at the end where rod 2 hangs", n)
		}
		if n >= 1 && impl.IsMobile(chainOf(n, 1, 1, 1)) != (n <= 6) {
			t.Errorf("IsMobile of %d rods", n)
		}
	}
}

// All ways to hang leaves, rods and what is neither at three rods are tried: rod 1 hangs at one of two ends, and rod 2 at one of three.
func TestWhatHangsAtThreeRods(t *testing.T) {
	things := []int{-4, -3, -2, -1, 0, 1}
	found := 0
	for index := range 6 * 6 * 6 * 6 * 6 * 6 {
		m := chainOf(3, 1, 1, 1)
		for k := range 6 {
			m.Hung[k/2][k%2] = things[index%6]
			index /= 6
		}
		hooks := [4][]int{}
		valid := true
		for i, hung := range m.Hung {
			for _, h := range hung {
				if h == 0 || h < -2 || h < 0 && -h <= i {
					valid = false
				} else if h < 0 {
					hooks[-h] = append(hooks[-h], i)
				}
			}
		}
		valid = valid && len(hooks[1]) == 1 && len(hooks[2]) == 1
		if impl.IsMobile(m) != valid {
			t.Fatalf("IsMobile(%v) = %v", m, !valid)
		}
		if valid {
			found++
		}
	}
	if found != 6 {
		t.Errorf("%d Mobiles of three rods", found)
	}
}

func TestWeightsAndTurns(t *testing.T) {
	for _, m := range slices.Concat(manyMobiles(), levelMobiles()) {
		var wantWeights, wantTurns []int
		for i := range m.Arms {
			wantWeights = append(wantWeights, weightOfHung(m, -i))
			wantTurns = append(wantTurns, turnByDefinition(m, i))
		}
		if weights, ok := impl.RodWeights(m); !ok || !slices.Equal(weights, wantWeights) {
			t.Fatalf("RodWeights(%v) = %v, %v; want %v", m, weights, ok, wantWeights)
		}
		if turns, ok := impl.RodTurns(m); !ok || !slices.Equal(turns, wantTurns) {
			t.Fatalf("RodTurns(%v) = %v, %v; want %v", m, turns, ok, wantTurns)
		}
		if level, ok := impl.IsLevel(m); !ok || level != isLevelByDefinition(m) {
			t.Fatalf("IsLevel(%v) = %v, %v", m, level, ok)
		}
	}
}

func TestWeightsAndTurnsOfKnownMobiles(t *testing.T) {
	cases := []struct {
		m              impl.Mobile
		weights, turns []int
		level          bool
	}{
		{mobileOf([4]int{1, 1, 1, 1}), []int{2}, []int{0}, true},
		{mobileOf([4]int{1, 2, 4, 8}), []int{12}, []int{12}, false},
		{mobileOf([4]int{2, 1, 4, 7}), []int{11}, []int{-1}, false},
		{mobileOf([4]int{12, 12, 99, 99}), []int{198}, []int{0}, true},
		{mobileOf([4]int{12, 1, 99, 1}), []int{100}, []int{-1187}, false},
		{mobileOf([4]int{2, 1, -1, 8}, [4]int{1, 3, 3, 1}), []int{12, 4}, []int{0, 0}, true},
		// The turn of a rod is 0, but not those of those below or above it.
		{mobileOf([4]int{2, 1, -1, 8}, [4]int{1, 3, 2, 2}), []int{12, 4}, []int{0, 4}, false},
		{mobileOf([4]int{2, 1, -1, 7}, [4]int{1, 3, 3, 1}), []int{11, 4}, []int{-1, 0}, false},
		// Rod 2 hangs to the left of rod 1, and rod 3 below rod 1.
		{mobileOf([4]int{3, 1, -2, -1}, [4]int{1, 2, 4, -3}, [4]int{1, 1, 1, 1}, [4]int{1, 1, 1, 1}), []int{8, 6, 2, 2}, []int{0, 0, 0, 0}, true},
		{chainOf(6, 1, 1, 99), []int{693, 594, 495, 396, 297, 198}, []int{495, 396, 297, 198, 99, 0}, false},
	}
	for _, c := range cases {
		weights, ok := impl.RodWeights(c.m)
		turns, turnsOK := impl.RodTurns(c.m)
		level, levelOK := impl.IsLevel(c.m)
		if !ok || !turnsOK || !levelOK || !slices.Equal(weights, c.weights) || !slices.Equal(turns, c.turns) || level != c.level {
			t.Errorf("%v: weights %v, turns %v, level %v", c.m, weights, turns, level)
		}
	}
}

func TestLeavesOfAndHangLeaves(t *testing.T) {
	next := numbersFrom(6)
	for _, m := range manyMobiles() {
		want := leavesByDefinition(m)
		leaves, ok := impl.LeavesOf(m)
		if !ok || !slices.Equal(leaves, want) || len(leaves) != len(m.Arms)+1 {
			t.Fatalf("LeavesOf(%v) = %v, %v; want %v", m, leaves, ok, want)
		}
		// The guarantee: HangLeaves of LeavesOf is the Mobile again.
		if same, ok := impl.HangLeaves(m, leaves); !ok || !sameMobile(same, m) {
			t.Fatalf("HangLeaves of LeavesOf(%v) = %v, %v", m, same, ok)
		}
		others := make([]int, len(leaves))
		for k := range others {
			others[k] = 1 + next(99)
		}
		if hung, ok := impl.HangLeaves(m, others); !ok || !sameMobile(hung, withLeaves(m, others)) {
			t.Fatalf("HangLeaves(%v, %v) = %v, %v", m, others, hung, ok)
		}
		k := next(len(others))
		for _, bad := range []int{0, -1, 1 - len(m.Arms), -len(m.Arms), -1 - len(m.Arms), 100, math.MaxInt, math.MinInt, 1<<32 + 1} {
			changed := slices.Clone(others)
			changed[k] = bad
			if hung, ok := impl.HangLeaves(m, changed); ok || !noMobile(hung) {
				t.Fatalf("HangLeaves(%v, %v) = %v, %v", m, changed, hung, ok)
			}
		}
		for _, list := range [][]int{nil, {}, others[1:], append(slices.Clone(others), 1), make([]int, 1<<10)} {
			if hung, ok := impl.HangLeaves(m, list); ok || !noMobile(hung) {
				t.Fatalf("HangLeaves(%v) of %d weights = %v, %v", m, len(list), hung, ok)
			}
		}
	}
	// The order of the leaves is that of the rods by their numbers, not that in which one comes to them from the hook.
	m := mobileOf([4]int{1, 1, -2, -1}, [4]int{1, 1, 1, -3}, [4]int{1, 1, 2, 3}, [4]int{1, 1, 4, 5})
	if leaves, ok := impl.LeavesOf(m); !ok || !slices.Equal(leaves, []int{1, 2, 3, 4, 5}) {
		t.Errorf("LeavesOf(%v) = %v, %v", m, leaves, ok)
	}
	want := mobileOf([4]int{1, 1, -2, -1}, [4]int{1, 1, 9, -3}, [4]int{1, 1, 8, 7}, [4]int{1, 1, 6, 99})
	if hung, ok := impl.HangLeaves(m, []int{9, 8, 7, 6, 99}); !ok || !sameMobile(hung, want) {
		t.Errorf("HangLeaves(%v) = %v, %v", m, hung, ok)
	}
}

func TestLevelWeights(t *testing.T) {
	fit, heavy := 0, 0
	for _, m := range manyMobiles() {
		want, ok := scaledWeights(levelByDefinition(m), 1)
		weights, got := impl.LevelWeights(m)
		if got != ok || !slices.Equal(weights, want) {
			t.Fatalf("LevelWeights(%v) = %v, %v; want %v, %v", m, weights, got, want, ok)
		}
		if !ok {
			heavy++
			continue
		}
		fit++
		hung, _ := impl.HangLeaves(m, weights)
		if level, _ := impl.IsLevel(hung); !level {
			t.Fatalf("%v is not level", hung)
		}
	}
	if fit < 300 || heavy < 300 {
		t.Error("too few Mobiles of a kind", fit, heavy)
	}
}

// For few leaves, all lists up to a limit are tried: those with which a Mobile is level are the least one times a number.
func TestOnlyLevelWeightsAreLevel(t *testing.T) {
	cases := []impl.Mobile{
		mobileOf([4]int{1, 1, 1, 1}), mobileOf([4]int{4, 6, 1, 1}), mobileOf([4]int{12, 12, 1, 1}), mobileOf([4]int{2, 1, -1, 1}, [4]int{1, 3, 1, 1}),
		mobileOf([4]int{2, 2, 1, -1}, [4]int{3, 1, 5, 7}), mobileOf([4]int{1, 2, 1, -1}, [4]int{4, 2, 9, 9}),
		mobileOf([4]int{1, 2, -2, -1}, [4]int{1, 1, 1, 1}, [4]int{3, 1, 1, 1}), mobileOf([4]int{2, 1, 1, -1}, [4]int{2, 2, -2, 1}, [4]int{1, 1, 1, 1}),
	}
	for _, m := range cases {
		least, ok := impl.LevelWeights(m)
		if !ok || slices.Max(least) > 12 {
			t.Fatalf("LevelWeights(%v) = %v, %v", m, least, ok)
		}
		size := len(m.Arms) + 1
		for index := range []int{2: 12 * 12, 3: 12 * 12 * 12, 4: 12 * 12 * 12 * 12}[size] {
			weights := make([]int, size)
			multiple := true
			for k := range weights {
				weights[k] = 1 + index%12
				index /= 12
				multiple = multiple && weights[k]*least[0] == weights[0]*least[k]
			}
			// A list of half of the weights, say, would be level, but no multiple.
			if isLevelByDefinition(withLeaves(m, weights)) != (multiple && weights[0]%least[0] == 0) {
				t.Fatalf("%v with %v, and the least weights are %v", m, weights, least)
			}
		}
	}
}

func TestKnownLevelWeights(t *testing.T) {
	cases := []struct {
		m    impl.Mobile
		want []int
	}{
		{mobileOf([4]int{1, 1, 5, 7}), []int{1, 1}},
		{mobileOf([4]int{12, 12, 1, 2}), []int{1, 1}},
		{mobileOf([4]int{1, 12, 1, 1}), []int{12, 1}},
		{mobileOf([4]int{8, 12, 1, 1}), []int{3, 2}},
		{mobileOf([4]int{2, 1, -1, 9}, [4]int{1, 3, 9, 9}), []int{8, 3, 1}},
		{mobileOf([4]int{3, 1, -2, -1}, [4]int{1, 2, 9, -3}, [4]int{1, 1, 9, 9}, [4]int{1, 1, 9, 9}), []int{4, 1, 1, 1, 1}},
		{chainOf(6, 1, 1, 9), []int{32, 16, 8, 4, 2, 1, 1}},
		{chainOf(6, 2, 1, 9), nil},
		{chainOf(6, 1, 2, 9), nil},
		// The heaviest leaf is 99 here, and would be 100 and 108 in those that follow.
		{mobileOf([4]int{1, 9, 1, -1}, [4]int{1, 10, 1, 1}), []int{99, 10, 1}},
		{mobileOf([4]int{1, 10, 1, -1}, [4]int{1, 9, 1, 1}), nil},
		{mobileOf([4]int{1, 9, 1, -1}, [4]int{1, 11, 1, 1}), nil},
		{chainOf(6, 12, 12, 99), []int{32, 16, 8, 4, 2, 1, 1}},
		{chainOf(6, 1, 12, 1), nil},
		{chainOf(6, 12, 11, 1), nil},
	}
	for _, c := range cases {
		if weights, ok := impl.LevelWeights(c.m); ok != (c.want != nil) || !slices.Equal(weights, c.want) {
			t.Errorf("LevelWeights(%v) = %v, %v; want %v", c.m, weights, ok, c.want)
		}
	}
}

// The guarantee: the leaves of a level Mobile are LevelWeights times their greatest common divisor.
func TestLeavesOfLevelMobiles(t *testing.T) {
	mobiles := levelMobiles()
	if len(mobiles) < 500 {
		t.Error("too few level Mobiles", len(mobiles))
	}
	for _, m := range mobiles {
		leaves, _ := impl.LeavesOf(m)
		divisor := new(big.Int)
		for _, leaf := range leaves {
			divisor.GCD(nil, nil, divisor, big.NewInt(int64(leaf)))
		}
		least, ok := impl.LevelWeights(m)
		for k := range least {
			least[k] *= int(divisor.Int64())
		}
		if !ok || !slices.Equal(least, leaves) {
			t.Fatalf("LevelWeights of %v times %v = %v", m, divisor, least)
		}
	}
}

// levelArmsByDefinition tries all arms of each rod.
func levelArmsByDefinition(m impl.Mobile) (impl.Mobile, bool) {
	made := cloneMobile(m)
	for i, arms := range m.Arms {
		found := false
		for left := 1; left <= 12; left++ {
			made.Arms[i] = [2]int{left, arms[0] + arms[1] - left}
			if made.Arms[i][1] >= 1 && made.Arms[i][1] <= 12 && turnByDefinition(made, i) == 0 {
				found = true
				break
			}
		}
		if !found {
			return impl.Mobile{}, false
		}
	}
	return made, true
}

func TestLevelArms(t *testing.T) {
	made := 0
	mobiles := manyMobiles()
	for _, m := range slices.Clone(levelMobiles()) {
		// Arms of the same sums, so that there are some that are level.
		shifted := cloneMobile(m)
		for i := range shifted.Arms {
			shifted.Arms[i] = [2]int{max(1, m.Arms[i][0]+m.Arms[i][1]-12), min(12, m.Arms[i][0]+m.Arms[i][1]-1)}
		}
		mobiles = append(mobiles, m, shifted)
	}
	for _, m := range mobiles {
		want, found := levelArmsByDefinition(m)
		got, ok := impl.LevelArms(m)
		if ok != found || !sameMobile(got, want) {
			t.Fatalf("LevelArms(%v) = %v, %v; want %v, %v", m, got, ok, want, found)
		}
		if !ok {
			continue
		}
		made++
		if level, _ := impl.IsLevel(got); !level {
			t.Fatalf("%v is not level", got)
		}
	}
	if made < 500 {
		t.Error("too few Mobiles with level arms", made)
	}
	cases := []struct {
		m    impl.Mobile
		arms [][2]int
	}{
		{mobileOf([4]int{1, 2, 4, 8}), [][2]int{{2, 1}}},
		{mobileOf([4]int{2, 1, 4, 8}), [][2]int{{2, 1}}},
		{mobileOf([4]int{1, 1, 4, 8}), nil},
		{mobileOf([4]int{1, 1, 1, 99}), nil},
		{mobileOf([4]int{12, 12, 1, 1}), [][2]int{{12, 12}}},
		{mobileOf([4]int{12, 1, 1, 12}), [][2]int{{12, 1}}},
		{mobileOf([4]int{1, 12, 1, 12}), [][2]int{{12, 1}}},
		// The arms would be 18 and 6, 13 and 1, 1 and 13.
		{mobileOf([4]int{12, 12, 1, 3}), nil},
		{mobileOf([4]int{12, 2, 1, 13}), nil},
		{mobileOf([4]int{2, 12, 13, 1}), nil},
		{mobileOf([4]int{1, 2, -1, 8}, [4]int{3, 1, 3, 1}), [][2]int{{2, 1}, {1, 3}}},
		{mobileOf([4]int{1, 2, -1, 8}, [4]int{3, 2, 3, 1}), nil},
		{mobileOf([4]int{1, 3, -1, 8}, [4]int{3, 1, 3, 1}), nil},
	}
	for _, c := range cases {
		got, ok := impl.LevelArms(c.m)
		if ok != (c.arms != nil) || !slices.Equal(got.Arms, c.arms) || ok && !slices.Equal(got.Hung, c.m.Hung) || !ok && !noMobile(got) {
			t.Errorf("LevelArms(%v) = %v, %v", c.m, got, ok)
		}
	}
}

// fixByDefinition tries all weights of a leaf.
func fixByDefinition(m impl.Mobile, rod, end int) (int, bool) {
	made := cloneMobile(m)
	for weight := 1; weight <= 99 && m.Hung[rod][end] > 0; weight++ {
		made.Hung[rod][end] = weight
		if turnByDefinition(made, rod) == 0 {
			return weight, true
		}
	}
	return 0, false
}

func TestFixLeaf(t *testing.T) {
	fixed, failed := 0, 0
	for _, m := range slices.Concat(manyMobiles(), levelMobiles()) {
		for rod := range m.Arms {
			for end := range 2 {
				want, found := fixByDefinition(m, rod, end)
				weight, ok := impl.FixLeaf(m, rod, end)
				if ok != found || weight != want {
					t.Fatalf("FixLeaf(%v, %d, %d) = %d, %v; want %d, %v", m, rod, end, weight, ok, want, found)
				}
				if ok {
					fixed++
				} else if m.Hung[rod][end] > 0 {
					failed++
				}
			}
			for _, end := range []int{-1, 2, 3, math.MaxInt, math.MinInt, 1 << 32, 1<<32 + 1} {
				if weight, ok := impl.FixLeaf(m, rod, end); ok || weight != 0 {
					t.Fatalf("FixLeaf(%v, %d, %d) = %d, %v", m, rod, end, weight, ok)
				}
			}
		}
	}
	if fixed < 1000 || failed < 1000 {
		t.Error("too few leaves of a kind", fixed, failed)
	}
	cases := []struct {
		m        impl.Mobile
		rod, end int
		want     int
		possible bool
	}{
		{mobileOf([4]int{2, 1, -1, 5}, [4]int{1, 3, 3, 1}), 0, 1, 8, true},
		{mobileOf([4]int{2, 1, -1, 8}, [4]int{1, 3, 3, 1}), 0, 0, 0, false},
		{mobileOf([4]int{2, 1, -1, 8}, [4]int{1, 3, 7, 1}), 1, 0, 3, true},
		// The turn of this rod is 0 then, but not that of rod 0.
		{mobileOf([4]int{2, 1, -1, 8}, [4]int{1, 3, 6, 1}), 1, 1, 2, true},
		{mobileOf([4]int{2, 1, 1, 1}), 0, 0, 0, false},
		{mobileOf([4]int{1, 3, 1, 33}), 0, 0, 99, true},
		{mobileOf([4]int{1, 2, 1, 50}), 0, 0, 0, false},
		{mobileOf([4]int{2, 1, 50, 1}), 0, 1, 0, false},
		{mobileOf([4]int{12, 1, 1, 11}), 0, 0, 0, false},
		{mobileOf([4]int{12, 1, 1, 12}), 0, 0, 1, true},
	}
	for _, c := range cases {
		weight, ok := impl.FixLeaf(c.m, c.rod, c.end)
		if ok != c.possible || weight != c.want {
			t.Errorf("FixLeaf(%v, %d, %d) = %d, %v", c.m, c.rod, c.end, weight, ok)
			continue
		}
		if !ok {
			continue
		}
		c.m.Hung[c.rod][c.end] = weight
		turns, _ := impl.RodTurns(c.m)
		if turns[c.rod] != 0 {
			t.Errorf("the turns of %v are %v", c.m, turns)
		}
	}
}

func TestMirrorMobile(t *testing.T) {
	for _, m := range manyMobiles() {
		want := cloneMobile(m)
		for i := range want.Arms {
			want.Arms[i] = [2]int{m.Arms[i][1], m.Arms[i][0]}
			want.Hung[i] = [2]int{m.Hung[i][1], m.Hung[i][0]}
		}
		mirror, ok := impl.MirrorMobile(m)
		if !ok || !sameMobile(mirror, want) {
			t.Fatalf("MirrorMobile(%v) = %v, %v", m, mirror, ok)
		}
		if back, ok := impl.MirrorMobile(mirror); !ok || !sameMobile(back, m) {
			t.Fatalf("MirrorMobile(%v) = %v, %v; want %v", mirror, back, ok, m)
		}
		turns, _ := impl.RodTurns(m)
		mirrored, _ := impl.RodTurns(mirror)
		for i := range turns {
			if turns[i] != -mirrored[i] {
				t.Fatalf("the turns of %v are %v, and mirrored %v", m, turns, mirrored)
			}
		}
	}
}

func TestLeafRow(t *testing.T) {
	made, failed := 0, 0
	for _, m := range manyMobiles() {
		for p := 0; p <= 60; p++ {
			want, fits := leafRowByDefinition(m, p)
			row, ok := impl.LeafRow(m, p)
			if ok != fits || !slices.Equal(row, want) {
				t.Fatalf("LeafRow(%v, %d) = %v, %v; want %v, %v", m, p, row, ok, want, fits)
			}
			if ok {
				made++
			} else {
				failed++
			}
		}
		for _, p := range badPlaces() {
			if row, ok := impl.LeafRow(m, p); ok || len(row) != 0 {
				t.Fatalf("LeafRow(%v, %d) = %v, %v", m, p, row, ok)
			}
		}
	}
	if made < 1000 || failed < 1000 {
		t.Error("too few rows of a kind", made, failed)
	}
	cases := []struct {
		m    impl.Mobile
		p    int
		want []impl.Load
	}{
		{mobileOf([4]int{2, 1, -1, 8}, [4]int{1, 3, 3, 1}), 30, rowOf(31, 8, 27, 3, 31, 1)},
		{mobileOf([4]int{2, 3, 8, 7}), 2, rowOf(0, 8, 5, 7)},
		{mobileOf([4]int{2, 3, 8, 7}), 1, nil},
		{mobileOf([4]int{2, 3, 8, 7}), 57, rowOf(55, 8, 60, 7)},
		{mobileOf([4]int{2, 3, 8, 7}), 58, nil},
		{mobileOf([4]int{1, 1, 1, 1}), 0, nil},
		{mobileOf([4]int{1, 1, 1, 1}), 60, nil},
		{chainOf(6, 12, 12, 1), 30, nil},
		{chainOf(6, 12, 9, 1), 12, nil},
		{chainOf(6, 12, 8, 1), 12, rowOf(0, 1, 8, 1, 16, 1, 24, 1, 32, 1, 40, 1, 60, 1)},
		// The rods are where they come to be from the hook, whatever their numbers are.
		{mobileOf([4]int{4, 5, -2, -1}, [4]int{1, 2, 1, -3}, [4]int{3, 6, 2, 3}, [4]int{8, 9, 4, 5}), 30, rowOf(34, 1, 23, 2, 32, 3, 29, 4, 46, 5)},
	}
	for _, c := range cases {
		if row, ok := impl.LeafRow(c.m, c.p); ok != (c.want != nil) || !slices.Equal(row, c.want) {
			t.Errorf("LeafRow(%v, %d) = %v, %v; want %v", c.m, c.p, row, ok, c.want)
		}
	}
}

// Promise 5: the moment of all leaves about the hook is the sum of all turns, and 0 if the Mobile is level.
func TestMomentOfLeavesIsSumOfTurns(t *testing.T) {
	checked, level := 0, 0
	for _, m := range slices.Concat(manyMobiles(), levelMobiles()) {
		turns, _ := impl.RodTurns(m)
		sum := 0
		for _, turn := range turns {
			sum += turn
		}
		isLevel, _ := impl.IsLevel(m)
		for p := 0; p <= 60; p++ {
			row, ok := impl.LeafRow(m, p)
			if !ok {
				continue
			}
			checked++
			moment, ok := impl.MomentAbout(row, p)
			if !ok || moment != sum || isLevel && moment != 0 {
				t.Fatalf("the moment of %v about %d is %d, and the turns are %v", row, p, moment, turns)
			}
			if isLevel {
				level++
			}
		}
	}
	if checked < 5000 || level < 1000 {
		t.Error("too few rows", checked, level)
	}
}

// ordersOf lists all orders of some weights, ascending as lists.
func ordersOf(weights []int) [][]int {
	if len(weights) == 0 {
		return [][]int{nil}
	}
	sorted := slices.Sorted(slices.Values(weights))
	var orders [][]int
	for k, first := range sorted {
		if k > 0 && first == sorted[k-1] {
			continue
		}
		for _, rest := range ordersOf(slices.Delete(slices.Clone(sorted), k, k+1)) {
			orders = append(orders, append([]int{first}, rest...))
		}
	}
	return orders
}

// firstByDefinition tries all orders.
func firstByDefinition(m impl.Mobile, weights []int) ([]int, bool) {
	for _, order := range ordersOf(weights) {
		if isLevelByDefinition(withLeaves(m, order)) {
			return order, true
		}
	}
	return nil, false
}

func TestFirstHanging(t *testing.T) {
	next := numbersFrom(7)
	found, none := 0, 0
	for k, m := range slices.Concat(manyMobiles(), levelMobiles()) {
		if len(m.Arms) == 6 && k%9 != 0 {
			continue
		}
		weights := leavesByDefinition(m)
		slices.Sort(weights)
		if k%2 == 0 {
			slices.Reverse(weights)
		}
		if k%5 == 0 {
			weights[next(len(weights))] = 1 + next(9)
		}
		want, ok := firstByDefinition(m, weights)
		order, got := impl.FirstHanging(m, weights)
		if got != ok || !slices.Equal(order, want) {
			t.Fatalf("FirstHanging(%v, %v) = %v, %v; want %v, %v", m, weights, order, got, want, ok)
		}
		if ok {
			found++
		} else {
			none++
		}
	}
	if found < 300 || none < 300 {
		t.Error("too few Mobiles of a kind", found, none)
	}
}

func TestFirstHangingOfKnownMobiles(t *testing.T) {
	two := mobileOf([4]int{2, 1, -1, 8}, [4]int{1, 3, 3, 1})
	cases := []struct {
		m             impl.Mobile
		weights, want []int
	}{
		{two, []int{1, 3, 8}, []int{8, 3, 1}},
		{two, []int{8, 3, 1}, []int{8, 3, 1}},
		{two, []int{3, 9, 24}, []int{24, 9, 3}},
		{two, []int{1, 3, 7}, nil},
		// Their sum is that of the level ones, or no multiple of it.
		{two, []int{2, 3, 7}, nil},
		{two, []int{1, 1, 1}, nil},
		{two, []int{8, 8, 8}, nil},
		{two, []int{1, 3}, nil},
		{two, []int{1, 3, 8, 12}, nil},
		{two, []int{1, 3, 8, 0}, nil},
		{two, nil, nil},
		{two, []int{0, 0, 0}, nil},
		{two, []int{-1, -3, -8}, nil},
		{two, []int{12, 36, 96}, []int{96, 36, 12}},
		{two, []int{13, 39, 104}, nil},
		{two, []int{1 << 32, 3 << 32, 8 << 32}, nil},
		{two, []int{math.MaxInt, math.MaxInt, 14}, nil},
		{two, []int{math.MinInt, math.MinInt, 12}, nil},
		{mobileOf([4]int{1, 1, 1, 1}), []int{99, 99}, []int{99, 99}},
		{mobileOf([4]int{1, 1, 1, 1}), []int{99, 98}, nil},
		{mobileOf([4]int{1, 1, 1, 1}), []int{100, 100}, nil},
		{mobileOf([4]int{5, 1, 1, 1}), []int{5, 1}, []int{1, 5}},
		{mobileOf([4]int{1, 5, 1, 1}), []int{1, 5}, []int{5, 1}},
		{chainOf(6, 1, 1, 1), []int{1, 1, 2, 4, 8, 16, 32}, []int{32, 16, 8, 4, 2, 1, 1}},
		{chainOf(6, 12, 12, 7), []int{3, 6, 12, 24, 48, 96, 3}, []int{96, 48, 24, 12, 6, 3, 3}},
		{chainOf(6, 1, 2, 1), []int{1, 1, 2, 4, 8, 16, 32}, nil},
	}
	for _, c := range cases {
		if order, ok := impl.FirstHanging(c.m, c.weights); ok != (c.want != nil) || !slices.Equal(order, c.want) {
			t.Errorf("FirstHanging(%v, %v) = %v, %v; want %v", c.m, c.weights, order, ok, c.want)
		}
	}
}

func TestCutRod(t *testing.T) {
	cut, heavy := 0, 0
	for _, m := range slices.Concat(manyMobiles(), levelMobiles()) {
		for rod := 1; rod < len(m.Arms); rod++ {
			want, light := cutByDefinition(m, rod)
			made, ok := impl.CutRod(m, rod)
			if ok != light || ok && !sameMobile(made, want) || !ok && !noMobile(made) {
				t.Fatalf("CutRod(%v, %d) = %v, %v; want %v, %v", m, rod, made, ok, want, light)
			}
			if ok {
				cut++
			} else {
				heavy++
			}
		}
		for _, rod := range append(badRods(m), 0) {
			if made, ok := impl.CutRod(m, rod); ok || !noMobile(made) {
				t.Fatalf("CutRod(%v, %d) = %v, %v", m, rod, made, ok)
			}
		}
	}
	if cut < 1000 || heavy < 1000 {
		t.Error("too few rods of a kind", cut, heavy)
	}
	m := mobileOf([4]int{1, 2, -2, -1}, [4]int{3, 4, 1, -4}, [4]int{5, 6, 2, -3}, [4]int{7, 8, 3, 4}, [4]int{9, 10, 5, -5}, [4]int{11, 12, 6, 7})
	wanted := []impl.Mobile{
		1: mobileOf([4]int{1, 2, -1, 19}, [4]int{5, 6, 2, -2}, [4]int{7, 8, 3, 4}),
		2: mobileOf([4]int{1, 2, 9, -1}, [4]int{3, 4, 1, -2}, [4]int{9, 10, 5, -3}, [4]int{11, 12, 6, 7}),
		3: mobileOf([4]int{1, 2, -2, -1}, [4]int{3, 4, 1, -3}, [4]int{5, 6, 2, 7}, [4]int{9, 10, 5, -4}, [4]int{11, 12, 6, 7}),
		4: mobileOf([4]int{1, 2, -2, -1}, [4]int{3, 4, 1, 18}, [4]int{5, 6, 2, -3}, [4]int{7, 8, 3, 4}),
		5: mobileOf([4]int{1, 2, -2, -1}, [4]int{3, 4, 1, -4}, [4]int{5, 6, 2, -3}, [4]int{7, 8, 3, 4}, [4]int{9, 10, 5, 13}),
	}
	for rod := 1; rod <= 5; rod++ {
		if made, ok := impl.CutRod(m, rod); !ok || !sameMobile(made, wanted[rod]) {
			t.Errorf("CutRod(%v, %d) = %v, %v; want %v", m, rod, made, ok, wanted[rod])
		}
	}
	for _, right := range []int{49, 50, 99} {
		made, ok := impl.CutRod(mobileOf([4]int{1, 2, 3, -1}, [4]int{1, 1, 50, right}), 1)
		if ok != (right == 49) || ok && !sameMobile(made, mobileOf([4]int{1, 2, 3, 99})) || !ok && !noMobile(made) {
			t.Errorf("CutRod of the leaves 50 and %d = %v, %v", right, made, ok)
		}
	}
}

// The guarantee: a level Mobile stays so by MirrorMobile and by CutRod.
func TestLevelMobilesStayLevel(t *testing.T) {
	cut := 0
	for _, m := range levelMobiles() {
		if level, ok := impl.IsLevel(m); !ok || !level {
			t.Fatalf("IsLevel(%v) = %v, %v", m, level, ok)
		}
		mirror, _ := impl.MirrorMobile(m)
		if level, ok := impl.IsLevel(mirror); !ok || !level {
			t.Fatalf("IsLevel of the mirror of %v = %v, %v", m, level, ok)
		}
		for rod := 1; rod < len(m.Arms); rod++ {
			made, ok := impl.CutRod(m, rod)
			if !ok {
				continue
			}
			cut++
			if level, ok := impl.IsLevel(made); !ok || !level {
				t.Fatalf("IsLevel of %v without rod %d = %v, %v", m, rod, level, ok)
			}
		}
	}
	if cut < 1000 {
		t.Error("too few rods", cut)
	}
}

// mobileCall is one call of a function of this chapter: what it returns, as one value each way.
type mobileCall struct {
	name string
	list []int
	row  []impl.Load
	made impl.Mobile
	n    int
	ok   bool
}

func (c mobileCall) zero() bool {
	return len(c.list) == 0 && len(c.row) == 0 && noMobile(c.made) && c.n == 0
}

// mobileCalls calls all functions that have a Mobile with these arguments.
func mobileCalls(m impl.Mobile, weights []int, n, end int) []mobileCall {
	rods, rodsOK := impl.RodWeights(m)
	turns, turnsOK := impl.RodTurns(m)
	level, levelOK := impl.IsLevel(m)
	leaves, leavesOK := impl.LeavesOf(m)
	hung, hungOK := impl.HangLeaves(m, weights)
	least, leastOK := impl.LevelWeights(m)
	arms, armsOK := impl.LevelArms(m)
	fix, fixOK := impl.FixLeaf(m, n, end)
	mirror, mirrorOK := impl.MirrorMobile(m)
	row, rowOK := impl.LeafRow(m, n)
	first, firstOK := impl.FirstHanging(m, weights)
	cut, cutOK := impl.CutRod(m, n)
	return []mobileCall{
		{name: "RodWeights", list: rods, ok: rodsOK},
		{name: "RodTurns", list: turns, ok: turnsOK},
		{name: "IsLevel", n: asInt(level), ok: levelOK},
		{name: "LeavesOf", list: leaves, ok: leavesOK},
		{name: "HangLeaves", made: hung, ok: hungOK},
		{name: "LevelWeights", list: least, ok: leastOK},
		{name: "LevelArms", made: arms, ok: armsOK},
		{name: "FixLeaf", n: fix, ok: fixOK},
		{name: "MirrorMobile", made: mirror, ok: mirrorOK},
		{name: "LeafRow", row: row, ok: rowOK},
		{name: "FirstHanging", list: first, ok: firstOK},
		{name: "CutRod", made: cut, ok: cutOK},
	}
}

func sameMobileCalls(x, y []mobileCall) bool {
	return slices.EqualFunc(x, y, func(c, d mobileCall) bool {
		return c.name == d.name && slices.Equal(c.list, d.list) && slices.Equal(c.row, d.row) && sameMobile(c.made, d.made) && c.n == d.n && c.ok == d.ok
	})
}

func TestFunctionsFailWithoutAMobile(t *testing.T) {
	for _, m := range badMobiles() {
		for n := range 7 {
			weights := slices.Repeat([]int{1}, 1+n)
			for _, c := range slices.Concat(mobileCalls(m, weights, n, n%2), mobileCalls(m, nil, 10*n, 0), mobileCalls(m, leavesByDefinition(m), n, 1)) {
				if c.ok || !c.zero() {
					t.Errorf("%s of %d rods, %.3v: %+v", c.name, len(m.Arms), m, c)
				}
			}
		}
	}
}

func TestFunctionsFailWithoutARod(t *testing.T) {
	for _, m := range manyMobiles() {
		for _, rod := range badRods(m) {
			for end := range 2 {
				if weight, ok := impl.FixLeaf(m, rod, end); ok || weight != 0 {
					t.Fatalf("FixLeaf(%v, %d, %d) = %d, %v", m, rod, end, weight, ok)
				}
			}
		}
	}
}

// mobileWithRoom returns a Mobile whose lists have more behind their ends, and these whole lists.
func mobileWithRoom(m impl.Mobile) (given, whole impl.Mobile) {
	whole = impl.Mobile{Arms: slices.Concat(m.Arms, [][2]int{{7, 8}}), Hung: slices.Concat(m.Hung, [][2]int{{9, 10}})}
	return impl.Mobile{Arms: whole.Arms[:len(m.Arms)], Hung: whole.Hung[:len(m.Hung)]}, whole
}

// scribbleMobileCall changes all that was made, list by list, and reports whether no list shows in another one.
func scribbleMobileCall(c, want mobileCall) bool {
	scribble(c.list)
	for k := range c.row {
		c.row[k] = impl.Load{Place: -7, Weight: -7}
	}
	for k := range c.made.Arms {
		c.made.Arms[k] = [2]int{-7, -7}
	}
	apart := slices.Equal(c.made.Hung, want.made.Hung)
	for k := range c.made.Hung {
		c.made.Hung[k] = [2]int{-7, -7}
	}
	return apart
}

// Promise 13: results for all arguments, the same ones again, and the arguments as they were, also beyond their length. No two
// lists of the results share memory with each other or with the arguments.
func TestMobileFunctionsReturnAndLeaveTheirArguments(t *testing.T) {
	numbers := []int{0, 1, 2, 5, 30, -1, 6, 61, math.MaxInt, math.MinInt}
	mobiles := slices.Concat(badMobiles(), manyMobiles()[:80], levelMobiles()[:80])
	for _, m := range mobiles {
		given, whole := mobileWithRoom(m)
		before := cloneMobile(whole)
		for k, n := range numbers {
			weights := [][]int{nil, leavesByDefinition(m), {1, 1}, {math.MaxInt, math.MinInt, 0}}[k%4]
			slices.Reverse(weights)
			list := slices.Concat(weights, []int{5, 6})
			listBefore := slices.Clone(list)
			end := numbers[(k*3)%len(numbers)]
			want := mobileCalls(cloneMobile(m), slices.Clone(weights), n, end)
			calls := mobileCalls(given, list[:len(weights)], n, end)
			if !sameMobileCalls(calls, want) {
				t.Fatalf("other results of the same Mobile %v", m)
			}
			for i, c := range calls {
				if !c.ok && !c.zero() {
					t.Fatalf("%s fails with %+v", c.name, c)
				}
				if !scribbleMobileCall(c, want[i]) {
					t.Fatalf("%s: arms and what hangs share memory", c.name)
				}
			}
			if !sameMobile(whole, before) || !slices.Equal(list, listBefore) {
				t.Fatalf("the Mobile %v became %v, and %v became %v", before, whole, listBefore, list)
			}
			if !sameMobileCalls(mobileCalls(given, weights, n, end), want) {
				t.Fatalf("other results of %v again", m)
			}
		}
	}
}
