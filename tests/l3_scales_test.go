package tests

import (
	"math"
	"slices"
	"sort"
	"testing"

	"loop.example/g01159/impl"
)

// numbersFrom gives out numbers in 0..n-1 that look random and are always the same.
func numbersFrom(seed uint32) func(n int) int {
	return func(n int) int {
		seed = seed*1664525 + 1013904223
		return int(seed>>8) % n
	}
}

// signLists lists all lists of a size of -1, 0 and 1, in lexicographic order.
func signLists(size int) [][]int {
	lists := [][]int{{}}
	for range size {
		var longer [][]int
		for _, list := range lists {
			for _, sign := range []int{-1, 0, 1} {
				longer = append(longer, append(slices.Clone(list), sign))
			}
		}
		lists = longer
	}
	return lists
}

// shortKits lists the kits of at most two weights at and near their limits.
func shortKits() [][]int {
	var kits [][]int
	weights := []int{1, 2, 3, 4, 49, 50, 98, 99}
	for i, w := range weights {
		kits = append(kits, []int{w})
		for _, x := range weights[i:] {
			kits = append(kits, []int{w, x})
		}
	}
	return kits
}

// longKits lists many kits of all sizes, some of them with small weights or the same ones.
func longKits(count int) [][]int {
	kits := [][]int{
		{1, 2, 4, 8, 16, 32}, {1, 3, 9, 27, 81}, {1, 1, 1, 1, 1, 1}, {99, 99, 99, 99, 99, 99}, {1, 1, 99, 99, 99, 99},
		{94, 95, 96, 97, 98, 99}, {2, 4, 6, 8, 10, 12}, {1, 3, 9, 27, 81, 99}, {5, 5, 10}, {1, 2, 2, 5},
	}
	next := numbersFrom(3)
	for len(kits) < count {
		kit := make([]int, 1+next(impl.MaxKit))
		most := []int{4, 12, 40, 99}[next(4)]
		for i := range kit {
			kit[i] = 1 + next(most)
		}
		sort.Ints(kit)
		kits = append(kits, kit)
	}
	return kits
}

// badKits are no kits, by their length, by a weight or by their order.
func badKits() [][]int {
	kits := [][]int{
		nil, {}, {0}, {-1}, {100}, {0, 1}, {-1, 1}, {1, 100}, {2, 1}, {99, 98}, {1, 3, 2}, {3, 1, 9}, {1, 2, 3, 4, 6, 5}, {1, 0, 2},
		{1, 100, 2}, {1, 1, 1, 1, 1, 1, 1}, {1, 2, 4, 8, 16, 32, 64}, make([]int, impl.MaxKit), slices.Repeat([]int{1}, 1<<16),
	}
	for _, n := range []int{math.MaxInt, math.MinInt, math.MinInt + 1, 1 << 32, 1<<32 + 1, -1 << 32} {
		kits = append(kits, []int{n}, []int{n, 1}, []int{1, n}, []int{n, n}, []int{1, n, 2})
	}
	return kits
}

// The definitions of the first part of the chapter: what signs weigh, and how many weights they use.

func weighedBy(kit, signs []int) (sum, used int) {
	for i, sign := range signs {
		sum += sign * kit[i]
		if sign != 0 {
			used++
		}
	}
	return sum, used
}

// weighedByAny lists the numbers of at least 1 that any signs from a least one on weigh.
func weighedByAny(kit []int, least int) []int {
	var numbers []int
	for _, signs := range signLists(len(kit)) {
		if sum, _ := weighedBy(kit, signs); sum >= 1 && slices.Min(signs) >= least {
			numbers = append(numbers, sum)
		}
	}
	sort.Ints(numbers)
	return slices.Compact(numbers)
}

// howByDefinition has for all numbers the signs of fewest weights, the lexicographically first ones.
func howByDefinition(kit []int) map[int][]int {
	lists := signLists(len(kit))
	sort.SliceStable(lists, func(i, j int) bool {
		_, x := weighedBy(kit, lists[i])
		_, y := weighedBy(kit, lists[j])
		return x < y
	})
	how := map[int][]int{}
	for _, signs := range lists {
		sum, _ := weighedBy(kit, signs)
		if _, known := how[sum]; !known {
			how[sum] = signs
		}
	}
	return how
}

func rangeOf(numbers []int) int {
	r := 0
	for slices.Contains(numbers, r+1) {
		r++
	}
	return r
}

func TestIsKit(t *testing.T) {
	for _, kit := range slices.Concat(shortKits(), longKits(300)) {
		if !impl.IsKit(kit) {
			t.Errorf("IsKit(%v) is false", kit)
		}
	}
	for _, kit := range badKits() {
		if impl.IsKit(kit) {
			t.Errorf("IsKit of %d weights is true: %v", len(kit), kit[:min(len(kit), 7)])
		}
	}
	for v := -2; v <= 102; v++ {
		if impl.IsKit([]int{v}) != (v >= 1 && v <= 99) {
			t.Errorf("IsKit of %d", v)
		}
		for w := -2; w <= 102; w++ {
			if impl.IsKit([]int{v, w}) != (v >= 1 && v <= w && w <= 99) {
				t.Errorf("IsKit of %d and %d", v, w)
			}
		}
	}
	for n := range 20 {
		if impl.IsKit(slices.Repeat([]int{99}, n)) != (n >= 1 && n <= 6) {
			t.Errorf("IsKit of %d weights", n)
		}
	}
}

// With a part of the guarantee: what can be weighed with one pan can be weighed with two.
func TestWhatCanBeWeighed(t *testing.T) {
	for _, kit := range slices.Concat(shortKits(), longKits(300)) {
		one, first := impl.WeighOne(kit)
		if want := weighedByAny(kit, 0); !first || !slices.Equal(one, want) {
			t.Fatalf("WeighOne(%v) = %v, %v; want %v", kit, one, first, want)
		}
		two, second := impl.WeighTwo(kit)
		if want := weighedByAny(kit, -1); !second || !slices.Equal(two, want) {
			t.Fatalf("WeighTwo(%v) = %v, %v; want %v", kit, two, second, want)
		}
		for _, n := range one {
			if !slices.Contains(two, n) {
				t.Fatalf("%d of %v can be weighed with one pan, but not with two", n, kit)
			}
		}
		for pans, numbers := range [][]int{one, two} {
			if r, ok := impl.KitRange(kit, pans == 1); !ok || r != rangeOf(numbers) {
				t.Fatalf("KitRange(%v, %v) = %d, %v; want %d", kit, pans == 1, r, ok, rangeOf(numbers))
			}
		}
	}
}

func TestKnownKits(t *testing.T) {
	cases := []struct {
		kit, one, two []int
		near, far     int
	}{
		{[]int{1}, []int{1}, []int{1}, 1, 1},
		{[]int{2}, []int{2}, []int{2}, 0, 0},
		{[]int{99}, []int{99}, []int{99}, 0, 0},
		{[]int{1, 1}, []int{1, 2}, []int{1, 2}, 2, 2},
		{[]int{7, 7}, []int{7, 14}, []int{7, 14}, 0, 0},
		{[]int{98, 99}, []int{98, 99, 197}, []int{1, 98, 99, 197}, 0, 1},
		{[]int{2, 3}, []int{2, 3, 5}, []int{1, 2, 3, 5}, 0, 3},
		{[]int{1, 3, 9}, []int{1, 3, 4, 9, 10, 12, 13}, []int{1, 2, 3, 4, 5, 6, 7, 8, 9, 10, 11, 12, 13}, 1, 13},
		{slices.Repeat([]int{99}, 6), []int{99, 198, 297, 396, 495, 594}, []int{99, 198, 297, 396, 495, 594}, 0, 0},
	}
	for _, c := range cases {
		one, _ := impl.WeighOne(c.kit)
		two, _ := impl.WeighTwo(c.kit)
		near, _ := impl.KitRange(c.kit, false)
		far, _ := impl.KitRange(c.kit, true)
		if !slices.Equal(one, c.one) || !slices.Equal(two, c.two) || near != c.near || far != c.far {
			t.Errorf("%v: %v, %v, %d, %d", c.kit, one, two, near, far)
		}
	}
}

func TestHowToWeigh(t *testing.T) {
	for _, kit := range slices.Concat(shortKits(), longKits(60)) {
		how := howByDefinition(kit)
		for n := -3; n <= 600; n++ {
			want := how[n]
			if n < 1 {
				want = nil
			}
			signs, ok := impl.HowToWeigh(kit, n)
			if ok != (want != nil) || !slices.Equal(signs, want) {
				t.Fatalf("HowToWeigh(%v, %d) = %v, %v; want %v", kit, n, signs, ok, want)
			}
		}
	}
}

func TestHowToWeighTakesTheFewestWeightsFirst(t *testing.T) {
	cases := []struct {
		kit   []int
		n     int
		signs []int
	}{
		{[]int{5}, 5, []int{1}},
		{[]int{5}, 4, nil},
		{[]int{5, 5}, 5, []int{0, 1}},
		{[]int{5, 5}, 10, []int{1, 1}},
		{[]int{5, 5, 10}, 10, []int{0, 0, 1}},
		{[]int{1, 2, 3}, 3, []int{0, 0, 1}},
		{[]int{1, 2, 3, 4}, 5, []int{0, 1, 1, 0}},
		{[]int{1, 2, 3, 4}, 1, []int{1, 0, 0, 0}},
		{[]int{2, 3, 4, 5}, 1, []int{-1, 1, 0, 0}},
		{[]int{2, 4, 5, 6}, 1, []int{0, -1, 1, 0}},
		{[]int{1, 3, 9}, 2, []int{-1, 1, 0}},
		{[]int{1, 3, 9}, 5, []int{-1, -1, 1}},
		{slices.Repeat([]int{99}, 6), 594, []int{1, 1, 1, 1, 1, 1}},
		{slices.Repeat([]int{99}, 6), 99, []int{0, 0, 0, 0, 0, 1}},
		{[]int{1, 1}, 0, nil}, {[]int{1, 2}, -1, nil}, {[]int{1, 2}, 4, nil},
		{[]int{1, 2}, math.MaxInt, nil}, {[]int{1, 2}, math.MinInt, nil}, {[]int{1, 2}, 1<<32 + 1, nil},
	}
	for _, c := range cases {
		if signs, ok := impl.HowToWeigh(c.kit, c.n); ok != (c.signs != nil) || !slices.Equal(signs, c.signs) {
			t.Errorf("HowToWeigh(%v, %d) = %v, %v; want %v", c.kit, c.n, signs, ok, c.signs)
		}
	}
}

func TestThreesKitAndTwosKit(t *testing.T) {
	threes, twos := []int{1, 3, 9, 27, 81}, []int{1, 2, 4, 8, 16, 32}
	for k := -3; k <= 12; k++ {
		var wantThrees, wantTwos []int
		if k >= 1 && k <= 5 {
			wantThrees = threes[:k]
		}
		if k >= 1 && k <= 6 {
			wantTwos = twos[:k]
		}
		if kit, ok := impl.ThreesKit(k); ok != (wantThrees != nil) || !slices.Equal(kit, wantThrees) {
			t.Errorf("ThreesKit(%d) = %v, %v", k, kit, ok)
		}
		if kit, ok := impl.TwosKit(k); ok != (wantTwos != nil) || !slices.Equal(kit, wantTwos) {
			t.Errorf("TwosKit(%d) = %v, %v", k, kit, ok)
		}
	}
	for _, k := range []int{math.MaxInt, math.MinInt, 1<<32 + 1, -1 << 32} {
		threes, one := impl.ThreesKit(k)
		twos, two := impl.TwosKit(k)
		if one || two || len(threes) != 0 || len(twos) != 0 {
			t.Errorf("kits of %d weights: %v, %v", k, threes, twos)
		}
	}
}

// allKits lists all kits of a size with weights of at most a limit.
func allKits(size, least, limit int) [][]int {
	if size == 0 {
		return [][]int{nil}
	}
	var kits [][]int
	for first := least; first <= limit; first++ {
		for _, rest := range allKits(size-1, first, limit) {
			kits = append(kits, append([]int{first}, rest...))
		}
	}
	return kits
}

func TestNoKitHasAGreaterRange(t *testing.T) {
	for k, limit := range map[int]int{1: 99, 2: 99, 3: 24, 4: 9} {
		threes, _ := impl.ThreesKit(k)
		twos, _ := impl.TwosKit(k)
		far, _ := impl.KitRange(threes, true)
		near, _ := impl.KitRange(twos, false)
		if far != []int{1, 4, 13, 40}[k-1] || near != 1<<k-1 {
			t.Errorf("ranges of %d weights: %d, %d", k, far, near)
		}
		for _, kit := range allKits(k, 1, limit) {
			two, first := impl.KitRange(kit, true)
			one, second := impl.KitRange(kit, false)
			if !first || !second || two > far || one > near {
				t.Fatalf("KitRange(%v) = %d, %d", kit, two, one)
			}
		}
	}
	threes, _ := impl.ThreesKit(5)
	twos, _ := impl.TwosKit(6)
	far, _ := impl.KitRange(threes, true)
	if near, _ := impl.KitRange(twos, false); far != 121 || near != 63 {
		t.Error("greatest ranges", far, near)
	}
}

// panRowByHand is the row that PanRow must return.
func panRowByHand(kit, signs []int, n int) []impl.Load {
	row := rowOf(29, n)
	for i, sign := range signs {
		switch sign {
		case 1:
			row = append(row, impl.Load{Place: 31, Weight: kit[i]})
		case -1:
			row = append(row, impl.Load{Place: 29, Weight: kit[i]})
		}
	}
	return row
}

// The second half of promise 3: signs that weigh a number make a row of the moment 0 about 30.
func TestSignsThatWeighMakeARowOfTheMomentZero(t *testing.T) {
	moments := map[bool]int{}
	for _, kit := range slices.Concat(shortKits(), longKits(60)) {
		for _, signs := range signLists(len(kit)) {
			sum, _ := weighedBy(kit, signs)
			for _, n := range []int{1, 2, 50, 98, 99, sum - 1, sum, sum + 1} {
				fits := n >= 1 && n <= 99
				row, ok := impl.PanRow(kit, signs, n)
				if ok != fits || !ok && len(row) != 0 || ok && !slices.Equal(row, panRowByHand(kit, signs, n)) {
					t.Fatalf("PanRow(%v, %v, %d) = %v, %v", kit, signs, n, row, ok)
				}
				if !ok {
					continue
				}
				moment, is := impl.MomentAbout(row, 30)
				if !is || (moment == 0) != (sum == n) {
					t.Fatalf("PanRow(%v, %v, %d) = %v with the moment %d", kit, signs, n, row, moment)
				}
				moments[moment == 0]++
			}
		}
	}
	if moments[true] == 0 || moments[false] == 0 {
		t.Fatal("only one kind of signs was tried", moments)
	}
}

// Promise 3 again, from the numbers: whatever can be weighed is weighed by a row of the moment 0.
func TestHowToWeighMakesARowOfTheMomentZero(t *testing.T) {
	for _, kit := range slices.Concat(shortKits(), longKits(200)) {
		numbers, _ := impl.WeighTwo(kit)
		for _, n := range numbers {
			signs, can := impl.HowToWeigh(kit, n)
			row, ok := impl.PanRow(kit, signs, n)
			if n > impl.MaxWeight {
				if !can || ok {
					t.Fatalf("%d with %v: %v, %v", n, kit, signs, row)
				}
				continue
			}
			if moment, is := impl.MomentAbout(row, 30); !can || !ok || !is || moment != 0 {
				t.Fatalf("%d with %v: %v, %v, moment %d", n, kit, signs, row, moment)
			}
		}
	}
}

func TestPanRowRejectsBadArguments(t *testing.T) {
	kit := []int{1, 3, 9}
	badSigns := [][]int{
		nil, {1}, {1, 0}, {1, 0, 0, 0}, {2, 0, 0}, {0, -2, 0}, {0, 0, 3}, {0, 0, math.MaxInt}, {math.MinInt, 0, 0}, {0, 1<<32 + 1, 0},
		{0, 0, 0, 2}, {-1, 1, 0, 0, 0, 0, 0}, make([]int, 1<<16),
	}
	for _, signs := range badSigns {
		if row, ok := impl.PanRow(kit, signs, 2); ok || len(row) != 0 {
			t.Errorf("PanRow with %d signs: %v", len(signs), row)
		}
	}
	for _, n := range []int{0, -1, 100, math.MaxInt, math.MinInt, 1<<32 + 1} {
		if row, ok := impl.PanRow(kit, []int{-1, 1, 0}, n); ok || len(row) != 0 {
			t.Errorf("PanRow with the load %d: %v", n, row)
		}
	}
	if row, ok := impl.PanRow(kit, []int{0, 0, 0}, 99); !ok || !slices.Equal(row, rowOf(29, 99)) {
		t.Error("no weight used", row)
	}
}

func TestScalesFailWithoutAKit(t *testing.T) {
	for _, kit := range badKits() {
		one, first := impl.WeighOne(kit)
		two, second := impl.WeighTwo(kit)
		if first || second || len(one) != 0 || len(two) != 0 {
			t.Errorf("weighed with %d weights: %v, %v", len(kit), one, two)
		}
		near, first := impl.KitRange(kit, false)
		far, second := impl.KitRange(kit, true)
		if first || second || near != 0 || far != 0 {
			t.Errorf("range of %d weights: %d, %d", len(kit), near, far)
		}
		for _, n := range []int{1, 2, 99, math.MaxInt} {
			signs, first := impl.HowToWeigh(kit, n)
			row, second := impl.PanRow(kit, make([]int, len(kit)), n)
			if first || second || len(signs) != 0 || len(row) != 0 {
				t.Errorf("%d with %d weights: %v, %v", n, len(kit), signs, row)
			}
		}
	}
}

// The definitions of the second part of the chapter, told with the weights of the coins.

// outcomeOfCoins puts the coins into the pans, all with the weight 10 but the false one.
func outcomeOfCoins(n int, plan [][]int, coin, kind int) []int {
	outcome := []int{}
	for _, weighing := range plan {
		pans := map[int]int{}
		for i := range n {
			weight := 10
			if i == coin {
				weight += kind
			}
			pans[weighing[i]] += weight
		}
		switch {
		case pans[1] > pans[-1]:
			outcome = append(outcome, 1)
		case pans[1] < pans[-1]:
			outcome = append(outcome, -1)
		default:
			outcome = append(outcome, 0)
		}
	}
	return outcome
}

// allDifferent reports whether no two lists are equal.
func allDifferent(lists [][]int) bool {
	for i, x := range lists {
		for _, y := range lists[i+1:] {
			if slices.Equal(x, y) {
				return false
			}
		}
	}
	return true
}

// weighingsOf lists all weighings of n coins.
func weighingsOf(n int) [][]int {
	var weighings [][]int
	for _, list := range signLists(n) {
		sum := 0
		for _, sign := range list {
			sum += sign
		}
		if sum == 0 {
			weighings = append(weighings, list)
		}
	}
	return weighings
}

type coinPlan struct {
	n    int
	plan [][]int
}

// smallPlans lists all plans of at most two weighings for a few coins.
func smallPlans() []coinPlan {
	var plans []coinPlan
	for n := 2; n <= 4; n++ {
		plans = append(plans, coinPlan{n, nil}, coinPlan{n, [][]int{}})
		for _, first := range weighingsOf(n) {
			plans = append(plans, coinPlan{n, [][]int{first}})
			for _, second := range weighingsOf(n) {
				plans = append(plans, coinPlan{n, [][]int{first, second}})
			}
		}
	}
	return plans
}

// greatPlans lists many plans for all numbers of coins, of all numbers of weighings.
func greatPlans(count int) []coinPlan {
	plans := []coinPlan{{40, nil}, {3, bothPlan3()}, {12, bothPlan12()}, {40, make([][]int, 0, 5)}}
	next := numbersFrom(5)
	for len(plans) < count {
		n := 2 + next(impl.MaxCoins-1)
		if len(plans)%2 == 0 {
			n = 2 + next(8)
		}
		plan := make([][]int, next(impl.MaxPlan+1))
		for w := range plan {
			plan[w] = make([]int, n)
			for range next(n/2 + 1) {
				if i, j := next(n), next(n); i != j && plan[w][i] == 0 && plan[w][j] == 0 {
					plan[w][i], plan[w][j] = 1, -1
				}
			}
		}
		plans = append(plans, coinPlan{n, plan})
	}
	for n := 2; n <= impl.MaxCoins; n++ {
		plan, _ := impl.HeavyPlan(n)
		plans = append(plans, coinPlan{n, plan})
	}
	return plans
}

// bothPlan3 and bothPlan12 tell both.
func bothPlan3() [][]int { return [][]int{{1, -1, 0}, {0, 1, -1}} }

func bothPlan12() [][]int {
	return [][]int{
		{0, 0, 0, 0, 1, 1, 1, -1, -1, -1, 1, -1},
		{0, 1, 1, 1, -1, -1, -1, 0, 0, 0, 1, -1},
		{1, -1, 0, 1, -1, 0, 1, 1, 0, -1, -1, 0},
	}
}

// badPlans are no plans for 3 coins.
func badPlans() [][][]int {
	good := []int{1, -1, 0}
	plans := [][][]int{
		{nil}, {{}}, {{0}}, {{0, 0}}, {{1, -1}}, {{0, 0, 0, 0}}, {{1, -1, 0, 0}}, {{1, 0, 0}}, {{0, -1, 0}}, {{1, 1, -1}}, {{-1, 1, -1}},
		{{2, -1, -1}}, {{2, -2, 0}}, {{-2, 1, 1}}, {{3, -3, 0}}, {{math.MaxInt, math.MinInt, 1}}, {{math.MinInt, math.MinInt, 0}},
		{{1 << 62, 1 << 62, math.MinInt}}, {{1 << 32, 0, 0}}, {good, nil}, {nil, good}, {good, {1, 0, 0}}, {good, good, {0, 0}},
		{good, good, good, good, {0, 1, 0}}, {good, good, good, good, good, good}, make([][]int, impl.MaxPlan+1), make([][]int, 1<<16),
		{make([]int, 1<<16)}, slices.Repeat([][]int{{0, 0, 0}}, impl.MaxPlan+1), slices.Repeat([][]int{good}, 1000),
	}
	return plans
}

func badCoinNumbers() []int {
	return []int{-1, 0, 1, 41, 81, math.MaxInt, math.MinInt, math.MinInt + 1, 1<<32 + 3, -1 << 32}
}

func TestIsCoinPlan(t *testing.T) {
	for _, p := range slices.Concat(smallPlans(), greatPlans(300)) {
		if is, ok := impl.IsCoinPlan(p.n, p.plan); !ok || !is {
			t.Fatalf("IsCoinPlan(%d, %v) = %v, %v", p.n, p.plan, is, ok)
		}
	}
	for _, plan := range badPlans() {
		if is, ok := impl.IsCoinPlan(3, plan); !ok || is {
			t.Errorf("IsCoinPlan of %d weighings: %v, %v, %.3v", len(plan), is, ok, plan[:min(len(plan), 3)])
		}
	}
	for n := 2; n <= impl.MaxCoins; n++ {
		for size := range 9 {
			plan := slices.Repeat([][]int{make([]int, n)}, size)
			if is, ok := impl.IsCoinPlan(n, plan); !ok || is != (size <= 5) {
				t.Errorf("IsCoinPlan of %d weighings of %d coins: %v, %v", size, n, is, ok)
			}
			if is, ok := impl.IsCoinPlan(n, append([][]int{make([]int, n-1)}, plan...)); !ok || is {
				t.Errorf("IsCoinPlan with a weighing of one coin less: %v, %v", is, ok)
			}
		}
	}
}

// A weighing has the numbers -1, 0 and 1 only, and as many of 1 as of -1: all short lists tell.
func TestIsCoinPlanTriesAllShortWeighings(t *testing.T) {
	for code := range 7 * 7 * 7 {
		list := []int{code%7 - 3, code/7%7 - 3, code/49 - 3}
		want := slices.Max(list) <= 1 && slices.Min(list) >= -1 && list[0]+list[1]+list[2] == 0
		if is, ok := impl.IsCoinPlan(3, [][]int{list}); !ok || is != want {
			t.Errorf("IsCoinPlan(3, [%v]) = %v, %v", list, is, ok)
		}
		if is, ok := impl.IsCoinPlan(3, [][]int{{0, 1, -1}, list}); !ok || is != want {
			t.Errorf("IsCoinPlan(3, [.. %v]) = %v, %v", list, is, ok)
		}
		if is, ok := impl.IsCoinPlan(2, [][]int{list}); !ok || is {
			t.Errorf("IsCoinPlan(2, [%v]) = %v, %v", list, is, ok)
		}
	}
}

func TestCoinOutcome(t *testing.T) {
	for _, p := range slices.Concat(smallPlans(), greatPlans(300)) {
		for coin := range p.n {
			for _, kind := range []int{1, -1} {
				want := outcomeOfCoins(p.n, p.plan, coin, kind)
				if got, ok := impl.CoinOutcome(p.n, p.plan, coin, kind == 1); !ok || !slices.Equal(got, want) {
					t.Fatalf("CoinOutcome(%d, %v, %d, %v) = %v, %v; want %v", p.n, p.plan, coin, kind == 1, got, ok, want)
				}
			}
		}
		for _, coin := range []int{-1, p.n, p.n + 1, 40, math.MaxInt, math.MinInt, 1 << 32} {
			if got, ok := impl.CoinOutcome(p.n, p.plan, coin, true); ok || len(got) != 0 {
				t.Fatalf("CoinOutcome(%d, %v, %d, true) = %v, %v", p.n, p.plan, coin, got, ok)
			}
		}
	}
}

// coinsByDefinition tries all coins, heavier first.
func coinsByDefinition(p coinPlan, outcome []int) [][2]int {
	var coins [][2]int
	for coin := range p.n {
		for _, kind := range []int{1, -1} {
			if slices.Equal(outcomeOfCoins(p.n, p.plan, coin, kind), outcome) {
				coins = append(coins, [2]int{coin, kind})
			}
		}
	}
	return coins
}

func TestCoinsWith(t *testing.T) {
	sizes := map[int]bool{}
	for i, p := range slices.Concat(smallPlans(), greatPlans(60)) {
		outcomes := signLists(len(p.plan))
		if i%7 != 0 && len(p.plan) == impl.MaxPlan {
			outcomes = outcomes[:30]
		}
		for _, outcome := range outcomes {
			want := coinsByDefinition(p, outcome)
			got, ok := impl.CoinsWith(p.n, p.plan, outcome)
			if !ok || !slices.Equal(got, want) {
				t.Fatalf("CoinsWith(%d, %v, %v) = %v, %v; want %v", p.n, p.plan, outcome, got, ok, want)
			}
			sizes[len(got)] = true
		}
	}
	if !sizes[0] || !sizes[1] || !sizes[2] || len(sizes) < 8 {
		t.Fatal("few lists of coins were found", sizes)
	}
}

func TestCoinsWithOfKnownPlans(t *testing.T) {
	cases := []struct {
		n       int
		plan    [][]int
		outcome []int
		want    [][2]int
	}{
		{2, nil, nil, [][2]int{{0, 1}, {0, -1}, {1, 1}, {1, -1}}},
		{2, [][]int{{0, 0}}, []int{0}, [][2]int{{0, 1}, {0, -1}, {1, 1}, {1, -1}}},
		{2, [][]int{{0, 0}}, []int{1}, nil},
		{2, [][]int{{-1, 1}}, []int{1}, [][2]int{{0, -1}, {1, 1}}},
		{2, [][]int{{-1, 1}}, []int{-1}, [][2]int{{0, 1}, {1, -1}}},
		{3, [][]int{{1, -1, 0}}, []int{0}, [][2]int{{2, 1}, {2, -1}}},
		{3, bothPlan3(), []int{1, 0}, [][2]int{{0, 1}}},
		{3, bothPlan3(), []int{0, 1}, [][2]int{{2, -1}}},
		{3, bothPlan3(), []int{0, 0}, nil},
		{3, bothPlan3(), []int{1, 1}, nil},
	}
	for _, c := range cases {
		if got, ok := impl.CoinsWith(c.n, c.plan, c.outcome); !ok || !slices.Equal(got, c.want) {
			t.Errorf("CoinsWith(%d, %v, %v) = %v, %v; want %v", c.n, c.plan, c.outcome, got, ok, c.want)
		}
	}
}

func TestCoinsWithRejectsOtherOutcomes(t *testing.T) {
	none := [][]int{{0}, {0, 0}, {2}}
	for _, outcome := range none {
		if got, ok := impl.CoinsWith(3, nil, outcome); ok || len(got) != 0 {
			t.Errorf("CoinsWith(3, none, %v) = %v, %v", outcome, got, ok)
		}
	}
	others := [][]int{
		nil, {0}, {1}, {1, 0, 0}, {0, 0, 0}, {2, 0}, {0, 2}, {-2, 0}, {0, -2}, {math.MaxInt, 0}, {0, math.MinInt}, {1<<32 + 1, 0},
		{1, 0, 0, 0, 0}, {1, 0, 0, 0, 0, 0}, make([]int, 1<<16),
	}
	for _, outcome := range others {
		if got, ok := impl.CoinsWith(3, bothPlan3(), outcome); ok || len(got) != 0 {
			t.Errorf("CoinsWith of an outcome of %d numbers: %v, %v", len(outcome), got, ok)
		}
	}
}

// With a part of the guarantee: a plan that tells both tells heavy.
func TestTellsHeavyAndBoth(t *testing.T) {
	told := map[[2]bool]int{}
	for _, p := range slices.Concat(smallPlans(), greatPlans(400)) {
		var heavy, all [][]int
		for coin := range p.n {
			heavy = append(heavy, outcomeOfCoins(p.n, p.plan, coin, 1))
			all = append(all, outcomeOfCoins(p.n, p.plan, coin, 1), outcomeOfCoins(p.n, p.plan, coin, -1))
		}
		tells, first := impl.TellsHeavy(p.n, p.plan)
		both, second := impl.TellsBoth(p.n, p.plan)
		if !first || !second || tells != allDifferent(heavy) || both != allDifferent(all) || both && !tells {
			t.Fatalf("%d coins, %v: tells heavy %v, %v, both %v, %v", p.n, p.plan, tells, first, both, second)
		}
		told[[2]bool{tells, both}]++
	}
	if len(told) != 3 {
		t.Fatal("not all kinds of plans were tried", told)
	}
}

func TestTellsOfKnownPlans(t *testing.T) {
	cases := []struct {
		n           int
		plan        [][]int
		heavy, both bool
	}{
		{2, nil, false, false}, {40, nil, false, false}, {2, [][]int{{1, -1}}, true, false}, {3, [][]int{{1, -1, 0}}, true, false},
		{2, [][]int{{0, 0}}, false, false}, {3, bothPlan3(), true, true}, {3, [][]int{{1, -1, 0}, {1, -1, 0}}, true, false},
		{12, bothPlan12(), true, true}, {3, [][]int{{0, 0, 0}, {1, -1, 0}, {0, 0, 0}, {0, 0, 0}, {0, 1, -1}}, true, true},
		{4, [][]int{{1, -1, 0, 0}}, false, false}, {4, [][]int{{1, -1, 0, 0}, {0, 0, 1, -1}}, true, false},
	}
	for _, c := range cases {
		heavy, first := impl.TellsHeavy(c.n, c.plan)
		both, second := impl.TellsBoth(c.n, c.plan)
		if !first || !second || heavy != c.heavy || both != c.both {
			t.Errorf("%d coins, %v: heavy %v, both %v", c.n, c.plan, heavy, both)
		}
	}
}

// heavyPlanByDefinition gives the codes to the coins as the document tells it.
func heavyPlanByDefinition(n, size int) [][]int {
	var codes [][]int
	if n%2 == 1 {
		codes = append(codes, make([]int, size))
	}
	for _, code := range signLists(size) {
		first := slices.IndexFunc(code, func(sign int) bool { return sign != 0 })
		if first < 0 || code[first] != 1 {
			continue
		}
		opposite := make([]int, size)
		for w := range code {
			opposite[w] = -code[w]
		}
		codes = append(codes, code, opposite)
	}
	plan := make([][]int, size)
	for w := range plan {
		for coin := range n {
			plan[w] = append(plan[w], codes[coin][w])
		}
	}
	return plan
}

// The first half of promise 3, and the rest of the guarantee: HeavyPlan is a plan that tells heavy,
// with as few weighings as can be, since fewer of them have fewer outcomes than there are coins.
func TestHeavyPlanTellsHeavyWithTheFewestWeighings(t *testing.T) {
	for n := 2; n <= impl.MaxCoins; n++ {
		outcomes, size := 1, 0
		for outcomes < n {
			outcomes, size = 3*outcomes, size+1
		}
		if k, ok := impl.WeighingsNeeded(n); !ok || k != size {
			t.Errorf("WeighingsNeeded(%d) = %d, %v; want %d", n, k, ok, size)
		}
		plan, ok := impl.HeavyPlan(n)
		if !ok || !slices.EqualFunc(plan, heavyPlanByDefinition(n, size), slices.Equal[[]int]) {
			t.Errorf("HeavyPlan(%d) = %v, %v", n, plan, ok)
		}
		if is, ok := impl.IsCoinPlan(n, plan); !ok || !is {
			t.Errorf("HeavyPlan(%d) = %v is no plan", n, plan)
		}
		if tells, ok := impl.TellsHeavy(n, plan); !ok || !tells || len(plan) != size {
			t.Errorf("HeavyPlan(%d) = %v does not tell heavy with %d weighings", n, plan, size)
		}
		for coin := range n {
			outcome, _ := impl.CoinOutcome(n, plan, coin, true)
			coins, ok := impl.CoinsWith(n, plan, outcome)
			if heavy := slices.DeleteFunc(coins, func(c [2]int) bool { return c[1] != 1 }); !ok || !slices.Equal(heavy, [][2]int{{coin, 1}}) {
				t.Errorf("HeavyPlan(%d) takes the coin %d for %v", n, coin, heavy)
			}
		}
	}
}

func TestNoPlanWithFewerWeighingsTellsHeavy(t *testing.T) {
	for n := 2; n <= 7; n++ {
		size, _ := impl.WeighingsNeeded(n)
		plans := [][][]int{nil}
		if size == 2 {
			for _, weighing := range weighingsOf(n) {
				plans = append(plans, [][]int{weighing})
			}
		}
		for _, plan := range plans {
			if tells, ok := impl.TellsHeavy(n, plan); !ok || tells {
				t.Errorf("%v tells heavy of %d coins", plan, n)
			}
		}
	}
	for _, p := range greatPlans(2000) {
		size, _ := impl.WeighingsNeeded(p.n)
		if tells, _ := impl.TellsHeavy(p.n, p.plan); tells && len(p.plan) < size {
			t.Errorf("%v tells heavy of %d coins", p.plan, p.n)
		}
	}
}

func TestKnownHeavyPlans(t *testing.T) {
	cases := map[int][][]int{
		2: {{1, -1}},
		3: {{0, 1, -1}},
		4: {{0, 0, 1, -1}, {1, -1, -1, 1}},
		5: {{0, 0, 0, 1, -1}, {0, 1, -1, -1, 1}},
		8: {{0, 0, 1, -1, 1, -1, 1, -1}, {1, -1, -1, 1, 0, 0, 1, -1}},
		9: {{0, 0, 0, 1, -1, 1, -1, 1, -1}, {0, 1, -1, -1, 1, 0, 0, 1, -1}},
		10: {
			{0, 0, 0, 0, 0, 0, 0, 0, 1, -1},
			{0, 0, 1, -1, 1, -1, 1, -1, -1, 1},
			{1, -1, -1, 1, 0, 0, 1, -1, -1, 1},
		},
	}
	for n, want := range cases {
		if plan, ok := impl.HeavyPlan(n); !ok || !slices.EqualFunc(plan, want, slices.Equal[[]int]) {
			t.Errorf("HeavyPlan(%d) = %v, %v; want %v", n, plan, ok, want)
		}
	}
	for n, want := range map[int]int{2: 1, 3: 1, 4: 2, 9: 2, 10: 3, 27: 3, 28: 4, 40: 4} {
		if k, ok := impl.WeighingsNeeded(n); !ok || k != want {
			t.Errorf("WeighingsNeeded(%d) = %d, %v; want %d", n, k, ok, want)
		}
	}
}

// expectCoinsFail calls all functions with a plan: none of them has a result beside the false.
func expectCoinsFail(t *testing.T, n int, plan [][]int) {
	t.Helper()
	for _, heavy := range []bool{false, true} {
		if outcome, ok := impl.CoinOutcome(n, plan, 0, heavy); ok || len(outcome) != 0 {
			t.Errorf("CoinOutcome(%d, %.3v) = %v, %v", n, plan, outcome, ok)
		}
	}
	for _, outcome := range [][]int{nil, make([]int, min(len(plan), 8))} {
		if coins, ok := impl.CoinsWith(n, plan, outcome); ok || len(coins) != 0 {
			t.Errorf("CoinsWith(%d, %.3v) = %v, %v", n, plan, coins, ok)
		}
	}
	if tells, ok := impl.TellsHeavy(n, plan); ok || tells {
		t.Errorf("TellsHeavy(%d, %.3v) = %v, %v", n, plan, tells, ok)
	}
	if tells, ok := impl.TellsBoth(n, plan); ok || tells {
		t.Errorf("TellsBoth(%d, %.3v) = %v, %v", n, plan, tells, ok)
	}
}

func TestCoinFunctionsFailWithoutAPlanOrCoins(t *testing.T) {
	for _, plan := range badPlans() {
		expectCoinsFail(t, 3, plan)
	}
	for _, n := range badCoinNumbers() {
		for _, plan := range [][][]int{nil, {{}}, {{0}}, {{1, -1, 0}}, {make([]int, 41)}, {make([]int, 81)}, {nil, nil}} {
			if is, ok := impl.IsCoinPlan(n, plan); ok || is {
				t.Errorf("IsCoinPlan(%d, %v) = %v, %v", n, plan, is, ok)
			}
			expectCoinsFail(t, n, plan)
		}
		if plan, ok := impl.HeavyPlan(n); ok || len(plan) != 0 {
			t.Errorf("HeavyPlan(%d) = %v, %v", n, plan, ok)
		}
		if k, ok := impl.WeighingsNeeded(n); ok || k != 0 {
			t.Errorf("WeighingsNeeded(%d) = %d, %v", n, k, ok)
		}
	}
}

// scribble overwrites a result, also beyond its length, so that memory shared with it would tell.
func scribble(list []int) {
	for i := range list {
		list[i] = -77
	}
	_ = append(list, -88)
}

// Promise 13: the same results again, and kits and signs as they were, also beyond their length.
func TestScalesLeaveTheirArguments(t *testing.T) {
	for _, kit := range slices.Concat(longKits(60), badKits()) {
		full := append(slices.Clone(kit), 7, 8)
		before := slices.Clone(full)
		given := full[:len(kit)]
		signs := append(make([]int, len(kit)), 7, 8)
		for i := range kit {
			signs[i] = []int{1, -1, 0}[i%3]
		}
		signsBefore := slices.Clone(signs)
		call := func() [4][]int {
			one, _ := impl.WeighOne(given)
			two, _ := impl.WeighTwo(given)
			how, _ := impl.HowToWeigh(given, 3)
			near, _ := impl.KitRange(given, false)
			far, _ := impl.KitRange(given, true)
			row, _ := impl.PanRow(given, signs[:len(kit)], 5)
			sum, _ := impl.WeightOf(row)
			for i := range row {
				row[i] = impl.Load{Place: -7, Weight: -7}
			}
			_ = append(row, impl.Load{Place: -8, Weight: -8})
			return [4][]int{one, two, how, {near, far, sum}}
		}
		first := call()
		want := [4][]int{}
		for i, list := range first {
			want[i] = slices.Clone(list)
			scribble(list)
		}
		for i, list := range call() {
			if !slices.Equal(list, want[i]) {
				t.Fatalf("other results of the same kit %v: %v, %v", kit, list, want[i])
			}
		}
		if !slices.Equal(full, before) || !slices.Equal(signs, signsBefore) {
			t.Fatalf("the kit %v became %v, or the signs %v", before, full, signs)
		}
	}
}

// Promise 13 for plans, which have lists in a list.
func TestCoinFunctionsLeaveTheirArguments(t *testing.T) {
	for _, p := range greatPlans(60) {
		before := make([][]int, len(p.plan))
		for w := range p.plan {
			before[w] = slices.Clone(p.plan[w])
		}
		given := make([]int, len(p.plan), len(p.plan)+2)
		for coin := range p.n {
			outcome, _ := impl.CoinOutcome(p.n, p.plan, coin, true)
			want := slices.Clone(outcome)
			copy(given, outcome)
			coins, _ := impl.CoinsWith(p.n, p.plan, given)
			wantCoins := slices.Clone(coins)
			if !slices.Equal(given, want) {
				t.Fatalf("the outcome %v became %v", want, given)
			}
			scribble(outcome)
			for i := range coins {
				coins[i] = [2]int{-7, -7}
			}
			outcome, _ = impl.CoinOutcome(p.n, p.plan, coin, true)
			coins, _ = impl.CoinsWith(p.n, p.plan, outcome)
			if !slices.Equal(outcome, want) || !slices.Equal(coins, wantCoins) {
				t.Fatalf("other results of the same plan %v: %v, %v", p.plan, outcome, coins)
			}
		}
		impl.IsCoinPlan(p.n, p.plan)
		impl.TellsHeavy(p.n, p.plan)
		impl.TellsBoth(p.n, p.plan)
		if !slices.EqualFunc(p.plan, before, slices.Equal[[]int]) {
			t.Fatalf("the plan %v became %v", before, p.plan)
		}
	}
}

// The weighings of a made plan share no memory with each other, and made kits none with later ones.
func TestMadePlansAndKitsAreNewMemory(t *testing.T) {
	for n := 2; n <= impl.MaxCoins; n++ {
		plan, _ := impl.HeavyPlan(n)
		want, _ := impl.HeavyPlan(n)
		for w := range plan {
			scribble(plan[w])
			for v := w + 1; v < len(plan); v++ {
				if !slices.Equal(plan[v], want[v]) {
					t.Fatalf("HeavyPlan(%d): the weighings %d and %d share memory", n, w, v)
				}
			}
		}
		if again, _ := impl.HeavyPlan(n); !slices.EqualFunc(again, want, slices.Equal[[]int]) {
			t.Fatalf("HeavyPlan(%d) = %v again", n, again)
		}
	}
	threes, _ := impl.ThreesKit(5)
	twos, _ := impl.TwosKit(5)
	scribble(threes)
	scribble(twos)
	threes, _ = impl.ThreesKit(5)
	twos, _ = impl.TwosKit(5)
	if !slices.Equal(threes, []int{1, 3, 9, 27, 81}) || !slices.Equal(twos, []int{1, 2, 4, 8, 16}) {
		t.Error("kits again", threes, twos)
	}
}
