package tests

import (
	"math"
	"math/big"
	"slices"
	"testing"

	"loop.example/g01159/impl"
)

func stageOf(kind, a, b int) impl.Stage { return impl.Stage{Kind: kind, A: a, B: b} }

func leverOf(a, b int) impl.Stage { return stageOf(impl.StageLever, a, b) }

func blockOf(a int) impl.Stage { return stageOf(impl.StageBlock, a, 0) }

func twinOf(a, b int) impl.Stage { return stageOf(impl.StageTwin, a, b) }

// The definitions of the chapter, told once more.

// isStageByDefinition goes by the table of the chapter, with its numbers written out.
func isStageByDefinition(s impl.Stage) bool {
	inBounds := func(n int) bool { return 1 <= n && n <= 24 }
	switch s.Kind {
	case 1, 3:
		return inBounds(s.A) && inBounds(s.B)
	case 2:
		return inBounds(s.A) && s.B == 0
	case 4:
		return inBounds(s.A) && inBounds(s.B) && s.B <= s.A
	case 5:
		return inBounds(s.A) && inBounds(s.B) && s.B < s.A
	}
	return false
}

// gainByDefinition returns the gain of a valid Stage, by the fractions of the library.
func gainByDefinition(s impl.Stage) *big.Rat {
	switch s.Kind {
	case 2:
		return big.NewRat(int64(s.A), 1)
	case 5:
		return big.NewRat(2*int64(s.A), int64(s.A-s.B))
	}
	return big.NewRat(int64(s.A), int64(s.B))
}

func gainOfAll(chain []impl.Stage) *big.Rat {
	product := big.NewRat(1, 1)
	for _, s := range chain {
		product.Mul(product, gainByDefinition(s))
	}
	return product
}

func ratOf(n int) *big.Rat { return new(big.Rat).SetInt64(int64(n)) }

func ratOfFraction(f [2]int) *big.Rat { return big.NewRat(int64(f[0]), int64(f[1])) }

// roundedDown returns the greatest integer that is not greater than a number of at least 0.
func roundedDown(r *big.Rat) int { return int(new(big.Int).Quo(r.Num(), r.Denom()).Int64()) }

func allStages() []impl.Stage {
	var stages []impl.Stage
	for kind := 1; kind <= 5; kind++ {
		for a := 1; a <= 24; a++ {
			for b := 0; b <= 24; b++ {
				if s := stageOf(kind, a, b); isStageByDefinition(s) {
					stages = append(stages, s)
				}
			}
		}
	}
	return stages
}

// badStages are no Stages, by their Kind or by a number.
func badStages() []impl.Stage {
	stages := []impl.Stage{
		{}, stageOf(0, 2, 1), stageOf(6, 2, 1), stageOf(-1, 2, 1), leverOf(0, 1), leverOf(1, 0), leverOf(25, 1), leverOf(1, 25), leverOf(-1, -1),
		blockOf(0), blockOf(25), blockOf(-1), stageOf(impl.StageBlock, 2, 1), stageOf(impl.StageBlock, 2, 2), stageOf(impl.StageBlock, 2, -1),
		stageOf(impl.StageAxle, 0, 1), stageOf(impl.StageAxle, 1, 0), stageOf(impl.StageAxle, 25, 24), stageOf(impl.StageAxle, 24, 25),
		stageOf(impl.StageRamp, 2, 5), stageOf(impl.StageRamp, 1, 2), stageOf(impl.StageRamp, 25, 1), stageOf(impl.StageRamp, 2, 0),
		twinOf(4, 4), twinOf(4, 5), twinOf(25, 1), twinOf(1, 0), twinOf(1, 1), twinOf(24, 24), twinOf(3, -1),
	}
	for _, n := range []int{math.MaxInt, math.MinInt, math.MinInt + 1, 1<<32 + 1, -1 << 32, 1<<62 + 1} {
		stages = append(stages, stageOf(n, 2, 1), stageOf(n, n, n))
		for kind := 1; kind <= 5; kind++ {
			stages = append(stages, stageOf(kind, n, 1), stageOf(kind, 2, n), stageOf(kind, n, n), stageOf(kind, n, 0))
		}
	}
	return stages
}

// manyChains lists chains of all sizes, of the greatest and of the least gains, too.
func manyChains() [][]impl.Stage {
	next := numbersFrom(7)
	chains := [][]impl.Stage{
		nil, {}, {leverOf(6, 2), blockOf(4)}, slices.Repeat([]impl.Stage{twinOf(24, 23)}, 5), slices.Repeat([]impl.Stage{leverOf(1, 24)}, 5),
		slices.Repeat([]impl.Stage{leverOf(24, 1)}, 5), slices.Repeat([]impl.Stage{leverOf(23, 24)}, 5), slices.Repeat([]impl.Stage{twinOf(24, 1)}, 5),
		slices.Repeat([]impl.Stage{leverOf(24, 23)}, 5), {leverOf(2, 3), leverOf(3, 2)}, {blockOf(1)}, {leverOf(24, 24), blockOf(1), twinOf(2, 1)},
		{leverOf(5, 7), stageOf(impl.StageAxle, 7, 11), leverOf(11, 13), stageOf(impl.StageAxle, 13, 17), leverOf(17, 19)},
	}
	stages := allStages()
	for i := 0; i < len(stages); i += 9 {
		chains = append(chains, stages[i:i+1:i+1])
	}
	for len(chains) < 500 {
		chain := make([]impl.Stage, 1+next(5))
		for i := range chain {
			chain[i] = stages[next(len(stages))]
		}
		chains = append(chains, chain)
	}
	return chains
}

// badChains are no chains, by their size or by a Stage at any place.
func badChains() [][]impl.Stage {
	chains := [][]impl.Stage{slices.Repeat([]impl.Stage{blockOf(1)}, 6), slices.Repeat([]impl.Stage{leverOf(24, 1)}, 1<<16), make([]impl.Stage, 1)}
	for i, bad := range badStages() {
		chains = append(chains, []impl.Stage{bad}, []impl.Stage{bad, blockOf(2)}, []impl.Stage{blockOf(2), bad})
		chain := slices.Repeat([]impl.Stage{blockOf(2)}, 5)
		chain[i%5] = bad
		chains = append(chains, chain)
	}
	return chains
}

func someHauls() []int {
	return []int{0, 1, 2, 3, 5, 24, 97, 99, 100, 720, 1001, 65536, 123456, 999983, 999999, 1000000}
}

func badHauls() []int {
	return []int{-1, -2, 1000001, -1000000, math.MaxInt, math.MinInt, math.MinInt + 1, 1 << 32, -1 << 32, 1 << 62}
}

func TestIsStage(t *testing.T) {
	for kind := -2; kind <= 8; kind++ {
		for a := -3; a <= 50; a++ {
			for b := -3; b <= 50; b++ {
				if s := stageOf(kind, a, b); impl.IsStage(s) != isStageByDefinition(s) {
					t.Fatalf("IsStage(%v) is %v", s, !isStageByDefinition(s))
				}
			}
		}
	}
	for _, s := range badStages() {
		if impl.IsStage(s) {
			t.Errorf("IsStage(%v) is true", s)
		}
	}
	if kinds := []int{impl.StageLever, impl.StageBlock, impl.StageAxle, impl.StageRamp, impl.StageTwin}; !slices.Equal(kinds, []int{1, 2, 3, 4, 5}) {
		t.Error("the kinds are", kinds)
	}
}

func TestStageGain(t *testing.T) {
	for _, s := range allStages() {
		if gain, ok := impl.StageGain(s); !ok || !sameFraction(gain, gainByDefinition(s)) {
			t.Errorf("StageGain(%v) = %v, %v; want %v", s, gain, ok, gainByDefinition(s))
		}
	}
	cases := []struct {
		s    impl.Stage
		want [2]int
	}{
		{leverOf(6, 2), [2]int{3, 1}}, {leverOf(2, 6), [2]int{1, 3}}, {leverOf(24, 24), [2]int{1, 1}}, {leverOf(10, 4), [2]int{5, 2}},
		{blockOf(1), [2]int{1, 1}}, {blockOf(24), [2]int{24, 1}}, {stageOf(impl.StageAxle, 9, 6), [2]int{3, 2}}, {stageOf(impl.StageAxle, 1, 24), [2]int{1, 24}},
		{stageOf(impl.StageRamp, 5, 2), [2]int{5, 2}}, {stageOf(impl.StageRamp, 7, 7), [2]int{1, 1}}, {twinOf(5, 4), [2]int{10, 1}},
		{twinOf(24, 23), [2]int{48, 1}}, {twinOf(24, 1), [2]int{48, 23}}, {twinOf(3, 1), [2]int{3, 1}}, {twinOf(2, 1), [2]int{4, 1}}, {twinOf(24, 8), [2]int{3, 1}},
	}
	for _, c := range cases {
		if gain, ok := impl.StageGain(c.s); !ok || gain != c.want {
			t.Errorf("StageGain(%v) = %v, %v; want %v", c.s, gain, ok, c.want)
		}
	}
}

func TestChainGain(t *testing.T) {
	for _, chain := range manyChains() {
		gain, ok := impl.ChainGain(chain)
		if !ok || !sameFraction(gain, gainOfAll(chain)) {
			t.Fatalf("ChainGain(%v) = %v, %v; want %v", chain, gain, ok, gainOfAll(chain))
		}
		// It is the same in any order.
		other := slices.Clone(chain)
		slices.Reverse(other)
		for range chain {
			other = append(other[1:], other[0])
			if again, ok := impl.ChainGain(other); !ok || again != gain {
				t.Fatalf("ChainGain(%v) = %v, %v; in another order %v", other, again, ok, gain)
			}
		}
	}
	cases := []struct {
		chain []impl.Stage
		want  [2]int
	}{
		{nil, [2]int{1, 1}}, {[]impl.Stage{}, [2]int{1, 1}}, {[]impl.Stage{leverOf(6, 2), blockOf(4)}, [2]int{12, 1}},
		{[]impl.Stage{leverOf(2, 3), leverOf(3, 2)}, [2]int{1, 1}}, {[]impl.Stage{leverOf(1, 2), leverOf(1, 2), blockOf(2)}, [2]int{1, 2}},
		{slices.Repeat([]impl.Stage{twinOf(24, 23)}, 5), [2]int{254803968, 1}}, {slices.Repeat([]impl.Stage{leverOf(1, 24)}, 5), [2]int{1, 7962624}},
		{slices.Repeat([]impl.Stage{leverOf(23, 24)}, 5), [2]int{6436343, 7962624}},
	}
	for _, c := range cases {
		if gain, ok := impl.ChainGain(c.chain); !ok || gain != c.want {
			t.Errorf("ChainGain(%v) = %v, %v; want %v", c.chain, gain, ok, c.want)
		}
	}
}

// A part of the guarantee: the gain of a chain that is put behind another one is the product of both gains.
func TestGainOfAChainBehindAnotherOne(t *testing.T) {
	joined := 0
	for i, x := range manyChains() {
		for _, y := range manyChains()[i%7:] {
			if len(x)+len(y) > impl.MaxStages {
				continue
			}
			ofX, _ := impl.ChainGain(x)
			ofY, _ := impl.ChainGain(y)
			want := new(big.Rat).Mul(ratOfFraction(ofX), ratOfFraction(ofY))
			if gain, ok := impl.ChainGain(slices.Concat(x, y)); !ok || !sameFraction(gain, want) {
				t.Fatalf("the gain of %v and %v is %v, %v; want %v", x, y, gain, ok, want)
			}
			joined++
		}
	}
	if joined < 10000 {
		t.Error("too few chains", joined)
	}
}

// The first half of promise 7, and what pulls and hauls are by definition.
func TestPullsTimesHaulsAreLoadsTimesDistances(t *testing.T) {
	for i, chain := range manyChains() {
		gain := gainOfAll(chain)
		for _, load := range someHauls() {
			pull, ok := impl.PullFor(chain, load)
			if want := new(big.Rat).Quo(ratOf(load), gain); !ok || !sameFraction(pull, want) {
				t.Fatalf("PullFor(%v, %d) = %v, %v; want %v", chain, load, pull, ok, want)
			}
			haul, ok := impl.HaulFor(chain, load)
			if want := new(big.Rat).Mul(ratOf(load), gain); !ok || !sameFraction(haul, want) {
				t.Fatalf("HaulFor(%v, %d) = %v, %v; want %v", chain, load, haul, ok, want)
			}
			for _, distance := range someHauls()[i%3:] {
				haul, ok := impl.HaulFor(chain, distance)
				product := new(big.Rat).Mul(ratOfFraction(pull), ratOfFraction(haul))
				if want := new(big.Rat).Mul(ratOf(load), ratOf(distance)); !ok || product.Cmp(want) != 0 {
					t.Fatalf("by %v, the load %d goes %d, and the pull %v goes %v, %v", chain, load, distance, pull, haul, ok)
				}
			}
		}
	}
}

func TestKnownPullsAndHauls(t *testing.T) {
	chain := []impl.Stage{leverOf(6, 2), blockOf(4)}
	twins := slices.Repeat([]impl.Stage{twinOf(24, 23)}, 5)
	short := slices.Repeat([]impl.Stage{leverOf(1, 24)}, 5)
	cases := []struct {
		chain       []impl.Stage
		n           int
		pull, haul  [2]int
		least, most int
	}{
		{chain, 100, [2]int{25, 3}, [2]int{1200, 1}, 9, 1200}, {chain, 9, [2]int{3, 4}, [2]int{108, 1}, 1, 108}, {chain, 24, [2]int{2, 1}, [2]int{288, 1}, 2, 288},
		{chain, 25, [2]int{25, 12}, [2]int{300, 1}, 3, 300}, {chain, 0, [2]int{0, 1}, [2]int{0, 1}, 0, 0},
		// Without Stages, the pull is the load.
		{nil, 0, [2]int{0, 1}, [2]int{0, 1}, 0, 0}, {nil, 1, [2]int{1, 1}, [2]int{1, 1}, 1, 1}, {nil, 1000000, [2]int{1000000, 1}, [2]int{1000000, 1}, 1000000, 1000000},
		{[]impl.Stage{}, 17, [2]int{17, 1}, [2]int{17, 1}, 17, 17},
		{[]impl.Stage{leverOf(2, 3)}, 1, [2]int{3, 2}, [2]int{2, 3}, 2, 0}, {[]impl.Stage{leverOf(2, 3)}, 4, [2]int{6, 1}, [2]int{8, 3}, 6, 2},
		{[]impl.Stage{leverOf(2, 3)}, 6, [2]int{9, 1}, [2]int{4, 1}, 9, 4}, {[]impl.Stage{leverOf(2, 3)}, 0, [2]int{0, 1}, [2]int{0, 1}, 0, 0},
		{twins, 1000000, [2]int{15625, 3981312}, [2]int{254803968000000, 1}, 1, 254803968000000}, {twins, 1, [2]int{1, 254803968}, [2]int{254803968, 1}, 1, 254803968},
		{short, 1000000, [2]int{7962624000000, 1}, [2]int{15625, 124416}, 7962624000000, 0}, {short, 1, [2]int{7962624, 1}, [2]int{1, 7962624}, 7962624, 0},
	}
	for _, c := range cases {
		pull, one := impl.PullFor(c.chain, c.n)
		haul, two := impl.HaulFor(c.chain, c.n)
		least, three := impl.LeastPull(c.chain, c.n)
		most, four := impl.MostLoad(c.chain, c.n)
		if !one || !two || !three || !four || pull != c.pull || haul != c.haul || least != c.least || most != c.most {
			t.Errorf("%d by %v: %v, %v, %d, %d; want %v, %v, %d, %d", c.n, c.chain, pull, haul, least, most, c.pull, c.haul, c.least, c.most)
		}
	}
}

// A part of the guarantee: LeastPull holds the load and 1 less does not, if it is greater than 0.
func TestLeastPullHoldsTheLoad(t *testing.T) {
	counts := map[bool]int{}
	for _, chain := range manyChains() {
		gain := gainOfAll(chain)
		for _, load := range someHauls() {
			least, ok := impl.LeastPull(chain, load)
			holds := func(pull int) bool { return new(big.Rat).Mul(ratOf(pull), gain).Cmp(ratOf(load)) >= 0 }
			if !ok || least < 0 || !holds(least) || least > 0 && holds(least-1) {
				t.Fatalf("LeastPull(%v, %d) = %d, %v", chain, load, least, ok)
			}
			pull, _ := impl.PullFor(chain, load)
			counts[pull[1] == 1]++
			if pull[1] == 1 && least != pull[0] {
				t.Fatalf("LeastPull(%v, %d) = %d, and PullFor is %v", chain, load, least, pull)
			}
		}
	}
	if counts[true] < 500 || counts[false] < 500 {
		t.Error("too few pulls of a kind", counts)
	}
}

func TestMostLoad(t *testing.T) {
	for _, chain := range manyChains() {
		gain := gainOfAll(chain)
		for _, pull := range someHauls() {
			want := roundedDown(new(big.Rat).Mul(ratOf(pull), gain))
			if most, ok := impl.MostLoad(chain, pull); !ok || most != want {
				t.Fatalf("MostLoad(%v, %d) = %d, %v; want %d", chain, pull, most, ok, want)
			}
		}
	}
}

// A part of the guarantee: MostLoad of LeastPull is at least the load. A pull of more than MaxHaul is none that can be asked for.
func TestMostLoadOfLeastPull(t *testing.T) {
	asked, beyond := 0, 0
	for _, chain := range manyChains() {
		for _, load := range someHauls() {
			least, _ := impl.LeastPull(chain, load)
			most, ok := impl.MostLoad(chain, least)
			if least > 1000000 {
				beyond++
				if ok || most != 0 {
					t.Fatalf("MostLoad(%v, %d) = %d, %v", chain, least, most, ok)
				}
				continue
			}
			asked++
			if !ok || most < load {
				t.Fatalf("MostLoad(%v, %d) = %d, %v; it is the LeastPull for %d", chain, least, most, ok, load)
			}
		}
	}
	if asked < 1000 || beyond < 100 {
		t.Error("too few pulls of a kind", asked, beyond)
	}
}

// The other half of promise 7: the row of a lever has the moment 0 exactly if the pull just holds the load.
func TestLeversThatJustHoldHaveTheMomentZero(t *testing.T) {
	held := 0
	for _, s := range allStages() {
		if s.Kind != impl.StageLever {
			continue
		}
		for load := 1; load <= 99; load++ {
			need, _ := impl.PullFor([]impl.Stage{s}, load)
			near := need[0] / need[1]
			for pull := near - 1; pull <= near+2; pull++ {
				row, ok := impl.LeverRow(s, load, pull)
				if inBounds := pull >= 1 && pull <= 99; ok != inBounds {
					t.Fatalf("LeverRow(%v, %d, %d) = %v, %v", s, load, pull, row, ok)
				}
				if !ok {
					continue
				}
				moment, ok := impl.MomentAbout(row, 30)
				justHolds := need == [2]int{pull, 1}
				if !ok || moment != pull*s.A-load*s.B || (moment == 0) != justHolds {
					t.Fatalf("LeverRow(%v, %d, %d) = %v has the moment %d, %v; it is held by %v", s, load, pull, row, moment, ok, need)
				}
				if justHolds {
					held++
				}
			}
		}
	}
	if held < 1000 {
		t.Error("too few levers that just hold", held)
	}
}

func TestLeverRow(t *testing.T) {
	cases := []struct {
		s          impl.Stage
		load, pull int
		want       []impl.Load
	}{
		{leverOf(6, 2), 30, 10, rowOf(28, 30, 36, 10)}, {leverOf(2, 6), 10, 30, rowOf(24, 10, 32, 30)}, {leverOf(24, 24), 99, 99, rowOf(6, 99, 54, 99)},
		{leverOf(24, 1), 1, 99, rowOf(29, 1, 54, 99)}, {leverOf(1, 24), 99, 1, rowOf(6, 99, 31, 1)}, {leverOf(1, 1), 1, 1, rowOf(29, 1, 31, 1)},
	}
	for _, c := range cases {
		if row, ok := impl.LeverRow(c.s, c.load, c.pull); !ok || !slices.Equal(row, c.want) {
			t.Errorf("LeverRow(%v, %d, %d) = %v, %v; want %v", c.s, c.load, c.pull, row, ok, c.want)
		}
	}
	for _, s := range slices.Concat(allStages(), badStages()) {
		row, ok := impl.LeverRow(s, 99, 1)
		if want := s.Kind == impl.StageLever && isStageByDefinition(s); ok != want || ok && !impl.IsRow(row) || !ok && len(row) != 0 {
			t.Errorf("LeverRow(%v, 99, 1) = %v, %v", s, row, ok)
		}
	}
	for _, n := range append(badHauls(), 0, 100, 101) {
		for _, numbers := range [][2]int{{n, 10}, {10, n}, {n, n}} {
			if row, ok := impl.LeverRow(leverOf(6, 2), numbers[0], numbers[1]); ok || len(row) != 0 {
				t.Errorf("LeverRow with %v = %v, %v", numbers, row, ok)
			}
		}
	}
}

func TestTurnStage(t *testing.T) {
	for _, s := range slices.Concat(allStages(), badStages()) {
		turned, ok := impl.TurnStage(s)
		if !isStageByDefinition(s) || s.Kind != impl.StageLever && s.Kind != impl.StageAxle {
			if ok || turned != (impl.Stage{}) {
				t.Errorf("TurnStage(%v) = %v, %v", s, turned, ok)
			}
			continue
		}
		if !ok || turned != stageOf(s.Kind, s.B, s.A) {
			t.Errorf("TurnStage(%v) = %v, %v", s, turned, ok)
		}
		gain, _ := impl.StageGain(s)
		if other, ok := impl.StageGain(turned); !ok || other != [2]int{gain[1], gain[0]} {
			t.Errorf("StageGain(%v) = %v, %v, and that of %v is %v", turned, other, ok, s, gain)
		}
		if both, ok := impl.ChainGain([]impl.Stage{s, turned}); !ok || both != [2]int{1, 1} {
			t.Errorf("ChainGain of %v and %v = %v, %v", s, turned, both, ok)
		}
		if back, ok := impl.TurnStage(turned); !ok || back != s {
			t.Errorf("TurnStage(%v) = %v, %v", turned, back, ok)
		}
	}
}

// chosenStages is a list of places in a kit, and the gain of the Stages there.
type chosenStages struct {
	places []int
	gain   *big.Rat
}

// allChosen lists all lists of at most five places, the fewest first, and those of one length in lexicographic order.
func allChosen(kit []impl.Stage) []chosenStages {
	var all []chosenStages
	for mask := range 1 << len(kit) {
		chosen := chosenStages{gain: big.NewRat(1, 1)}
		for p, s := range kit {
			if mask>>p&1 == 1 {
				chosen.places = append(chosen.places, p)
				chosen.gain.Mul(chosen.gain, gainByDefinition(s))
			}
		}
		if len(chosen.places) <= 5 {
			all = append(all, chosen)
		}
	}
	slices.SortFunc(all, func(x, y chosenStages) int {
		if len(x.places) != len(y.places) {
			return len(x.places) - len(y.places)
		}
		return slices.Compare(x.places, y.places)
	})
	return all
}

// firstChosen returns the first of some lists whose gain will do.
func firstChosen(all []chosenStages, does func(gain *big.Rat) bool) ([]int, bool) {
	i := slices.IndexFunc(all, func(c chosenStages) bool { return does(c.gain) })
	if i < 0 {
		return nil, false
	}
	return all[i].places, true
}

// manyStageKits lists kits of all sizes, also with Stages that are alike, or make the gain less.
func manyStageKits() [][]impl.Stage {
	next := numbersFrom(77)
	kits := [][]impl.Stage{
		nil, {}, {leverOf(6, 2), blockOf(4), stageOf(impl.StageRamp, 5, 2)}, slices.Repeat([]impl.Stage{blockOf(2)}, 8), slices.Repeat([]impl.Stage{twinOf(24, 23)}, 8),
		slices.Repeat([]impl.Stage{leverOf(1, 2)}, 8), {leverOf(1, 2), blockOf(2), leverOf(1, 2), blockOf(2), blockOf(3), leverOf(1, 3), blockOf(6), blockOf(1)},
		{leverOf(2, 3), leverOf(3, 4), leverOf(4, 5), leverOf(5, 6), blockOf(3), blockOf(12), leverOf(6, 7), blockOf(7)},
	}
	stages := allStages()
	for len(kits) < 60 {
		kit := make([]impl.Stage, 1+next(8))
		for i := range kit {
			kit[i] = []impl.Stage{stages[next(len(stages))], leverOf(1+next(4), 1+next(3)), blockOf(1 + next(6))}[(next(3)+len(kits))%3]
		}
		kits = append(kits, kit)
	}
	return kits
}

func TestReachGainAndExactGain(t *testing.T) {
	reached, exact := map[int]int{}, map[int]int{}
	for _, kit := range manyStageKits() {
		all := allChosen(kit)
		gains := []int{1, 2, 3, 4, 5, 6, 7, 8, 9, 10, 11, 12, 16, 18, 24, 30, 31, 32, 33, 36, 48, 60, 64, 72, 100, 120, 500, 2304, 5000, 110592, 999999, 1000000}
		for _, c := range all {
			// Gains that are just reached, and those next to them.
			if c.gain.IsInt() && c.gain.Cmp(ratOf(999999)) < 0 {
				n := int(c.gain.Num().Int64())
				gains = append(gains, n, n+1, max(n-1, 1))
			}
		}
		slices.Sort(gains)
		for _, gain := range slices.Compact(gains) {
			want, wantOK := firstChosen(all, func(r *big.Rat) bool { return r.Cmp(ratOf(gain)) >= 0 })
			if places, ok := impl.ReachGain(kit, gain); ok != wantOK || !slices.Equal(places, want) {
				t.Fatalf("ReachGain(%v, %d) = %v, %v; want %v, %v", kit, gain, places, ok, want, wantOK)
			}
			if wantOK {
				reached[len(want)]++
			}
			want, wantOK = firstChosen(all, func(r *big.Rat) bool { return r.Cmp(ratOf(gain)) == 0 })
			if places, ok := impl.ExactGain(kit, gain); ok != wantOK || !slices.Equal(places, want) {
				t.Fatalf("ExactGain(%v, %d) = %v, %v; want %v, %v", kit, gain, places, ok, want, wantOK)
			}
			if wantOK {
				exact[len(want)]++
			}
		}
	}
	for size := range 6 {
		if reached[size] < 10 || exact[size] < 10 {
			t.Error("too few lists of a size", reached, exact)
		}
	}
}

func TestReachGainAndExactGainOfKnownKits(t *testing.T) {
	three := []impl.Stage{leverOf(6, 2), blockOf(4), stageOf(impl.StageRamp, 5, 2)}
	twos := slices.Repeat([]impl.Stage{blockOf(2)}, 8)
	halves := []impl.Stage{leverOf(1, 2), blockOf(6), blockOf(2), blockOf(3)}
	cases := []struct {
		kit              []impl.Stage
		gain             int
		reach, exact     []int
		reachOK, exactOK bool
	}{
		{three, 10, []int{0, 1}, []int{1, 2}, true, true}, {three, 3, []int{0}, []int{0}, true, true}, {three, 4, []int{1}, []int{1}, true, true},
		{three, 12, []int{0, 1}, []int{0, 1}, true, true}, {three, 30, []int{0, 1, 2}, []int{0, 1, 2}, true, true}, {three, 31, nil, nil, false, false},
		{three, 2, []int{0}, nil, true, false}, {three, 7, []int{0, 1}, nil, true, false},
		// No Stages have the gain 1.
		{nil, 1, nil, nil, true, true}, {nil, 2, nil, nil, false, false}, {three, 1, nil, nil, true, true}, {[]impl.Stage{blockOf(1)}, 1, nil, nil, true, true},
		{[]impl.Stage{leverOf(1, 2)}, 1, nil, nil, true, true}, {[]impl.Stage{leverOf(1, 2)}, 2, nil, nil, false, false},
		// No more than MaxStages of them are a chain.
		{twos, 2, []int{0}, []int{0}, true, true}, {twos, 32, []int{0, 1, 2, 3, 4}, []int{0, 1, 2, 3, 4}, true, true}, {twos, 33, nil, nil, false, false},
		{twos, 64, nil, nil, false, false}, {slices.Concat(twos[:3], twos[:2], []impl.Stage{blockOf(3)}), 48, []int{0, 1, 2, 3, 5}, []int{0, 1, 2, 3, 5}, true, true},
		// Some Stages make the gain less.
		{halves, 6, []int{1}, []int{1}, true, true}, {halves, 18, []int{1, 3}, []int{1, 3}, true, true}, {halves, 9, []int{1, 2}, []int{0, 1, 3}, true, true},
		{halves, 36, []int{1, 2, 3}, []int{1, 2, 3}, true, true}, {halves, 37, nil, nil, false, false},
		// Fewer Stages come before those at lower places.
		{[]impl.Stage{blockOf(2), blockOf(3), blockOf(6)}, 6, []int{2}, []int{2}, true, true}, {[]impl.Stage{blockOf(2), blockOf(3), blockOf(5)}, 6, []int{0, 1}, []int{0, 1}, true, true},
		{[]impl.Stage{leverOf(3, 2), leverOf(4, 3), blockOf(1)}, 2, []int{0, 1}, []int{0, 1}, true, true}, {[]impl.Stage{leverOf(5, 2), leverOf(2, 5)}, 2, []int{0}, nil, true, false},
		{slices.Repeat([]impl.Stage{blockOf(24)}, 8), 1000000, []int{0, 1, 2, 3, 4}, nil, true, false},
		{slices.Concat(twos[:2], slices.Repeat([]impl.Stage{blockOf(20)}, 3), []impl.Stage{blockOf(5), blockOf(10), blockOf(10)}), 800000, []int{2, 3, 4, 6, 7}, []int{2, 3, 4, 6, 7}, true, true},
	}
	for _, c := range cases {
		if places, ok := impl.ReachGain(c.kit, c.gain); ok != c.reachOK || !slices.Equal(places, c.reach) {
			t.Errorf("ReachGain(%v, %d) = %v, %v; want %v, %v", c.kit, c.gain, places, ok, c.reach, c.reachOK)
		}
		if places, ok := impl.ExactGain(c.kit, c.gain); ok != c.exactOK || !slices.Equal(places, c.exact) {
			t.Errorf("ExactGain(%v, %d) = %v, %v; want %v, %v", c.kit, c.gain, places, ok, c.exact, c.exactOK)
		}
	}
}

// Also where no Stages are needed, all of a kit have to be valid, and they are at most 8.
func TestReachGainAndExactGainRejectOtherKitsAndNumbers(t *testing.T) {
	expectNone := func(kit []impl.Stage, gain int) {
		t.Helper()
		reach, one := impl.ReachGain(kit, gain)
		exact, two := impl.ExactGain(kit, gain)
		if one || two || len(reach) != 0 || len(exact) != 0 {
			t.Errorf("with %d Stages and the gain %d: %v, %v and %v, %v", len(kit), gain, reach, one, exact, two)
		}
	}
	for _, gain := range []int{1, 2, 1000000} {
		expectNone(slices.Repeat([]impl.Stage{blockOf(2)}, 9), gain)
		expectNone(slices.Repeat([]impl.Stage{blockOf(2)}, 1<<16), gain)
		for i, bad := range badStages() {
			kit := slices.Repeat([]impl.Stage{blockOf(2)}, 8)
			kit[i%8] = bad
			expectNone(kit, gain)
			expectNone([]impl.Stage{blockOf(2), bad}, gain)
			expectNone([]impl.Stage{bad}, gain)
		}
	}
	for _, gain := range append(badHauls(), 0) {
		for _, kit := range manyStageKits() {
			expectNone(kit, gain)
		}
	}
}

func TestStepPulls(t *testing.T) {
	for _, chain := range manyChains() {
		for _, load := range someHauls() {
			pulls, ok := impl.StepPulls(chain, load)
			if !ok || len(pulls) != len(chain)+1 {
				t.Fatalf("StepPulls(%v, %d) = %v, %v", chain, load, pulls, ok)
			}
			for i, pull := range pulls {
				if want := new(big.Rat).Quo(ratOf(load), gainOfAll(chain[:i])); !sameFraction(pull, want) {
					t.Fatalf("StepPulls(%v, %d) = %v; want %v behind %d", chain, load, pulls, want, i)
				}
			}
			if last, _ := impl.PullFor(chain, load); pulls[len(chain)] != last {
				t.Fatalf("StepPulls(%v, %d) = %v; PullFor is %v", chain, load, pulls, last)
			}
		}
	}
	cases := []struct {
		chain []impl.Stage
		load  int
		want  [][2]int
	}{
		{nil, 0, [][2]int{{0, 1}}}, {nil, 1000000, [][2]int{{1000000, 1}}}, {[]impl.Stage{blockOf(4)}, 0, [][2]int{{0, 1}, {0, 1}}},
		{[]impl.Stage{leverOf(6, 2), blockOf(4)}, 100, [][2]int{{100, 1}, {100, 3}, {25, 3}}},
		{[]impl.Stage{blockOf(4), leverOf(6, 2)}, 100, [][2]int{{100, 1}, {25, 1}, {25, 3}}},
		{[]impl.Stage{leverOf(1, 24), twinOf(24, 23), stageOf(impl.StageRamp, 5, 5)}, 3, [][2]int{{3, 1}, {72, 1}, {3, 2}, {3, 2}}},
	}
	for _, c := range cases {
		if pulls, ok := impl.StepPulls(c.chain, c.load); !ok || !slices.Equal(pulls, c.want) {
			t.Errorf("StepPulls(%v, %d) = %v, %v; want %v", c.chain, c.load, pulls, ok, c.want)
		}
	}
}

// leverCall is one call of a function of this chapter: what it returns, as one value each way.
type leverCall struct {
	name      string
	numbers   []int
	list      []int
	fractions [][2]int
	row       []impl.Load
	ok        bool
}

func (c leverCall) zero() bool {
	return len(c.list) == 0 && len(c.fractions) == 0 && len(c.row) == 0 && !slices.ContainsFunc(c.numbers, func(n int) bool { return n != 0 })
}

// chainCalls calls all functions that have a chain and a number with these arguments.
func chainCalls(chain []impl.Stage, n int) []leverCall {
	pull, pullOK := impl.PullFor(chain, n)
	least, leastOK := impl.LeastPull(chain, n)
	most, mostOK := impl.MostLoad(chain, n)
	haul, haulOK := impl.HaulFor(chain, n)
	pulls, pullsOK := impl.StepPulls(chain, n)
	return []leverCall{
		{name: "PullFor", numbers: pull[:], ok: pullOK}, {name: "LeastPull", numbers: []int{least}, ok: leastOK},
		{name: "MostLoad", numbers: []int{most}, ok: mostOK}, {name: "HaulFor", numbers: haul[:], ok: haulOK},
		{name: "StepPulls", fractions: pulls, ok: pullsOK},
	}
}

func chainGainCall(chain []impl.Stage) leverCall {
	gain, ok := impl.ChainGain(chain)
	return leverCall{name: "ChainGain", numbers: gain[:], ok: ok}
}

// kitCalls calls all functions that have a list of Stages and a gain with these arguments.
func kitCalls(kit []impl.Stage, gain int) []leverCall {
	reach, reachOK := impl.ReachGain(kit, gain)
	exact, exactOK := impl.ExactGain(kit, gain)
	return []leverCall{{name: "ReachGain", list: reach, ok: reachOK}, {name: "ExactGain", list: exact, ok: exactOK}}
}

// stageCalls calls all functions that have a single Stage.
func stageCalls(s impl.Stage, load, pull int) []leverCall {
	gain, gainOK := impl.StageGain(s)
	row, rowOK := impl.LeverRow(s, load, pull)
	turned, turnedOK := impl.TurnStage(s)
	return []leverCall{
		{name: "IsStage", ok: impl.IsStage(s)}, {name: "StageGain", numbers: gain[:], ok: gainOK}, {name: "LeverRow", row: row, ok: rowOK},
		{name: "TurnStage", numbers: []int{turned.Kind, turned.A, turned.B}, ok: turnedOK},
	}
}

func sameLeverCalls(x, y []leverCall) bool {
	return slices.EqualFunc(x, y, func(c, d leverCall) bool {
		return c.name == d.name && slices.Equal(c.numbers, d.numbers) && slices.Equal(c.list, d.list) &&
			slices.Equal(c.fractions, d.fractions) && slices.Equal(c.row, d.row) && c.ok == d.ok
	})
}

func expectLeverCallsFail(t *testing.T, with any, calls ...leverCall) {
	t.Helper()
	for _, c := range calls {
		if c.ok || !c.zero() {
			t.Errorf("%s with %v: %+v", c.name, with, c)
		}
	}
}

func TestFunctionsFailWithoutAStage(t *testing.T) {
	for _, s := range badStages() {
		expectLeverCallsFail(t, s, stageCalls(s, 1, 1)...)
	}
}

func TestFunctionsFailWithoutAChain(t *testing.T) {
	for _, chain := range badChains() {
		first := chain[:min(len(chain), 5)]
		expectLeverCallsFail(t, first, chainGainCall(chain))
		for _, n := range []int{0, 1, 1000000, -1} {
			expectLeverCallsFail(t, first, chainCalls(chain, n)...)
		}
	}
}

func TestFunctionsFailForNumbersBeyondMaxHaul(t *testing.T) {
	for _, chain := range manyChains() {
		for _, n := range badHauls() {
			expectLeverCallsFail(t, n, chainCalls(chain, n)...)
		}
	}
}

// scribbleLeverCall changes all that was made, and what is behind it in its memory.
func scribbleLeverCall(c leverCall) {
	scribble(c.list[:cap(c.list)])
	fractions := c.fractions[:cap(c.fractions)]
	for i := range fractions {
		fractions[i] = [2]int{-7, -7}
	}
	row := c.row[:cap(c.row)]
	for i := range row {
		row[i] = impl.Load{Place: -7, Weight: -7}
	}
}

// Promise 13: results for all arguments, the same ones again, and the arguments as they were, also beyond their length.
func TestLeverFunctionsReturnAndLeaveTheirArguments(t *testing.T) {
	numbers := []int{0, 1, 2, 10, 99, 100, 720, 1000000, -1, 1000001, math.MaxInt, math.MinInt}
	lists := slices.Concat(manyChains()[:40], manyStageKits(), badChains()[2:])
	for k, list := range lists {
		for i, n := range numbers {
			other := numbers[(k+i)%len(numbers)]
			whole := slices.Concat(list, []impl.Stage{leverOf(3, 4), blockOf(5)})
			before := slices.Clone(whole)
			given := whole[:len(list)]
			all := func(stages []impl.Stage) []leverCall {
				calls := slices.Concat(chainCalls(stages, n), kitCalls(stages, n), []leverCall{chainGainCall(stages)})
				for _, s := range stages {
					calls = append(calls, stageCalls(s, n, other)...)
				}
				return calls
			}
			want, calls := all(slices.Clone(list)), all(given)
			if !sameLeverCalls(calls, want) {
				t.Fatalf("other results of the same list %v with %d", list, n)
			}
			for _, c := range calls {
				if !c.ok && !c.zero() {
					t.Fatalf("%s fails with %+v", c.name, c)
				}
				scribbleLeverCall(c)
			}
			if !slices.Equal(whole, before) {
				t.Fatalf("the list %v became %v", before, whole)
			}
			if !sameLeverCalls(all(given), want) {
				t.Fatalf("other results of %v with %d again", list, n)
			}
		}
	}
}
