package tests

import (
	"math"
	"math/big"
	"slices"
	"testing"

	"loop.example/g01159/impl"
)

// drawn returns the cells at the marks of a picture, whose last line has the y 0, in order.
func drawn(lines ...string) [][2]int {
	var cells [][2]int
	for i, line := range lines {
		for x := range line {
			if line[x] == '#' {
				cells = append(cells, [2]int{x, len(lines) - 1 - i})
			}
		}
	}
	sortCells(cells)
	return cells
}

func sortCells(cells [][2]int) {
	slices.SortFunc(cells, func(c, d [2]int) int { return slices.Compare(c[:], d[:]) })
}

func barOf(n int) [][2]int {
	var cells [][2]int
	for x := range n {
		cells = append(cells, [2]int{x, 0})
	}
	return cells
}

func towerOf(n int) [][2]int {
	var cells [][2]int
	for y := range n {
		cells = append(cells, [2]int{0, y})
	}
	return cells
}

// The definitions of the chapter, told once more.

func areNeighbors(c, d [2]int) bool {
	beside := func(n, m int) bool { return n+1 == m || m+1 == n }
	return c[0] == d[0] && beside(c[1], d[1]) || c[1] == d[1] && beside(c[0], d[0])
}

// isOneGroup gives each cell a group of its own, and joins those of neighbors until no more can change.
func isOneGroup(cells [][2]int) bool {
	groups := make([]int, len(cells))
	for i := range groups {
		groups[i] = i
	}
	for range cells {
		for i := range cells {
			for k := range cells {
				if areNeighbors(cells[i], cells[k]) {
					groups[i] = min(groups[i], groups[k])
				}
			}
		}
	}
	return !slices.ContainsFunc(groups, func(g int) bool { return g != 0 })
}

// leastOf returns the least of the numbers 0 or 1 of some cells.
func leastOf(cells [][2]int, axis int) int {
	least := cells[0][axis]
	for _, c := range cells {
		least = min(least, c[axis])
	}
	return least
}

func isBodyByDefinition(cells [][2]int) bool {
	if len(cells) < 1 || len(cells) > 12 || leastOf(cells, 0) != 0 || leastOf(cells, 1) != 0 {
		return false
	}
	for i := 1; i < len(cells); i++ {
		c, d := cells[i-1], cells[i]
		if c[0] > d[0] || c[0] == d[0] && c[1] >= d[1] {
			return false
		}
	}
	return isOneGroup(cells)
}

// downByDefinition returns the cells put down and in order, whether this is a body or not.
func downByDefinition(cells [][2]int) [][2]int {
	var down [][2]int
	for _, c := range cells {
		down = append(down, [2]int{c[0] - leastOf(cells, 0), c[1] - leastOf(cells, 1)})
	}
	sortCells(down)
	return down
}

// middleOf returns the mean of the middles of all cells, by x or by y.
func middleOf(cells [][2]int, axis int) *big.Rat {
	sum := new(big.Rat)
	for _, c := range cells {
		sum.Add(sum, big.NewRat(int64(2*c[axis]+1), 2))
	}
	return sum.Quo(sum, ratOf(len(cells)))
}

// sideOfSpan returns the side on which a place is of what reaches from the least of some numbers to the greatest one and 1.
func sideOfSpan(place *big.Rat, numbers []int) int {
	if place.Cmp(ratOf(slices.Min(numbers))) < 0 {
		return -1
	}
	return max(0, place.Cmp(ratOf(slices.Max(numbers)+1)))
}

func groundCells(body [][2]int) []int {
	var all []int
	for _, c := range body {
		if c[1] == 0 {
			all = append(all, c[0])
		}
	}
	return all
}

func bodySideByDefinition(body [][2]int) int {
	return sideOfSpan(middleOf(body, 0), groundCells(body))
}

// changedByDefinition returns what is made of each cell of a body, put down.
func changedByDefinition(body [][2]int, cell func(x, y int) [2]int) [][2]int {
	var changed [][2]int
	for _, c := range body {
		changed = append(changed, cell(c[0], c[1]))
	}
	return downByDefinition(changed)
}

func turnedByDefinition(body [][2]int, side int) [][2]int {
	if side == 1 {
		return changedByDefinition(body, func(x, y int) [2]int { return [2]int{y, -x} })
	}
	return changedByDefinition(body, func(x, y int) [2]int { return [2]int{-y, x} })
}

// tumbledByDefinition turns a body far more often than it can be turned before it lies as it did once.
func tumbledByDefinition(body [][2]int) ([][2]int, int, bool) {
	for turns := range 40 {
		side := bodySideByDefinition(body)
		if side == 0 {
			return body, turns, true
		}
		body = turnedByDefinition(body, side)
	}
	return nil, 0, false
}

func standingByDefinition(body [][2]int) []int {
	var turns []int
	for n := range 4 {
		if bodySideByDefinition(body) == 0 {
			turns = append(turns, n)
		}
		body = turnedByDefinition(body, 1)
	}
	return turns
}

// looseCellsByDefinition returns the LooseCells and the StandLoose of a body.
func looseCellsByDefinition(body [][2]int) ([]int, []int) {
	var loose, standing []int
	for i, gone := range body {
		others := slices.DeleteFunc(slices.Clone(body), func(c [2]int) bool { return c == gone })
		if len(others) == 0 || !isOneGroup(others) {
			continue
		}
		loose = append(loose, i)
		if bodySideByDefinition(downByDefinition(others)) == 0 {
			standing = append(standing, i)
		}
	}
	return loose, standing
}

// cellsToStandByDefinition tries each cell of a field that is greater than any body.
func cellsToStandByDefinition(body [][2]int) [][2]int {
	var found [][2]int
	for x := -1; x <= 13; x++ {
		for y := 0; y <= 13; y++ {
			c := [2]int{x, y}
			touches := slices.ContainsFunc(body, func(d [2]int) bool { return areNeighbors(c, d) })
			if touches && !slices.Contains(body, c) && bodySideByDefinition(downByDefinition(append(slices.Clone(body), c))) == 0 {
				found = append(found, c)
			}
		}
	}
	return found
}

// stackByDefinition moves b up, one by one, until all its cells are over those of a with the same x.
func stackByDefinition(a, b [][2]int, d int) ([][2]int, bool, bool) {
	upper := slices.Clone(b)
	for i := range upper {
		upper[i][0] += d
	}
	isUnder := func(c [2]int) bool {
		return slices.ContainsFunc(a, func(low [2]int) bool { return low[0] == c[0] && low[1] >= c[1] })
	}
	for slices.ContainsFunc(upper, isUnder) {
		for i := range upper {
			upper[i][1]++
		}
	}
	all := append(slices.Clone(a), upper...)
	if len(all) > 12 || !isOneGroup(all) {
		return nil, false, false
	}
	var lying []int
	for _, c := range upper {
		if slices.Contains(a, [2]int{c[0], c[1] - 1}) {
			lying = append(lying, c[0])
		}
	}
	return downByDefinition(all), len(lying) > 0 && sideOfSpan(middleOf(upper, 0), lying) == 0, true
}

// allBodies lists all bodies of n cells: those choices of n cells of a square field that are bodies.
func allBodies(n int) [][][2]int {
	var bodies [][][2]int
	var choose func(chosen [][2]int, from int)
	choose = func(chosen [][2]int, from int) {
		if len(chosen) == n {
			if isBodyByDefinition(chosen) {
				bodies = append(bodies, slices.Clone(chosen))
			}
			return
		}
		for at := from; at < n*n; at++ {
			choose(append(chosen, [2]int{at / n, at % n}), at+1)
		}
	}
	choose(nil, 0)
	return bodies
}

func smallBodies() [][][2]int {
	return slices.Concat(allBodies(1), allBodies(2), allBodies(3), allBodies(4))
}

// knownBodies are bodies with something of their own: long and high ones, rings, those that never stand, and those that are
// turned most often.
func knownBodies() [][][2]int {
	bodies := [][][2]int{
		barOf(1), barOf(11), barOf(12), towerOf(11), towerOf(12), neverAllRound(), neverByStairs(), neverAfterThreeTurns(), neverByTwoWays(), afterThreeTurns(),
		drawn("###", "#.#", "###"), drawn("####", "#..#", "####", "..#."), drawn(".#.", "###", ".#."), drawn("######", "#.....", "#", "#", "#", "#", "#"),
		drawn("####", "####", "####"), drawn("###########", "#"), drawn("###########", "..........#"), drawn("#########", "....#", "....#", "....#"),
	}
	for _, body := range slices.Clone(bodies) {
		bodies = append(bodies, turnedByDefinition(body, 1), turnedByDefinition(body, -1))
	}
	return bodies
}

// neverAllRound tips to the left however it is turned.
func neverAllRound() [][2]int { return drawn(".#...", ".####", ".#...", "####.", "...#.") }

// neverByStairs tips to the right, and behind a turn back to the left. It is the same body if it is turned twice.
func neverByStairs() [][2]int { return drawn("...##", ".###.", "##...") }

// neverAfterThreeTurns tips to the right three times, and then between two ways.
func neverAfterThreeTurns() [][2]int { return drawn("...#.", "...#.", "...#.", "#####", "#....") }

// neverByTwoWays tips to the right, and behind a turn back to the left. It would stand if it were turned twice.
func neverByTwoWays() [][2]int { return drawn("###", "#", "#") }

// afterThreeTurns stands behind no fewer turns than three.
func afterThreeTurns() [][2]int {
	return [][2]int{{0, 1}, {1, 1}, {1, 2}, {1, 3}, {2, 2}, {3, 0}, {3, 1}, {3, 2}, {4, 2}}
}

// manyBodies lists all bodies of up to 5 cells, the known ones, and others of all sizes.
func manyBodies() [][][2]int {
	bodies := slices.Concat(smallBodies(), allBodies(5), knownBodies())
	next := numbersFrom(8)
	for i := range 420 {
		bodies = append(bodies, bodyBy(next, 6+i%7))
	}
	return bodies
}

// bodyBy returns a body of n cells that grows by neighbors, which are chosen by numbers.
func bodyBy(next func(int) int, n int) [][2]int {
	cells := [][2]int{{0, 0}}
	for len(cells) < n {
		c := cells[next(len(cells))]
		c[next(2)] += 2*next(2) - 1
		if !slices.Contains(cells, c) {
			cells = append(cells, c)
		}
	}
	return downByDefinition(cells)
}

func hugeNumbers() []int {
	return []int{math.MaxInt, math.MinInt, math.MinInt + 1, 1 << 32, -1 << 32, 1 << 62, -1 << 62}
}

// badBodies are no bodies, by their size, by a number, by their order, or since they do not hang together.
func badBodies() [][][2]int {
	bodies := [][][2]int{
		nil, {}, {{1, 0}}, {{0, 1}}, {{-1, 0}}, {{0, -1}}, {{1, 1}}, {{0, 0}, {0, 0}}, {{1, 0}, {0, 0}}, {{0, 1}, {0, 0}}, {{0, 0}, {1, 1}}, {{0, 1}, {1, 0}},
		{{0, 0}, {2, 0}}, {{0, 0}, {0, 2}}, {{-1, 0}, {0, 0}}, {{0, -1}, {0, 0}}, {{1, 0}, {2, 0}}, {{0, 1}, {1, 1}}, {{0, 0}, {0, 1}, {0, 1}}, {{0, 0}, {0, 0}, {0, 1}},
		{{0, 0}, {1, 0}, {0, 1}}, {{0, 0}, {1, 0}, {1, 0}}, {{0, 0}, {0, 1}, {2, 0}, {2, 1}}, {{0, 0}, {1, 0}, {3, 0}, {4, 0}},
		barOf(13), towerOf(13), barOf(1 << 16), make([][2]int, 12), make([][2]int, 1<<16), drawn("#####", "#...#", "#####", "#"),
	}
	for _, n := range hugeNumbers() {
		bodies = append(bodies, [][2]int{{n, 0}}, [][2]int{{0, n}}, [][2]int{{n, n}}, [][2]int{{0, 0}, {n, 0}}, [][2]int{{0, 0}, {0, n}}, [][2]int{{n, 0}, {n + 1, 0}},
			[][2]int{{n, 0}, {0, 0}}, [][2]int{{0, n}, {0, n + 1}}, [][2]int{{0, 0}, {0, n}, {0, n - 1}})
	}
	for i, body := range manyBodies() {
		other := slices.Clone(body)
		place := i % len(other)
		if i%2 == 0 {
			other[place][i/2%2] += 40
		} else {
			other = slices.Insert(other, place, other[place])
		}
		bodies = append(bodies, other)
	}
	return bodies
}

func TestIsBody(t *testing.T) {
	expect := func(cells [][2]int) {
		if want := isBodyByDefinition(cells); impl.IsBody(cells) != want {
			t.Errorf("IsBody(%v) is %v", cells, !want)
		}
	}
	for _, body := range manyBodies() {
		if !impl.IsBody(body) {
			t.Errorf("IsBody(%v) is false", body)
		}
	}
	for _, bad := range badBodies() {
		if impl.IsBody(bad) {
			t.Errorf("IsBody(%v) is true", bad[:min(len(bad), 13)])
		}
	}
	// All lists of three cells out of 16, in each order, and with the same one several times.
	for n := range 1 << 12 {
		cell := func(k int) [2]int { return [2]int{n>>k&3 - 1, n>>k>>2&3 - 1} }
		expect([][2]int{cell(0), cell(4), cell(8)})
		expect([][2]int{cell(0), cell(4)})
	}
	// All choices of cells of a field of 3 times 4.
	for n := range 1 << 12 {
		var cells [][2]int
		for k := range 12 {
			if n>>k&1 == 1 {
				cells = append(cells, [2]int{k / 4, k % 4})
			}
		}
		expect(cells)
	}
}

func TestPutDown(t *testing.T) {
	next := numbersFrom(81)
	for _, body := range manyBodies() {
		cells := slices.Clone(body)
		for i := range cells {
			k := next(i + 1)
			cells[i], cells[k] = cells[k], cells[i]
		}
		right, up := next(100)-60, next(100)-60
		for i := range cells {
			cells[i] = [2]int{cells[i][0] + right, cells[i][1] + up}
		}
		if slices.ContainsFunc(cells, func(c [2]int) bool { return max(c[0], c[1]) > 60 }) {
			continue
		}
		if down, ok := impl.PutDown(cells); !ok || !slices.Equal(down, body) {
			t.Fatalf("PutDown(%v) = %v, %v; want %v", cells, down, ok, body)
		}
	}
	cases := []struct{ cells, want [][2]int }{
		{[][2]int{{5, 4}, {4, 4}}, barOf(2)}, {[][2]int{{-3, 7}}, barOf(1)}, {[][2]int{{60, 60}}, barOf(1)}, {[][2]int{{-60, -60}}, barOf(1)},
		{[][2]int{{60, -60}, {59, -60}}, barOf(2)}, {[][2]int{{-60, 60}, {-60, 59}}, towerOf(2)}, {[][2]int{{0, 0}, {-1, 0}, {-1, -1}}, drawn("##", "#")},
		{[][2]int{{2, 1}, {1, 2}, {1, 1}, {1, 0}, {0, 1}}, drawn(".#.", "###", ".#.")},
	}
	for _, c := range cases {
		if down, ok := impl.PutDown(c.cells); !ok || !slices.Equal(down, c.want) {
			t.Errorf("PutDown(%v) = %v, %v; want %v", c.cells, down, ok, c.want)
		}
	}
}

func TestPutDownRejectsWhatIsNoBody(t *testing.T) {
	lists := [][][2]int{
		nil, {}, {{3, 3}, {3, 3}}, {{3, 3}, {4, 3}, {3, 3}}, {{3, 3}, {4, 4}}, {{3, 3}, {5, 3}}, {{4, 3}, {3, 4}}, {{0, 0}, {0, 2}}, {{-60, 0}, {60, 0}},
		{{61, 0}}, {{0, 61}}, {{-61, 0}}, {{0, -61}}, {{60, 0}, {61, 0}}, {{0, -60}, {0, -61}}, {{61, 61}}, {{-61, -61}}, {{-61, 61}}, {{61, -61}},
		{{0, 0}, {1, 0}, {3, 0}, {4, 0}}, {{0, 0}, {1, 0}, {1, 0}, {2, 0}}, barOf(13), towerOf(13), barOf(1 << 16), make([][2]int, 2), make([][2]int, 13),
	}
	for _, n := range hugeNumbers() {
		lists = append(lists, [][2]int{{n, 0}}, [][2]int{{0, n}}, [][2]int{{n, n}}, [][2]int{{0, 0}, {n, 0}}, [][2]int{{n, 5}, {n - 1, 5}}, [][2]int{{n, 0}, {-n, 0}})
	}
	for _, cells := range lists {
		if down, ok := impl.PutDown(cells); ok || len(down) != 0 {
			t.Errorf("PutDown(%v) = %v, %v", cells[:min(len(cells), 13)], down, ok)
		}
	}
	// All lists of three cells out of 16: those that hang together and are different ones.
	for n := range 1 << 12 {
		cell := func(k int) [2]int { return [2]int{n>>k&3 - 1, n>>k>>2&3 - 1} }
		cells := [][2]int{cell(0), cell(4), cell(8)}
		want := downByDefinition(cells)
		if down, ok := impl.PutDown(cells); ok != isBodyByDefinition(want) || ok && !slices.Equal(down, want) || !ok && len(down) != 0 {
			t.Fatalf("PutDown(%v) = %v, %v; want %v", cells, down, ok, want)
		}
	}
}

func TestBodyCentreGroundOfAndBodySide(t *testing.T) {
	for _, body := range manyBodies() {
		x, y, ok := impl.BodyCentre(body)
		if !ok || !sameFraction(x, middleOf(body, 0)) || !sameFraction(y, middleOf(body, 1)) {
			t.Errorf("BodyCentre(%v) = %v, %v, %v; want %v, %v", body, x, y, ok, middleOf(body, 0), middleOf(body, 1))
		}
		cells := groundCells(body)
		if begin, end, ok := impl.GroundOf(body); !ok || begin != slices.Min(cells) || end != slices.Max(cells)+1 {
			t.Errorf("GroundOf(%v) = %d, %d, %v; the cells are %v", body, begin, end, ok, cells)
		}
		if side, ok := impl.BodySide(body); !ok || side != bodySideByDefinition(body) {
			t.Errorf("BodySide(%v) = %d, %v; want %d", body, side, ok, bodySideByDefinition(body))
		}
	}
	cases := []struct {
		body       [][2]int
		x, y       [2]int
		begin, end int
		side       int
	}{
		{barOf(1), [2]int{1, 2}, [2]int{1, 2}, 0, 1, 0}, {barOf(12), [2]int{6, 1}, [2]int{1, 2}, 0, 12, 0}, {towerOf(12), [2]int{1, 2}, [2]int{6, 1}, 0, 1, 0},
		{drawn("###", "#"), [2]int{5, 4}, [2]int{5, 4}, 0, 1, 1}, {drawn("###", "..#"), [2]int{7, 4}, [2]int{5, 4}, 2, 3, -1}, {drawn("###", ".#"), [2]int{3, 2}, [2]int{5, 4}, 1, 2, 0},
		// With its centre over an end of the ground, a body stands.
		{drawn("##", "#", "#"), [2]int{3, 4}, [2]int{7, 4}, 0, 1, 0}, {drawn("##", "##", "#", "#"), [2]int{5, 6}, [2]int{7, 3}, 0, 1, 0},
		{drawn("###", "#", "#", "#"), [2]int{1, 1}, [2]int{5, 2}, 0, 1, 0}, {drawn("###", "..#", "..#", "..#"), [2]int{2, 1}, [2]int{5, 2}, 2, 3, 0},
		// Between two feet, there need not be cells on the ground.
		{drawn("####", "#..#"), [2]int{2, 1}, [2]int{7, 6}, 0, 4, 0}, {drawn("#####", ".#.#."), [2]int{5, 2}, [2]int{17, 14}, 1, 4, 0},
		{drawn("###########", "#"), [2]int{61, 12}, [2]int{17, 12}, 0, 1, 1}, {drawn("###########", "..........#"), [2]int{71, 12}, [2]int{17, 12}, 10, 11, -1},
	}
	for _, c := range cases {
		x, y, _ := impl.BodyCentre(c.body)
		begin, end, _ := impl.GroundOf(c.body)
		side, ok := impl.BodySide(c.body)
		if !ok || x != c.x || y != c.y || begin != c.begin || end != c.end || side != c.side {
			t.Errorf("%v: the centre %v, %v, the ground %d, %d, the side %d, %v; want %v", c.body, x, y, begin, end, side, ok, c)
		}
	}
}

func TestTurnBodyAndMirrorBody(t *testing.T) {
	for _, body := range manyBodies() {
		for _, side := range []int{-1, 1} {
			if turned, ok := impl.TurnBody(body, side); !ok || !slices.Equal(turned, turnedByDefinition(body, side)) {
				t.Errorf("TurnBody(%v, %d) = %v, %v; want %v", body, side, turned, ok, turnedByDefinition(body, side))
			}
		}
		want := changedByDefinition(body, func(x, y int) [2]int { return [2]int{-x, y} })
		mirrored, ok := impl.MirrorBody(body)
		if !ok || !slices.Equal(mirrored, want) {
			t.Errorf("MirrorBody(%v) = %v, %v; want %v", body, mirrored, ok, want)
		}
		// It tips to the other side.
		if side, _ := impl.BodySide(body); bodySideByDefinition(mirrored) != -side {
			t.Errorf("%v tips to %d, and mirrored to %d", body, side, bodySideByDefinition(mirrored))
		}
	}
	cases := []struct{ body, left, right, mirrored [][2]int }{
		{barOf(1), barOf(1), barOf(1), barOf(1)}, {barOf(12), towerOf(12), towerOf(12), barOf(12)}, {towerOf(12), barOf(12), barOf(12), towerOf(12)},
		{drawn("###", "#.."), drawn("#.", "#.", "##"), drawn("##", ".#", ".#"), drawn("###", "..#")},
		{drawn("##.", ".##"), drawn(".#", "##", "#."), drawn(".#", "##", "#."), drawn(".##", "##.")},
		{drawn("..#", "###"), drawn("##", ".#", ".#"), drawn("#.", "#.", "##"), drawn("#..", "###")},
	}
	for _, c := range cases {
		left, one := impl.TurnBody(c.body, -1)
		right, two := impl.TurnBody(c.body, 1)
		mirrored, three := impl.MirrorBody(c.body)
		if !one || !two || !three || !slices.Equal(left, c.left) || !slices.Equal(right, c.right) || !slices.Equal(mirrored, c.mirrored) {
			t.Errorf("%v turned is %v and %v, and mirrored %v; want %v", c.body, left, right, mirrored, c)
		}
	}
}

// The first half of promise 8, and a part of the guarantee: turns that make a full one, or none, and two mirrors leave a body.
func TestFullTurnsAndTwoMirrorsLeaveABody(t *testing.T) {
	for _, body := range slices.Concat(manyBodies(), allBodies(6)) {
		for _, sides := range [][]int{{1, -1}, {-1, 1}, {1, 1, 1, 1}, {-1, -1, -1, -1}, {1, 1, -1, 1, 1, 1}} {
			turned := body
			for _, side := range sides {
				turned, _ = impl.TurnBody(turned, side)
			}
			if !slices.Equal(turned, body) {
				t.Errorf("%v turned to %v is %v", body, sides, turned)
			}
		}
		mirrored, _ := impl.MirrorBody(body)
		if again, ok := impl.MirrorBody(mirrored); !ok || !slices.Equal(again, body) {
			t.Errorf("%v mirrored twice is %v, %v", body, again, ok)
		}
	}
}

func TestTurnBodyRejectsOtherSides(t *testing.T) {
	for _, body := range manyBodies() {
		for _, side := range append(hugeNumbers(), 0, 2, -2, 3, 4, 5, -3) {
			if turned, ok := impl.TurnBody(body, side); ok || len(turned) != 0 {
				t.Fatalf("TurnBody(%v, %d) = %v, %v", body, side, turned, ok)
			}
		}
	}
}

// The other half of promise 8: tumbling ends on a way to stand, or never.
func TestTumbleBodyAndStandingTurns(t *testing.T) {
	for _, body := range slices.Concat(manyBodies(), allBodies(6)) {
		want, wantTurns, stands := tumbledByDefinition(body)
		tumbled, turns, ok := impl.TumbleBody(body)
		if ok != stands || turns != wantTurns || !slices.Equal(tumbled, want) {
			t.Errorf("TumbleBody(%v) = %v, %d, %v; want %v, %d, %v", body, tumbled, turns, ok, want, wantTurns, stands)
		}
		ways, waysOK := impl.StandingTurns(body)
		if !waysOK || !slices.Equal(ways, standingByDefinition(body)) {
			t.Errorf("StandingTurns(%v) = %v, %v; want %v", body, ways, waysOK, standingByDefinition(body))
		}
		if !ok {
			continue
		}
		isWay := slices.ContainsFunc(ways, func(n int) bool {
			turned := body
			for range n {
				turned, _ = impl.TurnBody(turned, 1)
			}
			return slices.Equal(turned, tumbled)
		})
		if side, _ := impl.BodySide(tumbled); side != 0 || !isWay {
			t.Errorf("%v tumbles to %v, which tips to %d and is none of the turns %v", body, tumbled, side, ways)
		}
	}
	cases := []struct {
		body, tumbled [][2]int
		turns         int
		ok            bool
		standing      []int
	}{
		{barOf(1), barOf(1), 0, true, []int{0, 1, 2, 3}}, {barOf(12), barOf(12), 0, true, []int{0, 1, 2, 3}}, {towerOf(12), towerOf(12), 0, true, []int{0, 1, 2, 3}},
		{drawn("###", "#"), drawn("##", ".#", ".#"), 1, true, []int{1, 2, 3}}, {drawn("###", "..#"), drawn("##", "#", "#"), 1, true, []int{1, 2, 3}},
		// Bodies that never stand, or would do so only if they were turned on.
		{neverAllRound(), nil, 0, false, nil}, {neverByStairs(), nil, 0, false, nil}, {neverAfterThreeTurns(), nil, 0, false, nil},
		{neverByTwoWays(), nil, 0, false, []int{2, 3}},
	}
	for _, c := range cases {
		tumbled, turns, ok := impl.TumbleBody(c.body)
		standing, standingOK := impl.StandingTurns(c.body)
		if ok != c.ok || turns != c.turns || !slices.Equal(tumbled, c.tumbled) || !standingOK || !slices.Equal(standing, c.standing) {
			t.Errorf("%v tumbles to %v, %d, %v, and stands behind %v, %v; want %v", c.body, tumbled, turns, ok, standing, standingOK, c)
		}
	}
	if _, turns, ok := impl.TumbleBody(afterThreeTurns()); !ok || turns != 3 {
		t.Errorf("TumbleBody(%v) makes %d turns, %v; want 3", afterThreeTurns(), turns, ok)
	}
}

// With a part of the guarantee: the LooseCells of a body of more than one cell are at least two.
func TestLooseCellsAndStandLoose(t *testing.T) {
	for _, body := range slices.Concat(manyBodies(), allBodies(6)) {
		wantLoose, wantStanding := looseCellsByDefinition(body)
		loose, ok := impl.LooseCells(body)
		if !ok || !slices.Equal(loose, wantLoose) || len(body) > 1 && len(loose) < 2 {
			t.Errorf("LooseCells(%v) = %v, %v; want %v", body, loose, ok, wantLoose)
		}
		if standing, ok := impl.StandLoose(body); !ok || !slices.Equal(standing, wantStanding) {
			t.Errorf("StandLoose(%v) = %v, %v; want %v", body, standing, ok, wantStanding)
		}
	}
	cases := []struct {
		body            [][2]int
		loose, standing []int
	}{
		// Without its only cell, a body is none.
		{barOf(1), nil, nil}, {barOf(2), []int{0, 1}, []int{0, 1}}, {barOf(12), []int{0, 11}, []int{0, 11}}, {towerOf(3), []int{0, 2}, []int{0, 2}},
		{drawn("##", "##"), []int{0, 1, 2, 3}, []int{0, 1, 2, 3}}, {drawn("###", "#.#", "###"), []int{0, 1, 2, 3, 4, 5, 6, 7}, []int{0, 1, 2, 3, 4, 5, 6, 7}},
		{drawn(".#.", "###", ".#."), []int{0, 1, 3, 4}, []int{0, 1, 3, 4}}, {drawn("####", "#"), []int{0, 4}, []int{0}}, {drawn("####", "...#"), []int{0, 3}, []int{3}},
	}
	for _, c := range cases {
		loose, one := impl.LooseCells(c.body)
		standing, two := impl.StandLoose(c.body)
		if !one || !two || !slices.Equal(loose, c.loose) || !slices.Equal(standing, c.standing) {
			t.Errorf("%v: loose are %v, %v, and it stands without %v, %v; want %v", c.body, loose, one, standing, two, c)
		}
	}
}

func TestCellsToStand(t *testing.T) {
	for _, body := range slices.Concat(manyBodies(), allBodies(6)) {
		cells, ok := impl.CellsToStand(body)
		if len(body) == 12 {
			if ok || len(cells) != 0 {
				t.Errorf("CellsToStand(%v) = %v, %v with 12 cells", body, cells, ok)
			}
			continue
		}
		if want := cellsToStandByDefinition(body); !ok || !slices.Equal(cells, want) {
			t.Errorf("CellsToStand(%v) = %v, %v; want %v", body, cells, ok, want)
		}
	}
	cases := []struct{ body, want [][2]int }{
		{barOf(1), [][2]int{{-1, 0}, {0, 1}, {1, 0}}}, {drawn("###", "#"), [][2]int{{-1, 0}, {-1, 1}, {1, 0}, {2, 0}}},
		{towerOf(2), [][2]int{{-1, 0}, {-1, 1}, {0, 2}, {1, 0}, {1, 1}}},
		// At the ground, only the cells beside the foot are neighbors, and none of them is far enough to the right.
		{drawn("########", "#", "#"), nil},
	}
	for _, c := range cases {
		if cells, ok := impl.CellsToStand(c.body); !ok || !slices.Equal(cells, c.want) {
			t.Errorf("CellsToStand(%v) = %v, %v; want %v", c.body, cells, ok, c.want)
		}
	}
}

func TestStackBodies(t *testing.T) {
	expect := func(a, b [][2]int, d int) {
		t.Helper()
		want, wantHolds, wantOK := stackByDefinition(a, b, d)
		stack, holds, ok := impl.StackBodies(a, b, d)
		if ok != wantOK || holds != wantHolds || !slices.Equal(stack, want) {
			t.Errorf("StackBodies(%v, %v, %d) = %v, %v, %v; want %v, %v, %v", a, b, d, stack, holds, ok, want, wantHolds, wantOK)
		}
	}
	for _, a := range smallBodies() {
		for _, b := range smallBodies() {
			for d := -12; d <= 12; d++ {
				expect(a, b, d)
			}
		}
	}
	next := numbersFrom(88)
	for range 4000 {
		n := 1 + next(11)
		a, b := bodyBy(next, n), bodyBy(next, max(1, 12-n-next(3)))
		for range 6 {
			expect(a, b, next(14)-6)
		}
	}
	// Bars and towers that have 12 cells together, or one more.
	for n := 1; n <= 12; n++ {
		for d := -12; d <= 12; d++ {
			rest := max(1, 12-n+d&1)
			expect(barOf(n), barOf(rest), d)
			expect(barOf(rest), towerOf(n), d)
		}
	}
}

func TestStackBodiesInKnownCases(t *testing.T) {
	table, hat, hook := drawn("####", "#..#"), drawn("###", "#"), drawn("##", ".#", ".#")
	cases := []struct {
		a, b  [][2]int
		d     int
		stack [][2]int
		holds bool
	}{
		{barOf(1), barOf(1), 0, towerOf(2), true}, {barOf(2), barOf(2), 1, drawn(".##", "##."), true}, {barOf(2), barOf(2), -1, drawn("##.", ".##"), true},
		{barOf(3), barOf(3), 2, drawn("..###", "###.."), false}, {barOf(3), barOf(3), -2, drawn("###..", "..###"), false}, {towerOf(6), towerOf(6), 0, towerOf(12), true},
		// Its centre may be over an end of what bears it.
		{barOf(1), barOf(2), 0, drawn("##", "#"), true}, {barOf(1), barOf(2), -1, drawn("##", ".#"), true}, {barOf(2), barOf(4), -2, drawn("####", "..##"), true},
		// Beside each other, they can be a body, but nothing bears b.
		{barOf(1), barOf(1), 1, barOf(2), false}, {barOf(1), barOf(1), -1, barOf(2), false}, {towerOf(2), barOf(3), 1, drawn("#", "####"), false},
		{towerOf(2), barOf(3), -3, drawn("...#", "####"), false}, {barOf(6), barOf(6), 6, barOf(12), false},
		// b reaches down beside a, and is borne where it is not lowest, or not at all. The ground does not bear it.
		{barOf(2), hook, 1, drawn(".##", "..#", "###"), false}, {towerOf(2), hook, 0, drawn("##", "##", "##"), false},
		{barOf(1), hook, -1, drawn("##", ".#", ".#", ".#"), true}, {table, barOf(1), 1, drawn(".#..", "####", "#..#"), true},
		{barOf(1), hat, -1, drawn("###", "##"), true}, {barOf(1), drawn("####", "#"), -2, drawn("####", "#.#"), false},
		// Two squares bear it with a gap between them.
		{drawn("#.#", "###"), barOf(3), 0, drawn("###", "#.#", "###"), true}, {drawn("#..#", "####"), barOf(4), 0, drawn("####", "#..#", "####"), true},
	}
	for _, c := range cases {
		if stack, holds, ok := impl.StackBodies(c.a, c.b, c.d); !ok || holds != c.holds || !slices.Equal(stack, c.stack) {
			t.Errorf("StackBodies(%v, %v, %d) = %v, %v, %v; want %v, %v", c.a, c.b, c.d, stack, holds, ok, c.stack, c.holds)
		}
	}
}

// Bodies that are apart, or together too great, and other numbers.
func TestStackBodiesFailsForWhatIsNoBody(t *testing.T) {
	expectNone := func(a, b [][2]int, d int) {
		t.Helper()
		if stack, holds, ok := impl.StackBodies(a, b, d); ok || holds || len(stack) != 0 {
			t.Errorf("StackBodies(%v, %v, %d) = %v, %v, %v", a[:min(len(a), 13)], b[:min(len(b), 13)], d, stack, holds, ok)
		}
	}
	expectNone(barOf(1), barOf(1), 2)
	expectNone(barOf(1), barOf(1), -2)
	expectNone(barOf(1), barOf(1), 12)
	expectNone(barOf(1), drawn("##", "#"), -3)
	expectNone(barOf(1), drawn("##", "#"), 2)
	expectNone(drawn("##", ".#"), barOf(1), -1)
	expectNone(barOf(12), barOf(1), 0)
	expectNone(barOf(12), barOf(1), 12)
	expectNone(barOf(1), barOf(12), -12)
	expectNone(towerOf(6), towerOf(7), 0)
	expectNone(barOf(12), towerOf(12), 3)
	for _, d := range append(hugeNumbers(), 13, -13, 14, 24, -24, 60) {
		for _, body := range smallBodies() {
			expectNone(body, body, d)
			expectNone(barOf(11), body, d)
		}
	}
	for _, bad := range badBodies() {
		for _, d := range []int{0, 1, -1} {
			expectNone(bad, barOf(1), d)
			expectNone(barOf(1), bad, d)
			expectNone(bad, bad, d)
		}
	}
}

func TestCountBodies(t *testing.T) {
	known := []int{1, 2, 6, 19, 63, 216}
	for n := 1; n <= 6; n++ {
		standing := 0
		bodies := allBodies(n)
		for _, body := range bodies {
			if bodySideByDefinition(body) == 0 {
				standing++
			}
		}
		all, some, ok := impl.CountBodies(n)
		if !ok || all != len(bodies) || all != known[n-1] || some != standing {
			t.Errorf("CountBodies(%d) = %d, %d, %v; want %d, %d", n, all, some, ok, known[n-1], standing)
		}
	}
	for _, n := range append(hugeNumbers(), 0, -1, 7, 8, 12, -6) {
		if all, some, ok := impl.CountBodies(n); ok || all != 0 || some != 0 {
			t.Errorf("CountBodies(%d) = %d, %d, %v", n, all, some, ok)
		}
	}
}

// bodyCall is one call of a function of this chapter: what it returns, as one value each way.
type bodyCall struct {
	name    string
	cells   [][2]int
	places  []int
	numbers []int
	holds   bool
	ok      bool
}

func (c bodyCall) zero() bool {
	return len(c.cells) == 0 && len(c.places) == 0 && !c.holds && !slices.ContainsFunc(c.numbers, func(n int) bool { return n != 0 })
}

// bodyCalls calls all functions that have one body, and PutDown.
func bodyCalls(body [][2]int, side int) []bodyCall {
	down, downOK := impl.PutDown(body)
	return append(bodyOnlyCalls(body, side), bodyCall{name: "PutDown", cells: down, ok: downOK})
}

func bodyOnlyCalls(body [][2]int, side int) []bodyCall {
	x, y, centreOK := impl.BodyCentre(body)
	begin, end, groundOK := impl.GroundOf(body)
	tips, sideOK := impl.BodySide(body)
	turned, turnedOK := impl.TurnBody(body, side)
	mirrored, mirroredOK := impl.MirrorBody(body)
	tumbled, turns, tumbledOK := impl.TumbleBody(body)
	ways, waysOK := impl.StandingTurns(body)
	loose, looseOK := impl.LooseCells(body)
	standing, standingOK := impl.StandLoose(body)
	more, moreOK := impl.CellsToStand(body)
	return []bodyCall{
		{name: "IsBody", ok: impl.IsBody(body)}, {name: "BodyCentre", numbers: []int{x[0], x[1], y[0], y[1]}, ok: centreOK},
		{name: "GroundOf", numbers: []int{begin, end}, ok: groundOK}, {name: "BodySide", numbers: []int{tips}, ok: sideOK},
		{name: "TurnBody", cells: turned, ok: turnedOK}, {name: "MirrorBody", cells: mirrored, ok: mirroredOK},
		{name: "TumbleBody", cells: tumbled, numbers: []int{turns}, ok: tumbledOK}, {name: "StandingTurns", places: ways, ok: waysOK},
		{name: "LooseCells", places: loose, ok: looseOK}, {name: "StandLoose", places: standing, ok: standingOK},
		{name: "CellsToStand", cells: more, ok: moreOK},
	}
}

func stackCall(a, b [][2]int, d int) bodyCall {
	stack, holds, ok := impl.StackBodies(a, b, d)
	return bodyCall{name: "StackBodies", cells: stack, holds: holds, ok: ok}
}

func sameBodyCalls(x, y []bodyCall) bool {
	return slices.EqualFunc(x, y, func(c, d bodyCall) bool {
		return c.name == d.name && slices.Equal(c.cells, d.cells) && slices.Equal(c.places, d.places) && slices.Equal(c.numbers, d.numbers) &&
			c.holds == d.holds && c.ok == d.ok
	})
}

func TestFunctionsFailWithoutABody(t *testing.T) {
	for _, bad := range badBodies() {
		for _, side := range []int{-1, 1, 0} {
			for _, c := range bodyOnlyCalls(bad, side) {
				if c.ok || !c.zero() {
					t.Errorf("%s(%v): %+v", c.name, bad[:min(len(bad), 13)], c)
				}
			}
		}
	}
}

func scribbleBodyCall(c bodyCall) {
	scribble(c.places[:cap(c.places)])
	cells := c.cells[:cap(c.cells)]
	for i := range cells {
		cells[i] = [2]int{-7, -7}
	}
}

// Promise 13: results for all arguments, the same ones again, and the arguments as they were, also beyond their length.
func TestBodyFunctionsReturnAndLeaveTheirArguments(t *testing.T) {
	numbers := []int{0, 1, -1, 2, 12, -12, 13, math.MaxInt, math.MinInt}
	bodies := slices.Concat(smallBodies(), knownBodies(), manyBodies()[120:200], badBodies()[:90])
	for k, body := range bodies {
		n := numbers[k%len(numbers)]
		other := bodies[(k+7)%len(bodies)]
		whole := slices.Concat(body, [][2]int{{0, 1}, {1, 1}})
		before := slices.Clone(whole)
		given := whole[:len(body)]
		all := func(cells [][2]int) []bodyCall {
			count, standing, ok := impl.CountBodies(n)
			return append(bodyCalls(cells, n), stackCall(cells, other, n), stackCall(other, cells, n), stackCall(cells, cells, 0),
				stackCall(cells, [][2]int{{0, 0}}, 0), bodyCall{name: "CountBodies", numbers: []int{count, standing}, ok: ok})
		}
		want, calls := all(slices.Clone(body)), all(given)
		if !sameBodyCalls(calls, want) {
			t.Fatalf("other results of the same body %v with %d", body, n)
		}
		for _, c := range calls {
			if !c.ok && !c.zero() {
				t.Fatalf("%s fails with %+v", c.name, c)
			}
			scribbleBodyCall(c)
		}
		if !slices.Equal(whole, before) {
			t.Fatalf("the body %v became %v", before, whole)
		}
		if !sameBodyCalls(all(given), want) {
			t.Fatalf("other results of %v with %d again", body, n)
		}
	}
}
