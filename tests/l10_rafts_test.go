package tests

import (
	"math"
	"math/big"
	"slices"
	"testing"

	"loop.example/g01159/impl"
)

func raftOf(a, b, own int) impl.Raft { return impl.Raft{A: a, B: b, Own: own} }

// voyage is a Raft and its cargo.
type voyage struct {
	raft  impl.Raft
	cargo []impl.Load
}

// knownVoyages lists those without items, with a base of one place, with heavy items on one side, and those at the limits.
func knownVoyages() []voyage {
	return []voyage{
		{raftOf(2, 4, 2), nil}, {raftOf(0, 0, 1), []impl.Load{}}, {raftOf(0, 60, 99), nil}, {raftOf(30, 30, 1), rowOf(30, 99)}, {raftOf(30, 30, 99), rowOf(31, 1)},
		{raftOf(30, 30, 99), rowOf(29, 1, 31, 1)}, {raftOf(30, 30, 99), rowOf(29, 1, 30, 5, 31, 1)}, {raftOf(30, 30, 1), rowOf(30, 5, 30, 7, 30, 9)},
		{raftOf(30, 30, 50), rowOf(28, 1, 31, 2, 29, 3, 33, 1)}, {raftOf(0, 0, 99), rowOf(0, 1, 0, 1, 1, 1)}, {raftOf(60, 60, 1), rowOf(60, 99, 60, 99)},
		{raftOf(20, 40, 1), rowOf(41, 99)}, {raftOf(20, 40, 10), rowOf(41, 99)}, {raftOf(20, 40, 5), rowOf(60, 1, 60, 1, 60, 1)}, {raftOf(20, 40, 99), rowOf(60, 99, 60, 99, 60, 99, 0, 99)},
		{raftOf(20, 40, 99), rowOf(0, 50, 0, 50, 60, 50, 60, 50)}, {raftOf(20, 40, 99), rowOf(0, 50, 60, 50, 0, 50, 60, 50, 0, 50, 60, 50, 0, 50, 60, 50)},
		{raftOf(0, 60, 99), repeatLoad(8, 60, 99)}, {raftOf(0, 60, 1), repeatLoad(8, 0, 99)}, {raftOf(0, 1, 99), repeatLoad(8, 60, 99)}, {raftOf(59, 60, 99), repeatLoad(8, 0, 99)},
		{raftOf(20, 21, 4), rowOf(22, 2, 19, 2, 22, 2, 19, 2)}, {raftOf(2, 4, 2), rowOf(0, 1, 6, 1, 8, 1)},
		{raftOf(29, 31, 10), rowOf(27, 1, 20, 1, 46, 1)}, {raftOf(10, 14, 5), rowOf(12, 9, 16, 5, 8, 5, 16, 5, 8, 5, 12, 1, 15, 10, 9, 10)},
	}
}

// manyVoyages lists the known ones and others of all sizes, always the same ones.
func manyVoyages(count int) []voyage {
	next := numbersFrom(10)
	voyages := knownVoyages()
	for n := range count {
		size := n % (impl.MaxCargo + 1)
		if n%2 == 1 {
			voyages = append(voyages, tightVoyage(next, size))
			continue
		}
		span := []int{0, 1, 2, 4, 7}[next(5)]
		a := 8 + next(40)
		r := raftOf(a, a+span, 1+next([]int{5, 30, 99}[next(3)]))
		heaviest := []int{2, 8, 30}[next(3)]
		cargo := make([]impl.Load, size)
		for i := range cargo {
			cargo[i] = impl.Load{Place: max(0, min(60, a-5+next(span+11))), Weight: 1 + next(heaviest)}
			if span == 0 && i%2 == 1 {
				// What this item is beyond one side, the last one is beyond the other side.
				cargo[i] = impl.Load{Place: 2*a - cargo[i-1].Place, Weight: cargo[i-1].Weight}
			}
		}
		voyages = append(voyages, voyage{r, cargo})
	}
	return voyages
}

// tightVoyage has items far out on both sides. Some of them can be on the Raft only with those of the other side, so that it matters which ones come first.
func tightVoyage(next func(int) int, size int) voyage {
	own := 60 + next(40)
	cargo := make([]impl.Load, size)
	for i := range cargo {
		far := 3 + next(15)
		cargo[i] = impl.Load{Place: 31 + far, Weight: max(1, own*(1+next(25))/(10*far))}
		if i%2 == 0 {
			cargo[i].Place = 29 - far
		}
	}
	return voyage{raftOf(29, 31, own), cargo}
}

func badRafts() []impl.Raft {
	rafts := []impl.Raft{{}, {Own: -1}, {Own: 100}, {A: 2, B: 4}, {A: 4, B: 2, Own: 1}, {A: 60, B: 0, Own: 99}}
	for _, base := range badBases() {
		rafts = append(rafts, raftOf(base[0], base[1], 1), raftOf(base[0], base[1], 99))
	}
	for _, n := range append(hugeNumbers(), 0, -1, 100, -99) {
		rafts = append(rafts, raftOf(0, 60, n), raftOf(30, 30, n), raftOf(n, n, n))
	}
	return rafts
}

// badCargo are no rows, and rows of more Loads than a Raft takes.
func badCargo() [][]impl.Load {
	return append(badRows(), repeatLoad(9, 30, 1), repeatLoad(impl.MaxLoads, 30, 1), rowOf(30, 1, 30, 1, 30, 1, 30, 1, 30, 1, 30, 1, 30, 1, 30, 100), rowOf(0, 1, 1, 0))
}

// badSets are no sets of n items.
func badSets(n int) [][]int {
	sets := [][]int{{n}, {-1}, {0, 0}, {1, 0}, {0, n}, {-1, 0}, {n - 1, n}, make([]int, n+1), make([]int, 1<<16), append(numbersBelow(n), n)}
	if n > 1 {
		sets = append(sets, []int{n - 1, 0}, []int{n - 1, n - 1}, slices.Insert(numbersBelow(n), 1, 0))
	}
	for _, huge := range hugeNumbers() {
		sets = append(sets, []int{huge}, []int{0, huge}, []int{huge, 0}, []int{huge, huge + 1})
	}
	return sets
}

// badOrders are no orders of n items.
func badOrders(n int) [][]int {
	orders := [][]int{append(numbersBelow(n), n), append(numbersBelow(n), 0), make([]int, n+1), make([]int, n+2), make([]int, 1<<16), slices.Repeat([]int{-1}, n+1)}
	for i := range n {
		for _, wrong := range append(hugeNumbers(), n, -1, (i+1)%n) {
			order := numbersBelow(n)
			order[i] = wrong
			if wrong != i {
				orders = append(orders, order)
			}
		}
		orders = append(orders, slices.Delete(numbersBelow(n), i, i+1))
	}
	return orders
}

func numbersBelow(n int) []int {
	numbers := []int{}
	for i := range n {
		numbers = append(numbers, i)
	}
	return numbers
}

// The definitions of the chapter, told once more. Sets of items are the bits of a number.

func itemsOf(bits int) []int {
	var items []int
	for i := 0; bits>>i > 0; i++ {
		if bits>>i&1 == 1 {
			items = append(items, i)
		}
	}
	return items
}

// raftCentre returns the centre of a set of items and the own weight.
func raftCentre(v voyage, set []int) *big.Rat {
	weight := big.NewRat(int64(v.raft.Own), 1)
	moment := big.NewRat(int64(v.raft.Own*(v.raft.A+v.raft.B)), 2)
	for _, i := range set {
		weight.Add(weight, ratOf(v.cargo[i].Weight))
		moment.Add(moment, ratOf(v.cargo[i].Weight*v.cargo[i].Place))
	}
	return moment.Quo(moment, weight)
}

// sidesByDefinition returns the side to which the Raft tips with each set.
func sidesByDefinition(v voyage) []int {
	sides := make([]int, 1<<len(v.cargo))
	for bits := range sides {
		weight, twice := v.raft.Own, v.raft.Own*(v.raft.A+v.raft.B)
		for _, i := range itemsOf(bits) {
			weight, twice = weight+v.cargo[i].Weight, twice+2*v.cargo[i].Weight*v.cargo[i].Place
		}
		switch {
		case twice < 2*v.raft.A*weight:
			sides[bits] = -1
		case twice > 2*v.raft.B*weight:
			sides[bits] = 1
		}
	}
	return sides
}

// eachItemOrder gives all orders of n items in lexicographic order.
func eachItemOrder(n int, give func(order []int)) {
	var choose func(order []int)
	choose = func(order []int) {
		if len(order) == n {
			give(order)
			return
		}
		for i := range n {
			if !slices.Contains(order, i) {
				choose(append(order, i))
			}
		}
	}
	choose(make([]int, 0, n))
}

// tipByDefinition returns how many items of an order are on the Raft when it tips first, or -1.
func tipByDefinition(sides []int, order []int) int {
	bits := 0
	for k, i := range order {
		bits |= 1 << i
		if sides[bits] != 0 {
			return k + 1
		}
	}
	return -1
}

// canBeUnloaded reports whether all sets that are left by an order are safe.
func canBeUnloaded(sides []int, order []int) bool {
	bits := len(sides) - 1
	if sides[bits] != 0 {
		return false
	}
	for _, i := range order {
		bits &^= 1 << i
		if sides[bits] != 0 {
			return false
		}
	}
	return true
}

// ordersByDefinition returns the number of safe orders, and the first one.
func ordersByDefinition(v voyage) (count int, first []int) {
	sides := sidesByDefinition(v)
	eachItemOrder(len(v.cargo), func(order []int) {
		if tipByDefinition(sides, order) >= 0 {
			return
		}
		if count == 0 {
			first = slices.Clone(order)
		}
		count++
	})
	return count, first
}

// unloadByDefinition returns the first order to take all items, if there is one.
func unloadByDefinition(v voyage) ([]int, bool) {
	sides := sidesByDefinition(v)
	var first []int
	found := false
	eachItemOrder(len(v.cargo), func(order []int) {
		if !found && canBeUnloaded(sides, order) {
			first, found = slices.Clone(order), true
		}
	})
	return first, found
}

// canGoOn reports whether all items can be loaded on behind a set, one at a time.
func canGoOn(sides []int, bits int) bool {
	if sides[bits] != 0 {
		return false
	}
	if bits == len(sides)-1 {
		return true
	}
	for one := 1; one < len(sides); one <<= 1 {
		if bits&one == 0 && canGoOn(sides, bits|one) {
			return true
		}
	}
	return false
}

// pairsByDefinition returns the least number of steps behind a set, or more than MaxCargo.
func pairsByDefinition(sides []int, bits int) int {
	if sides[bits] != 0 {
		return math.MaxInt32
	}
	if bits == len(sides)-1 {
		return 0
	}
	least := math.MaxInt32
	for one := 1; one < len(sides); one <<= 1 {
		for other := one; other < len(sides); other <<= 1 {
			if bits&(one|other) == 0 {
				least = min(least, 1+pairsByDefinition(sides, bits|one|other))
			}
		}
	}
	return least
}

func ownByDefinition(v voyage) (int, bool) {
	for own := 1; own <= 99; own++ {
		v.raft.Own = own
		if canGoOn(sidesByDefinition(v), 0) {
			return own, true
		}
	}
	return 0, false
}

func hardestByDefinition(v voyage) (int, bool) {
	hardest, most := 0, -1
	for i := range v.cargo {
		count, _ := ordersByDefinition(voyage{v.raft, slices.Delete(slices.Clone(v.cargo), i, i+1)})
		if count > most {
			hardest, most = i, count
		}
	}
	return hardest, most >= 0
}

func TestIsRaft(t *testing.T) {
	for a := -2; a <= 62; a++ {
		for b := -2; b <= 62; b++ {
			for _, own := range []int{-1, 0, 1, 2, 50, 98, 99, 100, 101} {
				want := a >= 0 && a <= b && b <= 60 && own >= 1 && own <= 99
				if is := impl.IsRaft(raftOf(a, b, own)); is != want {
					t.Errorf("IsRaft of %d, %d, %d is %v", a, b, own, is)
				}
			}
		}
	}
	for _, r := range badRafts() {
		if impl.IsRaft(r) {
			t.Errorf("IsRaft(%v) is true", r)
		}
	}
}

// The voyages would not test much if all of them had safe orders, or none.
func TestVoyagesDiffer(t *testing.T) {
	var none, some, all, stuck, leftTips, rightTips int
	for _, v := range manyVoyages(300) {
		sides := sidesByDefinition(v)
		leftTips += asInt(slices.Contains(sides, -1))
		rightTips += asInt(slices.Contains(sides, 1))
		count, first := ordersByDefinition(v)
		orders := 0
		eachItemOrder(len(v.cargo), func([]int) { orders++ })
		switch {
		case count == 0:
			none++
		case count == orders:
			all++
		default:
			some++
			// Taking the least item that is safe now does not lead to the first order.
			stuck += asInt(!slices.Equal(first, greedyOrder(sides)))
		}
	}
	if min(none, some, all, leftTips, rightTips) < 50 || stuck < 5 {
		t.Errorf("voyages with no safe order %d, some %d, all %d, with sets that tip %d, %d, and misled %d", none, some, all, leftTips, rightTips, stuck)
	}
}

// greedyOrder takes the least item with which the set is safe, as long as there is one.
func greedyOrder(sides []int) []int {
	var order []int
	for bits, one := 0, 1; one < len(sides); {
		if bits&one == 0 && sides[bits|one] == 0 {
			for i := range 9 {
				if one == 1<<i {
					order = append(order, i)
				}
			}
			bits, one = bits|one, 1
			continue
		}
		one <<= 1
	}
	return order
}

func TestRaftSideAndRaftReserve(t *testing.T) {
	for _, v := range manyVoyages(200) {
		for bits, want := range sidesByDefinition(v) {
			set := itemsOf(bits)
			centre := raftCentre(v, set)
			if byCentre := centreSide(centre, v.raft); byCentre != want {
				t.Fatalf("the definitions differ for %v of %v: %d, %d", set, v, byCentre, want)
			}
			if side, ok := impl.RaftSide(v.raft, v.cargo, set); !ok || side != want {
				t.Errorf("RaftSide(%v, %v, %v) = %d, %v; want %d", v.raft, v.cargo, set, side, ok, want)
			}
			own := v.raft.Own * (v.raft.B - v.raft.A)
			wantLeft := 2*momentOfLoads(v.cargo, v.raft.A, set, false) + own
			wantRight := -2*momentOfLoads(v.cargo, v.raft.B, set, false) + own
			left, right, ok := impl.RaftReserve(v.raft, v.cargo, set)
			if !ok || left != wantLeft || right != wantRight {
				t.Errorf("RaftReserve(%v, %v, %v) = %d, %d, %v; want %d, %d", v.raft, v.cargo, set, left, right, ok, wantLeft, wantRight)
			}
			if (want == 0) != (left >= 0 && right >= 0) || want == -1 != (left < 0) {
				t.Errorf("RaftReserve(%v, %v, %v) = %d, %d for the side %d", v.raft, v.cargo, set, left, right, want)
			}
		}
	}
}

func centreSide(centre *big.Rat, r impl.Raft) int {
	switch {
	case centre.Cmp(ratOf(r.A)) < 0:
		return -1
	case centre.Cmp(ratOf(r.B)) > 0:
		return 1
	}
	return 0
}

func TestKnownReserves(t *testing.T) {
	cases := []struct {
		v                 voyage
		set               []int
		side, left, right int
	}{
		{voyage{raftOf(2, 4, 2), nil}, nil, 0, 4, 4}, {voyage{raftOf(30, 30, 99), nil}, []int{}, 0, 0, 0}, {voyage{raftOf(30, 30, 99), rowOf(29, 1, 31, 1)}, []int{0}, -1, -2, 2},
		{voyage{raftOf(30, 30, 99), rowOf(29, 1, 31, 1)}, []int{1}, 1, 2, -2}, {voyage{raftOf(30, 30, 99), rowOf(29, 1, 31, 1)}, []int{0, 1}, 0, 0, 0},
		// The centre is A or B, or just beyond.
		{voyage{raftOf(20, 40, 1), rowOf(19, 10, 41, 10)}, []int{0}, 0, 0, 440}, {voyage{raftOf(20, 40, 1), rowOf(19, 10, 41, 10)}, []int{1}, 0, 440, 0},
		{voyage{raftOf(20, 40, 1), rowOf(19, 11, 41, 11)}, []int{0}, -1, -2, 482}, {voyage{raftOf(20, 40, 1), rowOf(19, 11, 41, 11)}, []int{1}, 1, 482, -2},
		// The middle between A and B is no place.
		{voyage{raftOf(20, 21, 4), rowOf(22, 2)}, []int{0}, 0, 12, 0}, {voyage{raftOf(20, 21, 4), rowOf(19, 2)}, []int{0}, 0, 0, 12}, {voyage{raftOf(20, 21, 3), rowOf(22, 2)}, []int{0}, 1, 11, -1},
		{voyage{raftOf(0, 60, 99), repeatLoad(8, 60, 99)}, []int{0, 1, 2, 3, 4, 5, 6, 7}, 0, 100980, 5940}, {voyage{raftOf(60, 60, 1), repeatLoad(8, 0, 99)}, []int{0, 1, 2, 3, 4, 5, 6, 7}, -1, -95040, 95040},
	}
	for _, c := range cases {
		side, sideOK := impl.RaftSide(c.v.raft, c.v.cargo, c.set)
		left, right, ok := impl.RaftReserve(c.v.raft, c.v.cargo, c.set)
		if !sideOK || !ok || side != c.side || left != c.left || right != c.right {
			t.Errorf("%v with %v: %d, %d, %d, %v, %v; want %d, %d, %d", c.v, c.set, side, left, right, sideOK, ok, c.side, c.left, c.right)
		}
	}
}

func TestSafeSets(t *testing.T) {
	for _, v := range manyVoyages(300) {
		want := 0
		for _, side := range sidesByDefinition(v) {
			want += asInt(side == 0)
		}
		if count, ok := impl.SafeSets(v.raft, v.cargo); !ok || count != want {
			t.Errorf("SafeSets(%v, %v) = %d, %v; want %d", v.raft, v.cargo, count, ok, want)
		}
	}
}

func TestIsSafeOrderAndFirstTip(t *testing.T) {
	for _, v := range manyVoyages(200) {
		sides := sidesByDefinition(v)
		number := 0
		eachItemOrder(len(v.cargo), func(order []int) {
			number++
			if len(order) > 5 && number%(1<<len(order)+1) != 1 {
				return
			}
			want := tipByDefinition(sides, order)
			if safe, ok := impl.IsSafeOrder(v.raft, v.cargo, order); !ok || safe != (want < 0) {
				t.Errorf("IsSafeOrder(%v, %v, %v) = %v, %v", v.raft, v.cargo, order, safe, ok)
			}
			if tip, ok := impl.FirstTip(v.raft, v.cargo, order); ok != (want > 0) || tip != max(want, 0) {
				t.Errorf("FirstTip(%v, %v, %v) = %d, %v; want %d", v.raft, v.cargo, order, tip, ok, want)
			}
		})
	}
}

// With a part of the guarantee: CountSafe is 0 exactly if SafeOrder fails, and the first item of SafeOrder is the first one of SafeStep for no items.
func TestCountSafeAndSafeOrder(t *testing.T) {
	for _, v := range manyVoyages(300) {
		wantCount, want := ordersByDefinition(v)
		count, countOK := impl.CountSafe(v.raft, v.cargo)
		order, ok := impl.SafeOrder(v.raft, v.cargo)
		if !countOK || count != wantCount || ok != (wantCount > 0) || !slices.Equal(order, want) {
			t.Errorf("%v has %d safe orders, %v, and first %v, %v; want %d and %v", v, count, countOK, order, ok, wantCount, want)
		}
		items, stepOK := impl.SafeStep(v.raft, v.cargo, nil)
		if !stepOK || len(items) > 0 != (ok && len(v.cargo) > 0) {
			t.Errorf("SafeStep(%v, %v, []) = %v, %v beside the order %v, %v", v.raft, v.cargo, items, stepOK, order, ok)
		} else if len(items) > 0 && items[0] != order[0] {
			t.Errorf("the order %v of %v does not begin with the first one of %v", order, v, items)
		}
	}
}

func TestSafeStep(t *testing.T) {
	for _, v := range manyVoyages(300) {
		sides := sidesByDefinition(v)
		for bits, side := range sides {
			var want []int
			for i := range v.cargo {
				if bits>>i&1 == 0 && canGoOn(sides, bits|1<<i) {
					want = append(want, i)
				}
			}
			if side != 0 {
				want = nil
			}
			if items, ok := impl.SafeStep(v.raft, v.cargo, itemsOf(bits)); ok != (side == 0) || !slices.Equal(items, want) {
				t.Errorf("SafeStep(%v, %v, %v) = %v, %v; want %v", v.raft, v.cargo, itemsOf(bits), items, ok, want)
			}
		}
	}
}

// Promise 10: there is a safe order exactly if the cargo can be taken again in a safe way. With a part of the guarantee: a safe order backwards is such a way.
func TestCargoIsTakenAgainExactlyIfItIsLoaded(t *testing.T) {
	for _, v := range manyVoyages(300) {
		want, wantOK := unloadByDefinition(v)
		out, ok := impl.UnloadOrder(v.raft, v.cargo)
		if ok != wantOK || !slices.Equal(out, want) {
			t.Errorf("UnloadOrder(%v, %v) = %v, %v; want %v, %v", v.raft, v.cargo, out, ok, want, wantOK)
		}
		order, loaded := impl.SafeOrder(v.raft, v.cargo)
		if loaded != ok {
			t.Errorf("%v is loaded as %v, %v, but taken as %v, %v", v, order, loaded, out, ok)
		}
		if !ok {
			continue
		}
		slices.Reverse(out)
		if safe, valid := impl.IsSafeOrder(v.raft, v.cargo, out); !safe || !valid {
			t.Errorf("%v of %v backwards is no safe order: %v, %v", out, v, safe, valid)
		}
		slices.Reverse(order)
		if !canBeUnloaded(sidesByDefinition(v), order) {
			t.Errorf("%v of %v is no way to take the cargo", order, v)
		}
	}
}

func TestLeastOwn(t *testing.T) {
	found, none := 0, 0
	for _, v := range manyVoyages(150) {
		want, wantOK := ownByDefinition(v)
		found, none = found+asInt(want > 1), none+asInt(!wantOK)
		// Own does not matter.
		for _, own := range []int{v.raft.Own, 1, 99} {
			r := raftOf(v.raft.A, v.raft.B, own)
			if least, ok := impl.LeastOwn(r, v.cargo); ok != wantOK || least != want {
				t.Errorf("LeastOwn(%v, %v) = %d, %v; want %d, %v", r, v.cargo, least, ok, want, wantOK)
			}
		}
		// With each greater one there is a safe order, and with each less one there is none.
		for own := 1; own <= 99; own += 1 + own%7 {
			if count, ok := impl.CountSafe(raftOf(v.raft.A, v.raft.B, own), v.cargo); !ok || count > 0 != (wantOK && own >= want) {
				t.Errorf("%v with the own weight %d has %d safe orders, %v; the least one is %d, %v", v, own, count, ok, want, wantOK)
			}
		}
	}
	if found < 20 || none < 20 {
		t.Errorf("%d voyages need an own weight, and %d have none", found, none)
	}
	cases := []struct {
		v     voyage
		least int
	}{
		{voyage{raftOf(20, 40, 7), nil}, 1}, {voyage{raftOf(20, 40, 7), rowOf(41, 99)}, 10}, {voyage{raftOf(20, 40, 7), rowOf(41, 99, 20, 1)}, 8}, {voyage{raftOf(20, 40, 7), rowOf(60, 1, 60, 1, 60, 1)}, 6},
		// The least one is MaxOwn, or would be one more.
		{voyage{raftOf(0, 2, 1), rowOf(3, 99)}, 99}, {voyage{raftOf(0, 1, 1), rowOf(2, 49, 0, 1)}, 96}, {voyage{raftOf(0, 2, 1), rowOf(3, 99, 3, 1)}, 0}, {voyage{raftOf(0, 2, 1), rowOf(3, 99, 0, 1)}, 97}, {voyage{raftOf(30, 30, 99), rowOf(31, 1)}, 0},
		{voyage{raftOf(30, 30, 99), rowOf(30, 1)}, 1}, {voyage{raftOf(0, 60, 99), repeatLoad(8, 60, 99)}, 1},
	}
	for _, c := range cases {
		if least, ok := impl.LeastOwn(c.v.raft, c.v.cargo); ok != (c.least > 0) || least != c.least {
			t.Errorf("LeastOwn(%v, %v) = %d, %v; want %d", c.v.raft, c.v.cargo, least, ok, c.least)
		}
	}
}

func TestPairSteps(t *testing.T) {
	withPairsOnly, none := 0, 0
	for _, v := range manyVoyages(120) {
		sides := sidesByDefinition(v)
		want := pairsByDefinition(sides, 0)
		wantOK := want <= impl.MaxCargo
		if !wantOK {
			want = 0
		}
		none += asInt(!wantOK)
		withPairsOnly += asInt(wantOK && !canGoOn(sides, 0))
		if steps, ok := impl.PairSteps(v.raft, v.cargo); ok != wantOK || steps != want {
			t.Errorf("PairSteps(%v, %v) = %d, %v; want %d, %v", v.raft, v.cargo, steps, ok, want, wantOK)
		}
	}
	if withPairsOnly < 5 || none < 20 {
		t.Errorf("%d voyages need pairs, and %d cannot be loaded", withPairsOnly, none)
	}
}

func TestHardestItem(t *testing.T) {
	for _, v := range manyVoyages(200) {
		want, wantOK := hardestByDefinition(v)
		if item, ok := impl.HardestItem(v.raft, v.cargo); ok != wantOK || item != want {
			t.Errorf("HardestItem(%v, %v) = %d, %v; want %d, %v", v.raft, v.cargo, item, ok, want, wantOK)
		}
	}
}

// knownOrders is what the functions tell of a voyage, -1 and nil where they fail; tip is FirstTip of the ascending order, and first SafeStep for no items.
type knownOrders struct {
	v                                     voyage
	sets, count, own, pairs, hardest, tip int
	order, first, out                     []int
}

func TestKnownOrders(t *testing.T) {
	all := numbersBelow(8)
	cases := []knownOrders{
		{voyage{raftOf(2, 4, 2), nil}, 1, 1, 1, 0, -1, -1, []int{}, nil, []int{}}, {voyage{raftOf(30, 30, 1), []impl.Load{}}, 1, 1, 1, 0, -1, -1, []int{}, nil, []int{}},
		{voyage{raftOf(2, 4, 2), rowOf(0, 1, 6, 1, 8, 1)}, 6, 3, 2, 2, 2, -1, []int{0, 1, 2}, []int{0, 1}, []int{1, 2, 0}},
		{voyage{raftOf(30, 30, 99), rowOf(30, 5)}, 2, 1, 1, 1, 0, -1, []int{0}, []int{0}, []int{0}}, {voyage{raftOf(30, 30, 99), rowOf(31, 5)}, 1, 0, -1, -1, 0, 1, nil, nil, nil},
		// Only both together leave a base of one place level.
		{voyage{raftOf(30, 30, 99), rowOf(29, 1, 31, 1)}, 2, 0, -1, 1, 0, 1, nil, nil, nil}, {voyage{raftOf(30, 30, 99), rowOf(29, 1, 30, 5, 31, 1)}, 4, 0, -1, 2, 0, 1, nil, nil, nil},
		{voyage{raftOf(30, 30, 99), rowOf(30, 5, 31, 1)}, 2, 0, -1, -1, 1, 2, nil, nil, nil}, {voyage{raftOf(30, 30, 1), repeatLoad(8, 30, 7)}, 256, 40320, 1, 4, 0, -1, all, all, all},
		// Of heavy ones, a second one on one side needs one on the other side before it.
		{voyage{raftOf(20, 40, 10), rowOf(50, 10, 50, 10, 10, 10, 10, 10)}, 14, 16, 10, 2, 0, 2, []int{0, 2, 1, 3}, []int{0, 1, 2, 3}, []int{0, 2, 1, 3}},
		{voyage{raftOf(20, 40, 9), rowOf(50, 10, 50, 10, 10, 10, 10, 10)}, 10, 0, 10, 2, 0, 1, nil, nil, nil},
		// The first item alone is safe, but no other one can be loaded behind it.
		{voyage{raftOf(29, 31, 10), rowOf(27, 1, 20, 1, 46, 1)}, 5, 1, 9, 2, 0, 2, []int{1, 2, 0}, []int{1}, []int{0, 2, 1}},
		// With the own weight that is just enough, or one less.
		{voyage{raftOf(20, 40, 98), rowOf(50, 49, 50, 49)}, 4, 2, 98, 1, 0, -1, []int{0, 1}, []int{0, 1}, []int{0, 1}}, {voyage{raftOf(20, 40, 97), rowOf(50, 49, 50, 49)}, 3, 0, 98, -1, 0, 2, nil, nil, nil},
	}
	for _, c := range cases {
		expectKnownOrders(t, c)
	}
	dead, ok := impl.SafeStep(raftOf(29, 31, 10), rowOf(27, 1, 20, 1, 46, 1), []int{0})
	if !ok || len(dead) != 0 {
		t.Errorf("behind the item that leads to no order, there are %v, %v", dead, ok)
	}
}

func expectKnownOrders(t *testing.T, c knownOrders) {
	t.Helper()
	r, cargo, ascending := c.v.raft, c.v.cargo, numbersBelow(len(c.v.cargo))
	orFail := func(n int, ok bool) int {
		if !ok {
			return -1
		}
		return n
	}
	got := []int{
		orFail(impl.SafeSets(r, cargo)), orFail(impl.CountSafe(r, cargo)), orFail(impl.LeastOwn(r, cargo)), orFail(impl.PairSteps(r, cargo)), orFail(impl.HardestItem(r, cargo)),
		orFail(impl.FirstTip(r, cargo, ascending)),
	}
	if want := []int{c.sets, c.count, c.own, c.pairs, c.hardest, c.tip}; !slices.Equal(got, want) {
		t.Errorf("%v has %v; want %v", c.v, got, want)
	}
	if safe, ok := impl.IsSafeOrder(r, cargo, ascending); !ok || safe != (c.tip < 0) {
		t.Errorf("%v in ascending order is safe: %v, %v", c.v, safe, ok)
	}
	order, ok := impl.SafeOrder(r, cargo)
	out, outOK := impl.UnloadOrder(r, cargo)
	first, firstOK := impl.SafeStep(r, cargo, nil)
	if ok != (c.order != nil) || outOK != ok || !firstOK || !slices.Equal(order, c.order) || !slices.Equal(out, c.out) || !slices.Equal(first, c.first) {
		t.Errorf("%v is loaded as %v, %v, from %v, %v, and taken as %v, %v; want %v", c.v, order, ok, first, firstOK, out, outOK, c)
	}
	// Behind all items there is none left to load.
	side, _ := impl.RaftSide(r, cargo, ascending)
	if rest, ok := impl.SafeStep(r, cargo, ascending); ok != (side == 0) || len(rest) != 0 {
		t.Errorf("%v with all items goes on with %v, %v", c.v, rest, ok)
	}
}

// raftCall is one call of a function of this chapter: what it returns, as one value each way.
type raftCall struct {
	name    string
	list    []int
	numbers []int
	is      bool
	ok      bool
}

func (c raftCall) zero() bool {
	return len(c.list) == 0 && !c.is && !slices.ContainsFunc(c.numbers, func(n int) bool { return n != 0 })
}

// cargoCalls calls all functions that have a Raft and cargo only.
func cargoCalls(r impl.Raft, cargo []impl.Load) []raftCall {
	sets, setsOK := impl.SafeSets(r, cargo)
	count, countOK := impl.CountSafe(r, cargo)
	order, orderOK := impl.SafeOrder(r, cargo)
	out, outOK := impl.UnloadOrder(r, cargo)
	own, ownOK := impl.LeastOwn(r, cargo)
	pairs, pairsOK := impl.PairSteps(r, cargo)
	hardest, hardestOK := impl.HardestItem(r, cargo)
	return []raftCall{
		{name: "SafeSets", numbers: []int{sets}, ok: setsOK}, {name: "CountSafe", numbers: []int{count}, ok: countOK}, {name: "SafeOrder", list: order, ok: orderOK},
		{name: "UnloadOrder", list: out, ok: outOK}, {name: "LeastOwn", numbers: []int{own}, ok: ownOK}, {name: "PairSteps", numbers: []int{pairs}, ok: pairsOK},
		{name: "HardestItem", numbers: []int{hardest}, ok: hardestOK},
	}
}

// setCalls calls all functions that have a set.
func setCalls(r impl.Raft, cargo []impl.Load, set []int) []raftCall {
	side, sideOK := impl.RaftSide(r, cargo, set)
	left, right, reserveOK := impl.RaftReserve(r, cargo, set)
	items, stepOK := impl.SafeStep(r, cargo, set)
	return []raftCall{
		{name: "RaftSide", numbers: []int{side}, ok: sideOK}, {name: "RaftReserve", numbers: []int{left, right}, ok: reserveOK}, {name: "SafeStep", list: items, ok: stepOK},
	}
}

// orderCalls calls all functions that have an order.
func orderCalls(r impl.Raft, cargo []impl.Load, order []int) []raftCall {
	safe, safeOK := impl.IsSafeOrder(r, cargo, order)
	tip, tipOK := impl.FirstTip(r, cargo, order)
	return []raftCall{{name: "IsSafeOrder", is: safe, ok: safeOK}, {name: "FirstTip", numbers: []int{tip}, ok: tipOK}}
}

func raftCalls(r impl.Raft, cargo []impl.Load, list []int) []raftCall {
	return slices.Concat(cargoCalls(r, cargo), setCalls(r, cargo, list), orderCalls(r, cargo, list))
}

func sameRaftCalls(x, y []raftCall) bool {
	return slices.EqualFunc(x, y, func(c, d raftCall) bool {
		return c.name == d.name && slices.Equal(c.list, d.list) && slices.Equal(c.numbers, d.numbers) && c.is == d.is && c.ok == d.ok
	})
}

func expectRaftCallsFail(t *testing.T, with any, calls ...raftCall) {
	t.Helper()
	for _, c := range calls {
		if c.ok || !c.zero() {
			t.Errorf("%s with %v: %+v", c.name, with, c)
		}
	}
}

func TestFunctionsFailWithoutARaft(t *testing.T) {
	for _, r := range badRafts() {
		for _, v := range knownVoyages() {
			expectRaftCallsFail(t, r, raftCalls(r, v.cargo, numbersBelow(len(v.cargo)))...)
			expectRaftCallsFail(t, r, setCalls(r, v.cargo, nil)...)
		}
	}
}

func TestFunctionsFailWithoutCargo(t *testing.T) {
	for _, cargo := range badCargo() {
		for _, r := range []impl.Raft{raftOf(0, 60, 99), raftOf(30, 30, 1), raftOf(2, 4, 2)} {
			first := cargo[:min(len(cargo), 9)]
			expectRaftCallsFail(t, first, raftCalls(r, cargo, numbersBelow(len(cargo)))...)
			expectRaftCallsFail(t, first, setCalls(r, cargo, nil)...)
			expectRaftCallsFail(t, first, orderCalls(r, cargo, nil)...)
		}
	}
}

func TestFunctionsFailWithoutASetOrAnOrder(t *testing.T) {
	for _, v := range knownVoyages() {
		for _, set := range badSets(len(v.cargo)) {
			expectRaftCallsFail(t, set[:min(len(set), 9)], setCalls(v.raft, v.cargo, set)...)
		}
		for _, order := range badOrders(len(v.cargo)) {
			expectRaftCallsFail(t, order[:min(len(order), 9)], orderCalls(v.raft, v.cargo, order)...)
		}
	}
}

// Promise 13: results for all arguments, the same ones again, and the arguments as they were, also beyond their length.
func TestRaftFunctionsReturnAndLeaveTheirArguments(t *testing.T) {
	voyages := manyVoyages(60)
	for k, cargo := range badCargo() {
		voyages = append(voyages, voyage{voyages[k].raft, cargo})
	}
	for k, r := range badRafts() {
		voyages = append(voyages, voyage{r, voyages[k%len(knownVoyages())].cargo})
	}
	for k, v := range voyages {
		n := min(len(v.cargo), 9)
		lists := [][]int{numbersBelow(n), itemsOf(k % (1 << n)), badSets(n)[k%8], badOrders(n)[k%4], nil}
		backwards := numbersBelow(n)
		slices.Reverse(backwards)
		for _, list := range append(lists, backwards) {
			wholeCargo := slices.Concat(v.cargo, rowOf(30, 1, 31, 1))
			cargo, before := wholeCargo[:len(v.cargo)], slices.Clone(wholeCargo)
			given, whole := withNumbers(list)
			listBefore := slices.Clone(whole)
			want, calls := raftCalls(v.raft, slices.Clone(v.cargo), slices.Clone(list)), raftCalls(v.raft, cargo, given)
			if !sameRaftCalls(calls, want) {
				t.Fatalf("other results of the same arguments %v and %v", v, list)
			}
			for _, c := range calls {
				if !c.ok && !c.zero() {
					t.Fatalf("%s fails with %+v", c.name, c)
				}
				scribble(c.list[:cap(c.list)])
			}
			if !slices.Equal(wholeCargo, before) || !slices.Equal(whole, listBefore) {
				t.Fatalf("%v and %v became %v and %v", before, listBefore, wholeCargo, whole)
			}
			if !sameRaftCalls(raftCalls(v.raft, cargo, given), want) {
				t.Fatalf("other results of %v and %v again", v, list)
			}
		}
	}
}
