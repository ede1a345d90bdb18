package tests

import (
	"slices"
	"testing"

	"loop.example/tablesthatspread/impl"
)

// two returns two homes each of the numbers.
func two(numbers ...int) []impl.Homes {
	pairs := []impl.Homes{}
	for pair := range slices.Chunk(numbers, 2) {
		pairs = append(pairs, impl.Homes{A: pair[0], B: pair[1]})
	}
	return pairs
}

// chain returns the homes of n keys of which each pushes all those ahead of it
// to the end and back: 0 and 0, 0 and 1, 1 and 2, and so on.
func chain(n int) []impl.Homes {
	pairs := make([]impl.Homes, n)
	for key := range pairs {
		pairs[key] = impl.Homes{A: max(key-1, 0), B: key}
	}
	return pairs
}

// ringOf returns the homes of n keys, the slots round a ring of so many.
func ringOf(slots int, n int) []impl.Homes {
	pairs := make([]impl.Homes, n)
	for key := range pairs {
		pairs[key] = impl.Homes{A: key % slots, B: (key + 1) % slots}
	}
	return pairs
}

// exchanged returns the pairs with both homes of each key exchanged.
func exchanged(pairs []impl.Homes) []impl.Homes {
	others := make([]impl.Homes, len(pairs))
	for key, homes := range pairs {
		others[key] = impl.Homes{A: homes.B, B: homes.A}
	}
	return others
}

// allPairs visits all homes of few keys in small tables, and fixed samples of
// homes of up to MaxKeys keys in all tables, many of them with full groups.
func allPairs(visit func(m int, pairs []impl.Homes)) {
	for less, most := range []int{8, 5, 4, 3} {
		m := less + 1
		for n := range most + 1 {
			homesOf(m*m, n, func(codes []int) {
				pairs := make([]impl.Homes, n)
				for key, code := range codes {
					pairs[key] = impl.Homes{A: code / m, B: code % m}
				}
				visit(m, pairs)
			})
		}
	}
	next := samples()
	for m := 1; m <= impl.MaxSlots; m++ {
		for n := range impl.MaxKeys + 1 {
			for range 150 {
				slots, pairs := 1+next(m), make([]impl.Homes, n)
				for key := range pairs {
					pairs[key] = impl.Homes{A: next(slots), B: next(slots)}
				}
				visit(m, pairs)
			}
		}
	}
	for n := range impl.MaxKeys + 1 {
		visit(impl.MaxSlots, chain(n))
		for slots := 1; slots <= impl.MaxSlots; slots++ {
			visit(impl.MaxSlots, ringOf(slots, n))
		}
	}
}

// badPairs are arguments that are no two homes of keys each.
var badPairs = []struct {
	m     int
	pairs []impl.Homes
}{
	{0, nil},
	{0, two(0, 0)},
	{-1, nil},
	{-3, two(0, 0)},
	{impl.MaxSlots + 1, nil},
	{impl.MaxSlots + 1, two(0, 1)},
	{2, two(0, 2)},
	{2, two(2, 0)},
	{2, two(-1, 0)},
	{2, two(0, -1)},
	{3, two(0, 1, 1, 2, 3, 3)},
	{3, two(0, 1, 1, 2, 0, -1)},
	{3, two(0, 1, -1, 2, 0, 1)},
	{impl.MaxSlots, two(impl.MaxSlots, 0)},
	{impl.MaxSlots, two(0, impl.MaxSlots)},
	{impl.MaxSlots, chain(impl.MaxKeys + 1)},
	{1, make([]impl.Homes, impl.MaxKeys+1)},
}

// eachBadPairs visits the arguments that are no two homes of keys each, also
// those with numbers far out of range.
func eachBadPairs(visit func(m int, pairs []impl.Homes)) {
	for _, c := range badPairs {
		visit(c.m, c.pairs)
	}
	for _, n := range extremes {
		visit(n, nil)
		visit(n, two(0, 0))
		visit(3, two(n, 0))
		visit(3, two(0, n))
		visit(3, two(0, 1, n, n))
	}
}

// checkPlaces checks that just the keys are in the table of m slots, each once
// and in one of its homes.
func checkPlaces(t *testing.T, m int, pairs []impl.Homes, table []int) {
	t.Helper()
	if len(table) != m || len(keysIn(table)) != len(pairs) {
		t.Fatalf("%d slots, homes %v: the table is %v", m, pairs, table)
	}
	for key, homes := range pairs {
		if table[homes.A] != key && table[homes.B] != key {
			t.Fatalf("%d slots, homes %v: key %d has no home in %v", m, pairs, key, table)
		}
	}
}

// groupsByPaths returns the least slot to which there is a path of keys.
func groupsByPaths(m int, pairs []impl.Homes) []int {
	var joined [impl.MaxSlots][impl.MaxSlots]bool
	for _, homes := range pairs {
		joined[homes.A][homes.B], joined[homes.B][homes.A] = true, true
	}
	for by := range m {
		for from := range m {
			for to := range m {
				joined[from][to] = joined[from][to] || joined[from][by] && joined[by][to]
			}
		}
	}
	groups := make([]int, m)
	for slot := range groups {
		for groups[slot] != slot && !joined[slot][groups[slot]] {
			groups[slot]++
		}
	}
	return groups
}

// firstPlaces tries the homes of all keys, those with A for the first keys ahead.
func firstPlaces(m int, pairs []impl.Homes) ([]int, bool) {
choices:
	for choice := range 1 << len(pairs) {
		table := slices.Repeat([]int{-1}, m)
		for key, homes := range pairs {
			home := homes.A
			if choice>>(len(pairs)-1-key)&1 == 1 {
				home = homes.B
			}
			if table[home] != -1 {
				continue choices
			}
			table[home] = key
		}
		return table, true
	}
	return nil, false
}

// kicked pushes the keys, and also returns how many moves each key makes with
// those that it pushes.
func kicked(m int, pairs []impl.Homes) ([]int, []int, bool) {
	table, moves := slices.Repeat([]int{-1}, m), make([]int, len(pairs))
	for key, homes := range pairs {
		for moving, to := key, homes.A; moving != -1; moves[key]++ {
			if moves[key] == 30 {
				return nil, nil, false
			}
			table[to], moving = moving, table[to]
			if moving != -1 {
				to = pairs[moving].A + pairs[moving].B - to
			}
		}
	}
	return table, moves, true
}

func TestLimitsOfHomes(t *testing.T) {
	if impl.MaxSlots != 10 || impl.MaxKeys != 8 || impl.MaxMoves != 30 || impl.MaxPrint != 255 {
		t.Errorf("the limits are %d, %d, %d, %d", impl.MaxSlots, impl.MaxKeys, impl.MaxMoves, impl.MaxPrint)
	}
}

func TestP8HomesMayBeExchanged(t *testing.T) {
	allPairs(func(m int, pairs []impl.Homes) {
		if !impl.ValidPairs(m, pairs) || !impl.ValidPairs(m, exchanged(pairs)) {
			t.Fatalf("ValidPairs(%d, %v) or with homes exchanged = false", m, pairs)
		}
	})
	for m := 1; m <= impl.MaxSlots; m++ {
		if !impl.ValidPairs(m, nil) || !impl.ValidPairs(m, []impl.Homes{}) {
			t.Errorf("ValidPairs of %d slots and no keys = false", m)
		}
	}
	last := slices.Repeat(two(impl.MaxSlots-1, 0), impl.MaxKeys)
	if !impl.ValidPairs(impl.MaxSlots, last) || !impl.ValidPairs(impl.MaxSlots, exchanged(last)) {
		t.Error("ValidPairs of MaxKeys keys in MaxSlots slots = false")
	}
}

func TestP8PairsThatAreNone(t *testing.T) {
	eachBadPairs(func(m int, pairs []impl.Homes) {
		if impl.ValidPairs(m, pairs) || impl.ValidPairs(m, exchanged(pairs)) {
			t.Errorf("ValidPairs(%d, %v) or with homes exchanged = true", m, pairs)
		}
	})
}

func TestP9GroupsJoinHomes(t *testing.T) {
	allPairs(func(m int, pairs []impl.Homes) {
		groups := impl.GroupsOf(m, pairs)
		if !slices.Equal(groups, groupsByPaths(m, pairs)) {
			t.Fatalf("GroupsOf(%d, %v) = %v, not %v", m, pairs, groups, groupsByPaths(m, pairs))
		}
		for key, homes := range pairs {
			if groups[homes.A] != groups[homes.B] {
				t.Fatalf("GroupsOf(%d, %v) = %v parts the homes of key %d", m, pairs, groups, key)
			}
		}
		count := 0
		for slot, group := range groups {
			if group > slot || groups[group] != group {
				t.Fatalf("GroupsOf(%d, %v) = %v, with slot %d in %d", m, pairs, groups, slot, group)
			}
			if group == slot {
				count++
			}
		}
		if count < m-len(pairs) {
			t.Fatalf("GroupsOf(%d, %v) = %v, %d groups", m, pairs, groups, count)
		}
		if others := impl.GroupsOf(m, exchanged(pairs)); !slices.Equal(groups, others) {
			t.Fatalf("GroupsOf(%d, %v) = %v, with homes exchanged %v", m, pairs, groups, others)
		}
	})
}

func TestP9Groups(t *testing.T) {
	cases := []struct {
		m      int
		pairs  []impl.Homes
		groups []int
	}{
		{1, nil, []int{0}},
		{2, nil, []int{0, 1}},
		{10, nil, []int{0, 1, 2, 3, 4, 5, 6, 7, 8, 9}},
		{3, two(1, 1, 1, 1), []int{0, 1, 2}},
		{5, two(0, 2, 3, 4, 2, 4), []int{0, 1, 0, 0, 0}},
		{5, two(4, 3, 2, 1), []int{0, 1, 1, 3, 3}},
		// Groups that are joined by slots that are not their least ones.
		{6, two(5, 4, 3, 2, 1, 0, 4, 2, 3, 1), []int{0, 0, 0, 0, 0, 0}},
		{10, chain(8), []int{0, 0, 0, 0, 0, 0, 0, 0, 8, 9}},
		{10, two(9, 8, 8, 7, 7, 6, 6, 5, 5, 4, 4, 3, 3, 2, 2, 1), []int{0, 1, 1, 1, 1, 1, 1, 1, 1, 1}},
	}
	for _, c := range cases {
		if groups := impl.GroupsOf(c.m, c.pairs); !slices.Equal(groups, c.groups) {
			t.Errorf("GroupsOf(%d, %v) = %v", c.m, c.pairs, groups)
		}
	}
	eachBadPairs(func(m int, pairs []impl.Homes) {
		if groups := impl.GroupsOf(m, pairs); len(groups) != 0 {
			t.Errorf("GroupsOf(%d, %v) = %v", m, pairs, groups)
		}
	})
}

func TestP10RoomIsEnough(t *testing.T) {
	allPairs(func(m int, pairs []impl.Homes) {
		_, placed := impl.PlaceAll(m, pairs)
		_, there := firstPlaces(m, pairs)
		if roomy := impl.IsRoomy(m, pairs); roomy != placed || roomy != there {
			t.Fatalf("IsRoomy(%d, %v) = %t, PlaceAll is there: %t, a table: %t", m, pairs, roomy, placed, there)
		}
	})
}

func TestP10IsRoomy(t *testing.T) {
	cases := []struct {
		m     int
		pairs []impl.Homes
		roomy bool
	}{
		{1, nil, true},
		{10, nil, true},
		{1, two(0, 0), true},
		{1, two(0, 0, 0, 0), false},
		{3, two(0, 0, 0, 0), false},
		{2, two(0, 1, 0, 1), true},
		{2, two(0, 1, 0, 1, 1, 0), false},
		{3, two(0, 1, 0, 1, 1, 0), false},
		// Both groups are full, and then one of them has one more.
		{4, two(0, 2, 1, 3, 2, 0, 3, 1), true},
		{5, two(0, 2, 1, 3, 2, 0, 3, 1, 3, 3), false},
		{5, two(0, 2, 1, 3, 2, 0, 3, 1, 4, 4), true},
		{5, two(0, 2, 1, 3, 2, 0, 3, 1, 4, 3), true},
		{10, ringOf(8, 8), true},
		{10, ringOf(7, 8), false},
		{10, chain(8), true},
		{10, slices.Repeat(two(9, 9), 2), false},
	}
	for _, c := range cases {
		if impl.IsRoomy(c.m, c.pairs) != c.roomy {
			t.Errorf("IsRoomy(%d, %v) = %t", c.m, c.pairs, !c.roomy)
		}
	}
	eachBadPairs(func(m int, pairs []impl.Homes) {
		if impl.IsRoomy(m, pairs) {
			t.Errorf("IsRoomy(%d, %v) = true", m, pairs)
		}
	})
}

func TestP11EachKeyIsInOneOfItsHomes(t *testing.T) {
	allPairs(func(m int, pairs []impl.Homes) {
		table, ok := impl.PlaceAll(m, pairs)
		want, there := firstPlaces(m, pairs)
		if ok != there || !slices.Equal(table, want) {
			t.Fatalf("PlaceAll(%d, %v) = %v, %t, not %v, %t", m, pairs, table, ok, want, there)
		}
		if !ok {
			return
		}
		checkPlaces(t, m, pairs, table)
		if !impl.IsRoomy(m, pairs) {
			t.Fatalf("PlaceAll(%d, %v) = %v, and IsRoomy = false", m, pairs, table)
		}
	})
}

func TestP11PlaceAll(t *testing.T) {
	cases := []struct {
		m     int
		pairs []impl.Homes
		table []int
	}{
		{1, nil, []int{-1}},
		{3, nil, []int{-1, -1, -1}},
		{1, two(0, 0), []int{0}},
		{3, two(0, 1, 0, 2, 0, 1), []int{0, 2, 1}},
		{2, two(0, 1, 0, 1), []int{0, 1}},
		{2, two(1, 0, 1, 0), []int{1, 0}},
		// Key 0 gives way to key 1, both homes of which are the same.
		{2, two(0, 1, 0, 0), []int{1, 0}},
		{4, two(0, 1, 1, 2, 2, 3, 0, 0), []int{3, 0, 1, 2}},
		{10, ringOf(8, 8), []int{0, 1, 2, 3, 4, 5, 6, 7, -1, -1}},
		{10, exchanged(ringOf(8, 8)), []int{7, 0, 1, 2, 3, 4, 5, 6, -1, -1}},
		{10, chain(8), []int{0, 1, 2, 3, 4, 5, 6, 7, -1, -1}},
	}
	for _, c := range cases {
		if table, ok := impl.PlaceAll(c.m, c.pairs); !ok || !slices.Equal(table, c.table) {
			t.Errorf("PlaceAll(%d, %v) = %v, %t", c.m, c.pairs, table, ok)
		}
	}
	refused := func(m int, pairs []impl.Homes) {
		if table, ok := impl.PlaceAll(m, pairs); ok || len(table) != 0 {
			t.Errorf("PlaceAll(%d, %v) = %v, %t", m, pairs, table, ok)
		}
	}
	refused(2, two(0, 1, 0, 1, 0, 1))
	refused(3, two(2, 2, 2, 2))
	refused(10, ringOf(7, 8))
	eachBadPairs(refused)
}

func TestP12KeysThatPushComeToRestIfThereIsRoom(t *testing.T) {
	allPairs(func(m int, pairs []impl.Homes) {
		table, moves, ok := impl.KickAll(m, pairs)
		if ok != impl.IsRoomy(m, pairs) {
			t.Fatalf("KickAll(%d, %v) = %v, %d, %t", m, pairs, table, moves, ok)
		}
		want, each, _ := kicked(m, pairs)
		if !ok {
			if len(table) != 0 || moves != -1 {
				t.Fatalf("KickAll(%d, %v) = %v, %d, %t", m, pairs, table, moves, ok)
			}
			return
		}
		checkPlaces(t, m, pairs, table)
		if !slices.Equal(table, want) || moves != sum(each) {
			t.Fatalf("KickAll(%d, %v) = %v, %d, not %v, %d", m, pairs, table, moves, want, sum(each))
		}
	})
}

func TestP12KickAll(t *testing.T) {
	cases := []struct {
		m     int
		pairs []impl.Homes
		table []int
		moves int
	}{
		{1, nil, []int{-1}, 0},
		{3, nil, []int{-1, -1, -1}, 0},
		{1, two(0, 0), []int{0}, 1},
		{3, two(0, 1, 0, 2, 0, 1), []int{2, 0, 1}, 5},
		// Key 0 has nowhere else to go, and pushes key 1 in turn.
		{2, two(0, 0, 0, 1), []int{0, 1}, 4},
		{2, two(0, 1, 0, 1), []int{1, 0}, 3},
		{2, two(0, 1, 1, 1), []int{0, 1}, 2},
		{2, two(0, 1, 0, 0), []int{1, 0}, 3},
		{10, ringOf(8, 8), []int{0, 1, 2, 3, 4, 5, 6, 7, -1, -1}, 8},
		// The moves in all may be more than MaxMoves.
		{10, chain(8), []int{0, 1, 2, 3, 4, 5, 6, 7, -1, -1}, 64},
	}
	for _, c := range cases {
		if table, moves, ok := impl.KickAll(c.m, c.pairs); !ok || moves != c.moves || !slices.Equal(table, c.table) {
			t.Errorf("KickAll(%d, %v) = %v, %d, %t", c.m, c.pairs, table, moves, ok)
		}
	}
	refused := func(m int, pairs []impl.Homes) {
		if table, moves, ok := impl.KickAll(m, pairs); ok || moves != -1 || len(table) != 0 {
			t.Errorf("KickAll(%d, %v) = %v, %d, %t", m, pairs, table, moves, ok)
		}
	}
	refused(1, two(0, 0, 0, 0))
	refused(2, two(0, 1, 0, 1, 0, 1))
	refused(10, two(9, 9, 9, 9))
	refused(10, ringOf(7, 8))
	eachBadPairs(refused)
}

// allTrips visits all three homes of few keys in small tables, and fixed samples
// of those of up to MaxKeys keys in all tables.
func allTrips(visit func(m int, trips [][]int)) {
	for m := 1; m <= impl.MaxSlots; m++ {
		visit(m, nil)
	}
	for m, most := range []int{0, 0, 0, 4, 3, 2} {
		kinds := tripsIn(m)
		for n := 1; n <= most; n++ {
			homesOf(len(kinds), n, func(codes []int) {
				trips := make([][]int, n)
				for key, code := range codes {
					trips[key] = slices.Clone(kinds[code])
				}
				visit(m, trips)
			})
		}
	}
	next := samples()
	for m := 3; m <= impl.MaxSlots; m++ {
		for n := range impl.MaxKeys + 1 {
			for range 150 {
				kinds, trips := tripsIn(3+next(m-2)), make([][]int, n)
				for key := range trips {
					trips[key] = slices.Clone(kinds[next(len(kinds))])
				}
				visit(m, trips)
			}
		}
	}
}

// tripsIn returns all three different homes in m slots, in each order.
func tripsIn(m int) [][]int {
	kinds := [][]int{}
	homesOf(m, 3, func(trip []int) {
		if trip[0] != trip[1] && trip[0] != trip[2] && trip[1] != trip[2] {
			kinds = append(kinds, trip)
		}
	})
	return kinds
}

// line returns the homes of n keys, each of three slots one after the other.
func line(n int) [][]int {
	trips := make([][]int, n)
	for key := range trips {
		trips[key] = []int{key, key + 1, key + 2}
	}
	return trips
}

// badTrips are arguments that are no three different homes of keys each.
var badTrips = []struct {
	m     int
	trips [][]int
}{
	{0, nil},
	{-1, nil},
	{-3, [][]int{{0, 1, 2}}},
	{impl.MaxSlots + 1, nil},
	{impl.MaxSlots + 1, [][]int{{0, 1, 2}}},
	{3, [][]int{nil}},
	{3, [][]int{{}}},
	{3, [][]int{{0}}},
	{3, [][]int{{0, 1}}},
	{4, [][]int{{0, 1, 2, 3}}},
	{4, [][]int{{0, 1, 2}, {1, 2}}},
	{4, [][]int{{0, 1, 2}, {0, 1, 2, 3}}},
	{3, [][]int{{0, 0, 1}}},
	{3, [][]int{{0, 1, 0}}},
	{3, [][]int{{0, 1, 1}}},
	{3, [][]int{{2, 2, 2}}},
	{4, [][]int{{0, 1, 2}, {3, 1, 3}}},
	{3, [][]int{{0, 1, 3}}},
	{3, [][]int{{3, 1, 0}}},
	{3, [][]int{{0, 1, -1}}},
	{3, [][]int{{-1, 1, 0}}},
	{2, [][]int{{0, 1, 2}}},
	{1, [][]int{{0, 0, 0}}},
	{impl.MaxSlots, [][]int{{8, 9, impl.MaxSlots}}},
	{impl.MaxSlots, slices.Repeat([][]int{{0, 1, 2}}, impl.MaxKeys+1)},
	{impl.MaxSlots, append(line(impl.MaxKeys), []int{0, 5, 9})},
}

// eachBadTrips visits the arguments that are no three homes of keys each, also
// those with numbers far out of range.
func eachBadTrips(visit func(m int, trips [][]int)) {
	for _, c := range badTrips {
		visit(c.m, c.trips)
	}
	for _, n := range extremes {
		visit(n, nil)
		visit(n, [][]int{{0, 1, 2}})
		visit(3, [][]int{{n, 1, 2}})
		visit(3, [][]int{{0, n, 2}})
		visit(3, [][]int{{0, 1, n}})
	}
}

// leftAt returns the keys, but those that are gone, that have the slot as a home.
func leftAt(trips [][]int, gone []int, slot int) []int {
	keys := []int{}
	for key, trip := range trips {
		if slices.Contains(trip, slot) && !slices.Contains(gone, key) {
			keys = append(keys, key)
		}
	}
	return keys
}

func TestP13KeysThatAreLeftAreNotAlone(t *testing.T) {
	all, some := 0, 0
	allTrips(func(m int, trips [][]int) {
		keys, slots := impl.PeelKeys(m, trips)
		if len(keys) != len(slots) || len(keys) > len(trips) {
			t.Fatalf("PeelKeys(%d, %v) = %v, %v", m, trips, keys, slots)
		}
		for i, key := range keys {
			for slot := range slots[i] {
				if len(leftAt(trips, keys[:i], slot)) == 1 {
					t.Fatalf("PeelKeys(%d, %v) = %v, %v, with a lesser slot %d", m, trips, keys, slots, slot)
				}
			}
			if !same(leftAt(trips, keys[:i], slots[i]), key) {
				t.Fatalf("PeelKeys(%d, %v) = %v, %v: key %d is not alone", m, trips, keys, slots, key)
			}
		}
		for slot := range m {
			if len(leftAt(trips, keys, slot)) == 1 {
				t.Fatalf("PeelKeys(%d, %v) = %v, %v leaves one at %d", m, trips, keys, slots, slot)
			}
		}
		if len(keys) == len(trips) {
			all++
		} else if len(keys) > 0 {
			some++
		}
	})
	if all < 100 || some < 100 {
		t.Errorf("all keys are taken away %d times, and just some %d times", all, some)
	}
}

func TestP13PeelKeys(t *testing.T) {
	cases := []struct {
		m     int
		trips [][]int
		keys  []int
		slots []int
	}{
		{1, nil, nil, nil},
		{2, [][]int{}, nil, nil},
		{3, [][]int{{2, 1, 0}}, []int{0}, []int{0}},
		{10, [][]int{{9, 7, 8}}, []int{0}, []int{7}},
		{3, [][]int{{0, 1, 2}, {0, 1, 2}}, nil, nil},
		{3, [][]int{{0, 1, 2}, {0, 2, 1}, {2, 1, 0}}, nil, nil},
		{5, [][]int{{0, 1, 2}, {1, 2, 3}, {1, 2, 4}}, []int{0, 1, 2}, []int{0, 3, 1}},
		// Just key 2 is taken away, as the others are the same.
		{6, [][]int{{0, 1, 2}, {0, 1, 2}, {2, 4, 5}}, []int{2}, []int{4}},
		// The least slot comes first, also one that is free of others just then.
		{6, [][]int{{1, 2, 3}, {3, 4, 5}, {1, 2, 5}}, []int{1, 0, 2}, []int{4, 3, 1}},
		{10, line(8), []int{0, 1, 2, 3, 4, 5, 6, 7}, []int{0, 1, 2, 3, 4, 5, 6, 7}},
	}
	for _, c := range cases {
		if keys, slots := impl.PeelKeys(c.m, c.trips); !slices.Equal(keys, c.keys) || !slices.Equal(slots, c.slots) {
			t.Errorf("PeelKeys(%d, %v) = %v, %v", c.m, c.trips, keys, slots)
		}
	}
	eachBadTrips(func(m int, trips [][]int) {
		if keys, slots := impl.PeelKeys(m, trips); len(keys) != 0 || len(slots) != 0 {
			t.Errorf("PeelKeys(%d, %v) = %v, %v", m, trips, keys, slots)
		}
	})
}

func TestP14SlotsTellThePrints(t *testing.T) {
	next := samples()
	allTrips(func(m int, trips [][]int) {
		prints := make([]int, len(trips))
		for key := range prints {
			prints[key] = next(impl.MaxPrint + 1)
		}
		keys, slots := impl.PeelKeys(m, trips)
		filter, ok := impl.FilterOf(m, trips, prints)
		if ok != (len(keys) == len(trips)) {
			t.Fatalf("FilterOf(%d, %v, %v) = %v, %t", m, trips, prints, filter, ok)
		}
		if !ok {
			if len(filter) != 0 {
				t.Fatalf("FilterOf(%d, %v, %v) = %v, %t", m, trips, prints, filter, ok)
			}
			return
		}
		checkFilter(t, trips, prints, filter)
		if len(filter) != m {
			t.Fatalf("FilterOf(%d, %v, %v) = %v", m, trips, prints, filter)
		}
		for slot, number := range filter {
			if number != 0 && !slices.Contains(slots, slot) {
				t.Fatalf("FilterOf(%d, %v, %v) = %v, not 0 at %d", m, trips, prints, filter, slot)
			}
		}
	})
}

// checkFilter checks that the numbers at the homes of each key, put together,
// are its print.
func checkFilter(t *testing.T, trips [][]int, prints []int, filter []int) {
	t.Helper()
	for key, trip := range trips {
		if filter[trip[0]]^filter[trip[1]]^filter[trip[2]] != prints[key] {
			t.Fatalf("homes %v, prints %v: the filter is %v", trips, prints, filter)
		}
	}
	for _, number := range filter {
		if number < 0 || number > impl.MaxPrint {
			t.Fatalf("homes %v, prints %v: the filter is %v", trips, prints, filter)
		}
	}
}

func TestP14FilterOf(t *testing.T) {
	trips := [][]int{{0, 1, 2}, {1, 2, 3}, {1, 2, 4}}
	cases := []struct {
		m      int
		trips  [][]int
		prints []int
		filter []int
	}{
		{1, nil, nil, []int{0}},
		{3, [][]int{}, []int{}, []int{0, 0, 0}},
		{3, [][]int{{2, 1, 0}}, []int{impl.MaxPrint}, []int{255, 0, 0}},
		{3, [][]int{{0, 1, 2}}, []int{0}, []int{0, 0, 0}},
		{5, trips, []int{5, 6, 7}, []int{2, 7, 0, 1, 0}},
		{5, trips, []int{255, 0, 255}, []int{0, 255, 0, 255, 0}},
		{10, line(8), []int{1, 2, 4, 8, 16, 32, 64, 128}, []int{219, 182, 108, 216, 176, 96, 192, 128, 0, 0}},
	}
	for _, c := range cases {
		if filter, ok := impl.FilterOf(c.m, c.trips, c.prints); !ok || !slices.Equal(filter, c.filter) {
			t.Errorf("FilterOf(%d, %v, %v) = %v, %t", c.m, c.trips, c.prints, filter, ok)
		}
	}
}

func TestP14FilterOfOtherArguments(t *testing.T) {
	refused := func(m int, trips [][]int, prints []int) {
		t.Helper()
		if filter, ok := impl.FilterOf(m, trips, prints); ok || len(filter) != 0 {
			t.Errorf("FilterOf(%d, %v, %v) = %v, %t", m, trips, prints, filter, ok)
		}
	}
	refused(3, [][]int{{0, 1, 2}, {0, 1, 2}}, []int{1, 1})
	refused(6, [][]int{{0, 1, 2}, {0, 1, 2}, {2, 4, 5}}, []int{1, 1, 1})
	refused(3, nil, []int{0})
	refused(3, [][]int{{0, 1, 2}}, nil)
	refused(3, [][]int{{0, 1, 2}}, []int{1, 2})
	refused(10, line(8), make([]int, 7))
	refused(10, line(8), make([]int, 9))
	refused(3, [][]int{{0, 1, 2}}, []int{impl.MaxPrint + 1})
	refused(5, line(2), []int{1, -1})
	refused(5, line(2), []int{-1, 1})
	for _, n := range extremes {
		refused(3, [][]int{{0, 1, 2}}, []int{n})
	}
	eachBadTrips(func(m int, trips [][]int) {
		refused(m, trips, make([]int, len(trips)))
	})
}

func TestHomesKeepTheirArguments(t *testing.T) {
	pairs, trips, prints := chain(5), line(5), []int{3, 1, 4, 1, 5}
	groups := impl.GroupsOf(7, pairs)
	placed, _ := impl.PlaceAll(7, pairs)
	pushed, _, _ := impl.KickAll(7, pairs)
	keys, slots := impl.PeelKeys(7, trips)
	filter, _ := impl.FilterOf(7, trips, prints)
	wantSlots, wantFilter := slices.Clone(slots), slices.Clone(filter)
	for i := range keys[:cap(keys)] {
		keys[:cap(keys)][i] = 77
	}
	if !slices.Equal(slots, wantSlots) {
		t.Errorf("the slots of PeelKeys are %v", slots)
	}
	for _, result := range [][]int{groups, placed, pushed, slots, filter} {
		for i := range result[:cap(result)] {
			result[:cap(result)][i] = 77
		}
	}
	if !slices.Equal(pairs, chain(5)) || !slices.EqualFunc(trips, line(5), slices.Equal) || !same(prints, 3, 1, 4, 1, 5) {
		t.Errorf("the arguments are %v, %v and %v", pairs, trips, prints)
	}
	if again, _ := impl.FilterOf(7, trips, prints); !slices.Equal(again, wantFilter) {
		t.Errorf("FilterOf again = %v", again)
	}
}
