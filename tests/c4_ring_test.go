package tests

import (
	"math"
	"slices"
	"testing"

	"loop.example/tablesthatspread/impl"
)

// differentBelow returns n different numbers in 0..limit-1.
func differentBelow(next func(limit int) int, limit int, n int) []int {
	numbers := []int{}
	for len(numbers) < n {
		if number := next(limit); !slices.Contains(numbers, number) {
			numbers = append(numbers, number)
		}
	}
	return numbers
}

// someRings visits all rings of one server, and for each larger number of them
// those with all places side by side, from each place on and the other way
// round, also round the end of the ring, and fixed samples.
func someRings(visit func(places []int)) {
	next := samples()
	for n := 1; n <= impl.MaxServers; n++ {
		for first := range impl.Ring {
			side := make([]int, n)
			for server := range side {
				side[server] = (first + server) % impl.Ring
			}
			visit(side)
			visit(reversed(side))
		}
		for range 150 {
			visit(differentBelow(next, impl.Ring, n))
		}
	}
}

// allRings visits someRings and all rings of two servers.
func allRings(visit func(places []int)) {
	someRings(visit)
	homesOf(impl.Ring, 2, func(places []int) {
		if places[0] != places[1] {
			visit(places)
		}
	})
}

// walkOn visits the servers of the places that are met from the key on, place by
// place, once round the ring, until visit returns false.
func walkOn(places []int, key int, visit func(server int) bool) {
	for range 64 {
		for server, place := range places {
			if place == key && !visit(server) {
				return
			}
		}
		key++
		if key == 64 {
			key = 0
		}
	}
}

// walkTo returns the first server of the places from the key on.
func walkTo(places []int, key int) int {
	found := -1
	walkOn(places, key, func(server int) bool {
		found = server
		return false
	})
	return found
}

// without returns the numbers but the one at the index.
func without(list []int, index int) []int {
	return slices.Delete(slices.Clone(list), index, index+1)
}

// eachBadRing visits numbers that are no places of servers on a ring.
func eachBadRing(visit func(places []int)) {
	for _, places := range [][]int{
		nil,
		{},
		{5, 5},
		{0, 0},
		{63, 63},
		{1, 2, 1},
		{2, 1, 1},
		{0, 1, 2, 3, 4, 0},
		{0, 1, 2, 3, 4, 4},
		{0, 1, 2, 3, 4, 5, 6},
		{63, 0, 62, 1, 61, 2, 60},
		{9, 9, 9, 9, 9, 9, 9},
		make([]int, 64),
	} {
		visit(places)
	}
	for _, place := range badPlaces {
		visit([]int{place})
		visit([]int{0, place})
		visit([]int{place, 63})
		visit([]int{7, place, 9})
		visit([]int{1, 2, 3, 4, 5, place})
	}
}

// badPlaces are no places on a ring, and no keys.
var badPlaces = append([]int{-2, -63, -64, impl.Ring, impl.Ring + 1, 2 * impl.Ring, math.MinInt32, math.MaxInt32}, extremes...)

func TestLimitsOfRings(t *testing.T) {
	if impl.Ring != 64 || impl.MaxServers != 6 || impl.MaxServer != 40 || impl.Scores != 97 {
		t.Errorf("the limits are %d, %d, %d, %d", impl.Ring, impl.MaxServers, impl.MaxServer, impl.Scores)
	}
	if impl.MaxJump != 20 || impl.Turns != 13 || impl.MaxKeys != 8 {
		t.Errorf("the limits are %d, %d, %d", impl.MaxJump, impl.Turns, impl.MaxKeys)
	}
}

func TestP23ServersMayGo(t *testing.T) {
	allRings(func(places []int) {
		for left := places; len(left) > 0; left = left[:len(left)-1] {
			if !impl.ValidRing(left) {
				t.Fatalf("ValidRing(%v) is false, and of %v it is looked at", left, places)
			}
		}
		if impl.ValidRing(append(slices.Clone(places), places[0])) {
			t.Fatalf("ValidRing(%v) is true with the first place once more", places)
		}
	})
}

func TestP23ValidRing(t *testing.T) {
	for _, places := range [][]int{
		{0},
		{63},
		{5},
		{0, 63},
		{63, 0},
		{10, 50, 30},
		{0, 1, 2, 3, 4, 5},
		{63, 62, 61, 60, 59, 58},
		{62, 63, 0, 1},
	} {
		if !impl.ValidRing(places) {
			t.Errorf("ValidRing(%v) is false", places)
		}
	}
	eachBadRing(func(places []int) {
		if impl.ValidRing(places) {
			t.Errorf("ValidRing(%v) is true", places)
		}
	})
}

func TestP24ServersOwnTheirPlaces(t *testing.T) {
	allRings(func(places []int) {
		for server, place := range places {
			if owner := impl.OwnerOf(places, place); owner != server {
				t.Fatalf("OwnerOf(%v, %d) = %d", places, place, owner)
			}
		}
		for key := range impl.Ring {
			if owner, want := impl.OwnerOf(places, key), walkTo(places, key); owner != want {
				t.Fatalf("OwnerOf(%v, %d) = %d, not %d", places, key, owner, want)
			}
		}
	})
}

func TestP24KeysStayWhenOthersGo(t *testing.T) {
	someRings(func(places []int) {
		for key := range impl.Ring {
			owner := impl.OwnerOf(places, key)
			for gone := range places {
				if gone == owner {
					continue
				}
				left := without(places, gone)
				if other := impl.OwnerOf(left, key); other < 0 || left[other] != places[owner] {
					t.Fatalf("OwnerOf(%v, %d) = %d, of %v it is %d", left, key, other, places, owner)
				}
			}
		}
	})
}

func TestP24OwnerOf(t *testing.T) {
	cases := []struct {
		places []int
		key    int
		owner  int
	}{
		{[]int{5}, 0, 0},
		{[]int{5}, 5, 0},
		{[]int{5}, 6, 0},
		{[]int{5}, 63, 0},
		{[]int{0}, 63, 0},
		{[]int{63}, 0, 0},
		{[]int{10, 50, 30}, 0, 0},
		{[]int{10, 50, 30}, 10, 0},
		{[]int{10, 50, 30}, 11, 2},
		{[]int{10, 50, 30}, 30, 2},
		{[]int{10, 50, 30}, 31, 1},
		{[]int{10, 50, 30}, 50, 1},
		{[]int{10, 50, 30}, 51, 0},
		{[]int{10, 50, 30}, 63, 0},
		// Places side by side, also at the ends of the ring.
		{[]int{21, 20}, 20, 1},
		{[]int{21, 20}, 21, 0},
		{[]int{21, 20}, 22, 1},
		{[]int{0, 63}, 63, 1},
		{[]int{0, 63}, 0, 0},
		{[]int{0, 63}, 1, 1},
		{[]int{0, 63}, 62, 1},
		{[]int{0, 1, 2, 3, 4, 5}, 6, 0},
		{[]int{0, 1, 2, 3, 4, 5}, 5, 5},
		{[]int{63, 62, 61, 60, 59, 58}, 0, 5},
		{[]int{63, 62, 61, 60, 59, 58}, 63, 0},
	}
	for _, c := range cases {
		if owner := impl.OwnerOf(c.places, c.key); owner != c.owner {
			t.Errorf("OwnerOf(%v, %d) = %d, not %d", c.places, c.key, owner, c.owner)
		}
	}
	for _, key := range badPlaces {
		for _, places := range [][]int{nil, {5}, {0, 63}, {10, 50, 30}, {0, 1, 2, 3, 4, 5}} {
			if owner := impl.OwnerOf(places, key); owner != -1 {
				t.Errorf("OwnerOf(%v, %d) = %d", places, key, owner)
			}
		}
	}
	eachBadRing(func(places []int) {
		for _, key := range []int{0, 5, 63} {
			if owner := impl.OwnerOf(places, key); owner != -1 {
				t.Errorf("OwnerOf(%v, %d) = %d", places, key, owner)
			}
		}
	})
}

// gaps returns for each server how far its place is from the last one ahead of it.
func gaps(places []int) []int {
	steps := make([]int, len(places))
	for server, place := range places {
		steps[server] = 64
		for _, other := range places {
			if other != place {
				steps[server] = min(steps[server], (place-other+64)%64)
			}
		}
	}
	return steps
}

func TestP25AllKeysHaveServers(t *testing.T) {
	allRings(func(places []int) {
		shares := impl.SharesOf(places)
		if sum(shares) != impl.Ring || len(shares) != len(places) || slices.Min(shares) < 1 {
			t.Fatalf("SharesOf(%v) = %v", places, shares)
		}
		if want := gaps(places); !slices.Equal(shares, want) {
			t.Fatalf("SharesOf(%v) = %v, not %v", places, shares, want)
		}
	})
	someRings(func(places []int) {
		counts := make([]int, len(places))
		for key := range impl.Ring {
			counts[impl.OwnerOf(places, key)]++
		}
		if shares := impl.SharesOf(places); !slices.Equal(shares, counts) {
			t.Fatalf("SharesOf(%v) = %v, and by OwnerOf they are %v", places, shares, counts)
		}
	})
}

func TestP25SharesOf(t *testing.T) {
	cases := []struct {
		places []int
		shares []int
	}{
		{[]int{5}, []int{64}},
		{[]int{0}, []int{64}},
		{[]int{63}, []int{64}},
		{[]int{10, 50, 30}, []int{24, 20, 20}},
		{[]int{0, 63}, []int{1, 63}},
		{[]int{63, 0}, []int{63, 1}},
		{[]int{21, 20}, []int{1, 63}},
		{[]int{0, 32}, []int{32, 32}},
		{[]int{0, 1, 2, 3, 4, 5}, []int{59, 1, 1, 1, 1, 1}},
		{[]int{63, 62, 61, 60, 59, 58}, []int{1, 1, 1, 1, 1, 59}},
		{[]int{1, 63, 0, 62}, []int{1, 1, 1, 61}},
	}
	for _, c := range cases {
		if shares := impl.SharesOf(c.places); !slices.Equal(shares, c.shares) {
			t.Errorf("SharesOf(%v) = %v, not %v", c.places, shares, c.shares)
		}
	}
	eachBadRing(func(places []int) {
		if shares := impl.SharesOf(places); len(shares) != 0 {
			t.Errorf("SharesOf(%v) = %v", places, shares)
		}
	})
}

func TestP26OnlyKeysOfTheNewServerMove(t *testing.T) {
	checked := 0
	someRings(func(places []int) {
		// Each ring tries every seventh place, and the next ring those beside them.
		for place := checked % 7; place < impl.Ring; place += 7 {
			moved := impl.MovedBy(places, place)
			if slices.Contains(places, place) || len(places) == impl.MaxServers {
				if len(moved) != 0 {
					t.Fatalf("MovedBy(%v, %d) = %v", places, place, moved)
				}
				continue
			}
			more := append(slices.Clone(places), place)
			shares := impl.SharesOf(more)
			if len(moved) != shares[len(places)] {
				t.Fatalf("MovedBy(%v, %d) = %v, and the shares are %v then", places, place, moved, shares)
			}
			var own, other []int
			for key := range impl.Ring {
				if impl.OwnerOf(more, key) == len(places) {
					own = append(own, key)
				}
				if walkTo(more, key) != walkTo(places, key) {
					other = append(other, key)
				}
			}
			if !slices.Equal(moved, own) || !slices.Equal(moved, other) {
				t.Fatalf("MovedBy(%v, %d) = %v, and the new server has %v, others move %v", places, place, moved, own, other)
			}
		}
		checked++
	})
}

func TestP26MovedBy(t *testing.T) {
	all := make([]int, impl.Ring)
	for key := range all {
		all[key] = key
	}
	cases := []struct {
		places []int
		place  int
		moved  []int
	}{
		{[]int{10, 50, 30}, 12, []int{11, 12}},
		{[]int{10, 50, 30}, 11, []int{11}},
		{[]int{10, 50, 30}, 53, []int{51, 52, 53}},
		// The new server has keys at both ends of the ring.
		{[]int{10, 60, 30}, 2, []int{0, 1, 2, 61, 62, 63}},
		{[]int{10, 60}, 63, []int{61, 62, 63}},
		{[]int{10, 63}, 0, []int{0}},
		{[]int{0}, 63, all[1:]},
		{[]int{63}, 0, []int{0}},
		{[]int{63}, 62, all[:63]},
		{[]int{20}, 19, slices.Concat(all[:20], all[21:])},
		{[]int{20}, 21, []int{21}},
		{[]int{0, 1, 2, 3, 4}, 5, []int{5}},
		{[]int{0, 1, 2, 3, 4}, 63, all[5:]},
		{[]int{20, 22}, 21, []int{21}},
	}
	for _, c := range cases {
		if moved := impl.MovedBy(c.places, c.place); !slices.Equal(moved, c.moved) {
			t.Errorf("MovedBy(%v, %d) = %v, not %v", c.places, c.place, moved, c.moved)
		}
	}
	refused := func(places []int, place int) {
		t.Helper()
		if moved := impl.MovedBy(places, place); len(moved) != 0 {
			t.Errorf("MovedBy(%v, %d) = %v", places, place, moved)
		}
	}
	refused([]int{5}, 5)
	refused([]int{10, 50, 30}, 10)
	refused([]int{10, 50, 30}, 30)
	refused([]int{0, 63}, 0)
	refused([]int{0, 63}, 63)
	refused([]int{0, 1, 2, 3, 4}, 4)
	refused([]int{0, 1, 2, 3, 4, 5}, 6)
	refused([]int{0, 10, 20, 30, 40, 50}, 25)
	for _, place := range badPlaces {
		refused([]int{5}, place)
		refused([]int{10, 50, 30}, place)
		refused([]int{0, 1, 2, 3, 4}, place)
	}
	eachBadRing(func(places []int) {
		for _, place := range []int{0, 5, 33, 63} {
			refused(places, place)
		}
	})
}

// scored returns the score of a server for a key, by taking Scores away.
func scored(server int, key int) int {
	score := 7*server*server + 5*server*key + 3*key + server
	for score >= 97 {
		score -= 97
	}
	return score
}

// topOf returns the server with the greatest score, from the last one back, and
// whether another one has the same score.
func topOf(servers []int, key int) (int, bool) {
	top, best, shared := -1, -1, false
	for _, server := range slices.Backward(servers) {
		score := scored(server, key)
		if score >= best {
			top, best, shared = server, score, score == best
		}
	}
	return top, shared
}

// someServers visits all lists of one and of two servers, fixed samples of more,
// and those at both ends.
func someServers(visit func(servers []int)) {
	next := samples()
	for one := range impl.MaxServer + 1 {
		visit([]int{one})
		for other := range one {
			visit([]int{other, one})
		}
	}
	for n := 3; n <= impl.MaxServers; n++ {
		for range 100 {
			visit(slices.Sorted(slices.Values(differentBelow(next, impl.MaxServer+1, n))))
		}
		low, high := make([]int, n), make([]int, n)
		for i := range n {
			low[i], high[i] = i, impl.MaxServer+1-n+i
		}
		visit(low)
		visit(high)
	}
}

func TestP27KeysStayWhenOthersGo(t *testing.T) {
	ties := 0
	someServers(func(servers []int) {
		for key := range impl.Ring {
			first := impl.FirstFor(servers, key)
			want, shared := topOf(servers, key)
			if first != want || !slices.Contains(servers, first) {
				t.Fatalf("FirstFor(%v, %d) = %d, not %d", servers, key, first, want)
			}
			if shared {
				ties++
			}
			for gone, server := range servers {
				if server == first {
					continue
				}
				if other := impl.FirstFor(without(servers, gone), key); other != first {
					t.Fatalf("FirstFor(%v, %d) = %d, without %d it is %d", servers, key, first, server, other)
				}
			}
		}
	})
	if ties < 100 {
		t.Errorf("just %d times have several servers the greatest score", ties)
	}
}

func TestP27FirstFor(t *testing.T) {
	cases := []struct {
		servers []int
		key     int
		first   int
	}{
		{[]int{0}, 0, 0},
		{[]int{40}, 63, 40},
		{[]int{5}, 0, 5},
		{[]int{0, 1, 2}, 1, 2},
		{[]int{0, 1}, 10, 1},
		{[]int{0, 1, 2, 3, 4, 5}, 0, 5},
		{[]int{35, 36, 37, 38, 39, 40}, 63, 38},
		{[]int{0, 40}, 0, 40},
		{[]int{0, 40}, 63, 0},
		// Two of these servers have the same score, which is the greatest one.
		{[]int{0, 3}, 15, 0},
		{[]int{38, 40}, 7, 38},
		{[]int{39, 40}, 25, 39},
		{[]int{0, 1, 3}, 33, 1},
	}
	for _, c := range cases {
		if first := impl.FirstFor(c.servers, c.key); first != c.first {
			t.Errorf("FirstFor(%v, %d) = %d, not %d", c.servers, c.key, first, c.first)
		}
	}
}

func TestP27FirstForOtherArguments(t *testing.T) {
	refused := func(servers []int, key int) {
		t.Helper()
		if first := impl.FirstFor(servers, key); first != -1 {
			t.Errorf("FirstFor(%v, %d) = %d", servers, key, first)
		}
	}
	for _, servers := range [][]int{
		nil,
		{},
		{2, 1},
		{40, 0},
		{3, 3},
		{0, 0},
		{40, 40},
		{0, 1, 3, 2},
		{0, 2, 1, 3},
		{0, 1, 2, 3, 4, 4},
		{0, 1, 2, 3, 4, 5, 6},
		{34, 35, 36, 37, 38, 39, 40},
		make([]int, 41),
	} {
		for _, key := range []int{0, 1, 63} {
			refused(servers, key)
		}
	}
	for _, server := range append([]int{-2, -40, impl.MaxServer + 1, impl.MaxServer + 2, 97, math.MaxInt32}, extremes...) {
		for _, key := range []int{0, 1, 63} {
			refused([]int{server}, key)
			refused([]int{0, server}, key)
			refused([]int{server, 40}, key)
			refused([]int{0, 1, 2, 3, 4, server}, key)
		}
	}
	for _, key := range badPlaces {
		for _, servers := range [][]int{nil, {0}, {40}, {0, 1, 2}, {0, 1, 2, 3, 4, 5}} {
			refused(servers, key)
		}
	}
}

// jumped returns the server of a key, from the greatest number of servers down.
func jumped(key int, n int) int {
	if n == 1 {
		return 0
	}
	number := key
	for range n - 1 {
		number *= 13
		number += 7
		for number >= 97 {
			number -= 97
		}
	}
	for number > 0 {
		number -= n
	}
	if number == 0 {
		return n - 1
	}
	return jumped(key, n-1)
}

func TestP28KeysJumpToNewServersAlone(t *testing.T) {
	for key := range impl.Ring {
		if first := impl.JumpTo(key, 1); first != 0 {
			t.Fatalf("JumpTo(%d, 1) = %d", key, first)
		}
		for n := 2; n <= impl.MaxJump; n++ {
			server, fewer := impl.JumpTo(key, n), impl.JumpTo(key, n-1)
			if server != n-1 && server != fewer || server < 0 {
				t.Fatalf("JumpTo(%d, %d) = %d, for one fewer it is %d", key, n, server, fewer)
			}
			if want := jumped(key, n); server != want {
				t.Fatalf("JumpTo(%d, %d) = %d, not %d", key, n, server, want)
			}
		}
	}
}

func TestP28JumpTo(t *testing.T) {
	cases := []struct{ key, n, server int }{
		{0, 1, 0},
		{63, 1, 0},
		{0, 2, 0},
		{0, 3, 0},
		{1, 2, 1},
		{1, 3, 1},
		// The number 3 of 0 is 20, and its number 15 is 80.
		{0, 4, 3},
		{0, 5, 3},
		{0, 15, 3},
		{0, 16, 15},
		{0, 20, 15},
		// The number 3 of 12 and the number 19 of 44 are 0.
		{12, 3, 1},
		{12, 4, 3},
		{44, 20, 19},
		{11, 19, 16},
		{11, 20, 19},
		{63, 5, 3},
		{63, 20, 16},
	}
	for _, c := range cases {
		if server := impl.JumpTo(c.key, c.n); server != c.server {
			t.Errorf("JumpTo(%d, %d) = %d, not %d", c.key, c.n, server, c.server)
		}
	}
	refused := func(key int, n int) {
		t.Helper()
		if server := impl.JumpTo(key, n); server != -1 {
			t.Errorf("JumpTo(%d, %d) = %d", key, n, server)
		}
	}
	for _, n := range append([]int{0, -2, -20, impl.MaxJump + 1, 2 * impl.MaxJump, math.MinInt32, math.MaxInt32}, extremes...) {
		for _, key := range []int{0, 1, 31, 63} {
			refused(key, n)
		}
	}
	for _, key := range badPlaces {
		for n := 1; n <= impl.MaxJump; n++ {
			refused(key, n)
		}
	}
}

// takenBy lets servers that each have a list of all slots, in their order, take
// the first one that is left from it, one after the other.
func takenBy(turns []impl.Turn) []int {
	wishes := make([][]int, len(turns))
	for server, turn := range turns {
		slot := turn.From
		for range 13 {
			wishes[server] = append(wishes[server], slot)
			slot += turn.Skip
			if slot >= 13 {
				slot -= 13
			}
		}
	}
	table := slices.Repeat([]int{-1}, 13)
	for server := 0; len(wishes[server]) > 0; server = (server + 1) % len(turns) {
		slot := wishes[server][0]
		table[slot] = server
		for i, wish := range wishes {
			wishes[i] = slices.DeleteFunc(wish, func(other int) bool { return other == slot })
		}
	}
	return table
}

// allTurns visits all turns of one server and of two, and fixed samples of the
// turns of more, some the same.
func allTurns(visit func(turns []impl.Turn)) {
	turnOf := func(number int) impl.Turn {
		return impl.Turn{From: number / 12, Skip: 1 + number%12}
	}
	for n := 1; n <= 2; n++ {
		homesOf(13*12, n, func(numbers []int) {
			turns := make([]impl.Turn, n)
			for server, number := range numbers {
				turns[server] = turnOf(number)
			}
			visit(turns)
		})
	}
	next := samples()
	for n := 3; n <= impl.MaxServers; n++ {
		for range 400 {
			turns := make([]impl.Turn, n)
			for server := range turns {
				turns[server] = turnOf(next(13 * 12))
				if next(8) == 0 {
					turns[server] = turns[next(server+1)]
				}
			}
			visit(turns)
		}
	}
}

func TestP29TurnsAreEven(t *testing.T) {
	allTurns(func(turns []impl.Turn) {
		table := impl.TurnTable(turns)
		if want := takenBy(turns); !slices.Equal(table, want) {
			t.Fatalf("TurnTable(%v) = %v, not %v", turns, table, want)
		}
		counts := make([]int, len(turns))
		for _, server := range table {
			counts[server]++
		}
		if len(table) != impl.Turns || slices.Max(counts)-slices.Min(counts) > 1 {
			t.Fatalf("TurnTable(%v) = %v", turns, table)
		}
	})
}

func TestP29TurnTable(t *testing.T) {
	cases := []struct {
		turns []impl.Turn
		table []int
	}{
		{[]impl.Turn{{From: 0, Skip: 1}}, make([]int, 13)},
		{[]impl.Turn{{From: 12, Skip: 12}}, make([]int, 13)},
		{[]impl.Turn{{From: 5, Skip: 3}}, make([]int, 13)},
		{[]impl.Turn{{From: 0, Skip: 1}, {From: 0, Skip: 2}}, []int{0, 0, 1, 0, 1, 0, 1, 0, 1, 0, 1, 0, 1}},
		{[]impl.Turn{{From: 0, Skip: 1}, {From: 0, Skip: 1}}, []int{0, 1, 0, 1, 0, 1, 0, 1, 0, 1, 0, 1, 0}},
		{[]impl.Turn{{From: 0, Skip: 1}, {From: 12, Skip: 12}}, []int{0, 0, 0, 0, 0, 0, 0, 1, 1, 1, 1, 1, 1}},
		{[]impl.Turn{{From: 3, Skip: 5}, {From: 3, Skip: 5}, {From: 4, Skip: 1}}, []int{0, 0, 1, 0, 2, 1, 2, 2, 1, 1, 0, 2, 0}},
		{slices.Repeat([]impl.Turn{{From: 0, Skip: 1}}, 6), []int{0, 1, 2, 3, 4, 5, 0, 1, 2, 3, 4, 5, 0}},
		{slices.Repeat([]impl.Turn{{From: 12, Skip: 12}}, 6), []int{0, 5, 4, 3, 2, 1, 0, 5, 4, 3, 2, 1, 0}},
	}
	for _, c := range cases {
		if table := impl.TurnTable(c.turns); !slices.Equal(table, c.table) {
			t.Errorf("TurnTable(%v) = %v, not %v", c.turns, table, c.table)
		}
	}
	refused := func(turns ...impl.Turn) {
		t.Helper()
		if table := impl.TurnTable(turns); len(table) != 0 {
			t.Errorf("TurnTable(%v) = %v", turns, table)
		}
	}
	good := impl.Turn{From: 0, Skip: 1}
	refused()
	refused([]impl.Turn{}...)
	refused(slices.Repeat([]impl.Turn{good}, 7)...)
	refused(slices.Repeat([]impl.Turn{good}, 13)...)
	refused(slices.Repeat([]impl.Turn{good}, 14)...)
	numbers := append([]int{-2, -12, -13, impl.Turns, impl.Turns + 1, 2 * impl.Turns, math.MinInt32, math.MaxInt32}, extremes...)
	for _, number := range numbers {
		refused(impl.Turn{From: number, Skip: 1})
		refused(impl.Turn{From: number, Skip: 12}, good)
		refused(good, good, good, good, good, impl.Turn{From: number, Skip: 5})
	}
	for _, number := range append(numbers, 0) {
		refused(impl.Turn{From: 0, Skip: number})
		refused(impl.Turn{From: 12, Skip: number}, good)
		refused(good, good, good, good, good, impl.Turn{From: 3, Skip: number})
	}
}

// boundedBy returns the servers that keys walk to, past those with as many as
// the load.
func boundedBy(places []int, keys []int, load int) ([]int, bool) {
	var owners []int
	for _, key := range keys {
		found := -1
		walkOn(places, key, func(server int) bool {
			ahead := 0
			for _, owner := range owners {
				if owner == server {
					ahead++
				}
			}
			if ahead < load {
				found = server
			}
			return found < 0
		})
		if found < 0 {
			return nil, false
		}
		owners = append(owners, found)
	}
	return owners, true
}

// someKeys visits no keys, fixed samples of each number of them, from the whole
// ring and from few places side by side, and keys that are all the same.
func someKeys(next func(limit int) int, visit func(keys []int)) {
	visit(nil)
	for n := 1; n <= impl.MaxKeys; n++ {
		wide, near, last := make([]int, n), make([]int, n), slices.Repeat([]int{63}, n)
		for i := range n {
			wide[i], near[i] = next(impl.Ring), (62+next(4))%impl.Ring
		}
		visit(wide)
		visit(near)
		visit(last)
	}
}

func TestP30NoServerHasTooMany(t *testing.T) {
	next := samples()
	there, none, pushed := 0, 0, 0
	someRings(func(places []int) {
		load := 1 + next(impl.MaxKeys)
		someKeys(next, func(keys []int) {
			for _, load := range []int{1, 2, load, impl.MaxKeys} {
				owners, ok := impl.BoundedOwners(places, keys, load)
				want, wantOk := boundedBy(places, keys, load)
				if ok != wantOk || !slices.Equal(owners, want) {
					t.Fatalf("BoundedOwners(%v, %v, %d) = %v, %t, not %v, %t", places, keys, load, owners, ok, want, wantOk)
				}
				if ok != (len(keys) <= load*len(places)) {
					t.Fatalf("BoundedOwners(%v, %v, %d) = %v, %t", places, keys, load, owners, ok)
				}
				if !ok {
					none++
					continue
				}
				there++
				pushed += checkOwners(t, places, keys, load, owners)
			}
		})
	})
	if there < 1000 || none < 1000 || pushed < 1000 {
		t.Errorf("owners are there %d times, are not %d times, and are pushed on %d times", there, none, pushed)
	}
}

// checkOwners checks the owners of keys by a load, and returns how many of them
// are not those without one.
func checkOwners(t *testing.T, places []int, keys []int, load int, owners []int) int {
	t.Helper()
	counts, others := make([]int, len(places)), 0
	for i, owner := range owners {
		counts[owner]++
		if owner != impl.OwnerOf(places, keys[i]) {
			others++
		}
	}
	if len(owners) != len(keys) || slices.Max(counts) > load {
		t.Fatalf("BoundedOwners(%v, %v, %d) = %v", places, keys, load, owners)
	}
	if load >= len(keys) && others > 0 {
		t.Fatalf("BoundedOwners(%v, %v, %d) = %v, not OwnerOf each", places, keys, load, owners)
	}
	return others
}

func TestP30BoundedOwners(t *testing.T) {
	cases := []struct {
		places []int
		keys   []int
		load   int
		owners []int
	}{
		{[]int{5}, nil, 1, nil},
		{[]int{0, 1, 2, 3, 4, 5}, []int{}, 8, nil},
		{[]int{5}, []int{9}, 1, []int{0}},
		{[]int{5}, []int{5, 6, 4, 63, 0, 5, 5, 5}, 8, []int{0, 0, 0, 0, 0, 0, 0, 0}},
		{[]int{10, 50, 30}, []int{11, 12, 13, 14}, 2, []int{2, 2, 1, 1}},
		{[]int{10, 50, 30}, []int{11, 12, 13, 14}, 4, []int{2, 2, 2, 2}},
		{[]int{10, 50, 30}, []int{11, 12, 13}, 1, []int{2, 1, 0}},
		{[]int{10, 50, 30}, []int{51, 10, 50}, 1, []int{0, 2, 1}},
		{[]int{10, 50, 30}, []int{30, 30, 30, 30, 30, 30}, 2, []int{2, 2, 1, 1, 0, 0}},
		// A full server passes keys on round the end of the ring.
		{[]int{0, 63}, []int{63, 63, 62}, 2, []int{1, 1, 0}},
		{[]int{0, 63}, []int{0, 0}, 1, []int{0, 1}},
		{[]int{3, 2, 1, 0}, []int{63, 63, 63, 63}, 1, []int{3, 2, 1, 0}},
		{[]int{0, 1, 2, 3, 4, 5}, []int{5, 5, 5, 5, 5, 5}, 1, []int{5, 0, 1, 2, 3, 4}},
		{[]int{0, 1, 2, 3, 4, 5}, []int{4, 4, 4, 4, 4, 4, 4, 4}, 2, []int{4, 4, 5, 5, 0, 0, 1, 1}},
	}
	for _, c := range cases {
		if owners, ok := impl.BoundedOwners(c.places, c.keys, c.load); !ok || !slices.Equal(owners, c.owners) {
			t.Errorf("BoundedOwners(%v, %v, %d) = %v, %t, not %v", c.places, c.keys, c.load, owners, ok, c.owners)
		}
	}
}

func TestP30BoundedOwnersOtherArguments(t *testing.T) {
	refused := func(places []int, keys []int, load int) {
		t.Helper()
		if owners, ok := impl.BoundedOwners(places, keys, load); ok || len(owners) != 0 {
			t.Errorf("BoundedOwners(%v, %v, %d) = %v, %t", places, keys, load, owners, ok)
		}
	}
	// All servers are full.
	refused([]int{5}, []int{1, 2}, 1)
	refused([]int{5}, []int{0, 0, 0, 0, 0, 0, 0, 0}, 7)
	refused([]int{10, 50, 30}, []int{1, 20, 40, 60}, 1)
	refused([]int{0, 1, 2, 3, 4, 5}, []int{0, 1, 2, 3, 4, 5, 6}, 1)
	for _, load := range append([]int{0, -2, -8, impl.MaxKeys + 1, impl.MaxKeys + 2, math.MinInt32, math.MaxInt32}, extremes...) {
		refused([]int{5}, nil, load)
		refused([]int{5}, []int{1}, load)
		refused([]int{10, 50, 30}, []int{1, 2, 3}, load)
	}
	refused([]int{10, 50, 30}, make([]int, impl.MaxKeys+1), impl.MaxKeys)
	refused([]int{10, 50, 30}, []int{0, 1, 2, 3, 4, 5, 6, 7, 8}, 3)
	refused([]int{10, 50, 30}, make([]int, 64), 8)
	for _, key := range badPlaces {
		refused([]int{5}, []int{key}, 8)
		refused([]int{10, 50, 30}, []int{0, key}, 1)
		refused([]int{10, 50, 30}, []int{key, 63}, 8)
		refused([]int{0, 1, 2, 3, 4, 5}, []int{1, 2, 3, 4, 5, 6, 7, key}, 8)
	}
	eachBadRing(func(places []int) {
		refused(places, nil, 1)
		refused(places, []int{3}, 1)
		refused(places, []int{0, 63, 9}, impl.MaxKeys)
	})
}

// spoil writes over all the memory of a list, its spare capacity too.
func spoil(list []int) {
	for i := range list[:cap(list)] {
		list[:cap(list)][i] = 77
	}
}

func TestRingsKeepTheirArguments(t *testing.T) {
	places := append(make([]int, 0, 9), 10, 50, 30)
	servers, keys := []int{3, 9, 27, 40}, []int{11, 12, 13, 14, 63}
	turns := []impl.Turn{{From: 4, Skip: 7}, {From: 4, Skip: 2}}
	for range 2 {
		impl.ValidRing(places)
		if owner, first := impl.OwnerOf(places, 40), impl.FirstFor(servers, 0); owner != 1 || first != 9 {
			t.Errorf("OwnerOf and FirstFor = %d, %d", owner, first)
		}
		shares, moved := impl.SharesOf(places), impl.MovedBy(places, 33)
		table := impl.TurnTable(turns)
		owners, _ := impl.BoundedOwners(places, keys, 2)
		if !same(shares, 24, 20, 20) || !same(moved, 31, 32, 33) || !same(owners, 2, 2, 1, 1, 0) {
			t.Errorf("SharesOf, MovedBy and BoundedOwners = %v, %v, %v", shares, moved, owners)
		}
		if !same(table, takenBy(turns)...) {
			t.Errorf("TurnTable = %v", table)
		}
		spoil(shares)
		spoil(moved)
		spoil(table)
		spoil(owners)
	}
	if !same(places[:9], 10, 50, 30, 0, 0, 0, 0, 0, 0) || !same(servers, 3, 9, 27, 40) || !same(keys, 11, 12, 13, 14, 63) {
		t.Errorf("the arguments are %v, %v and %v", places[:9], servers, keys)
	}
	if !slices.Equal(turns, []impl.Turn{{From: 4, Skip: 7}, {From: 4, Skip: 2}}) {
		t.Errorf("the turns are %v", turns)
	}
}
