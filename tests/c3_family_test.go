package tests

import (
	"math"
	"slices"
	"testing"

	"loop.example/tablesthatspread/impl"
)

// allOf returns how many functions there are.
const allOf = 30 * 31

// hashed returns the slot of a key, by adding a so often and taking away the
// prime and m.
func hashed(a int, b int, m int, key int) int {
	rest := b
	for range key {
		rest += a
	}
	for rest >= 31 {
		rest -= 31
	}
	for rest >= m {
		rest -= m
	}
	return rest
}

// meeting returns how many pairs of the keys have the same slot.
func meeting(a int, b int, m int, keys []int) int {
	slots := []int{}
	pairs := 0
	for _, key := range keys {
		slot := (a*key + b) % 31 % m
		for _, other := range slots {
			if other == slot {
				pairs++
			}
		}
		slots = append(slots, slot)
	}
	return pairs
}

// eachFunction visits all a and b, the lesser a first, until visit returns false.
func eachFunction(visit func(a int, b int) bool) {
	for a := 1; a <= 30; a++ {
		for b := 0; b <= 30; b++ {
			if !visit(a, b) {
				return
			}
		}
	}
}

// firstApart returns the first a and b by which no keys meet in m slots.
func firstApart(m int, keys []int) (int, int, bool) {
	foundA, foundB, ok := 0, 0, false
	eachFunction(func(a int, b int) bool {
		if meeting(a, b, m, keys) == 0 {
			foundA, foundB, ok = a, b, true
		}
		return !ok
	})
	return foundA, foundB, ok
}

// differentKeys returns n different numbers in 0..Prime-1.
func differentKeys(next func(limit int) int, n int) []int {
	keys := []int{}
	for len(keys) < n {
		if key := next(impl.Prime); !slices.Contains(keys, key) {
			keys = append(keys, key)
		}
	}
	return keys
}

// hardKeys are keys that as many slots do not keep apart, and two lists of keys
// that eight slots keep apart, but not nine.
var hardKeys = [][]int{
	{1, 16, 30, 6, 10},
	{15, 6, 8, 21, 13, 24},
	{18, 28, 21, 9, 17, 10, 13},
	{17, 29, 22, 7, 1, 23, 14, 21},
	{1, 2, 4, 8, 16, 3, 6, 12},
	{27, 15, 28, 0, 1, 11, 21, 9},
	{16, 24, 26, 10, 17, 4, 8, 0},
	{25, 13, 8, 9, 17, 28, 18, 12},
}

// keySets visits no keys, each key alone, fixed samples of more keys, hard ones,
// and those at both ends.
func keySets(visit func(keys []int)) {
	visit(nil)
	visit([]int{})
	for key := range impl.Prime {
		visit([]int{key})
	}
	next := samples()
	for n := 2; n <= impl.MaxKeys; n++ {
		for range 25 {
			visit(differentKeys(next, n))
		}
		low := make([]int, n)
		for i := range low {
			low[i] = i
		}
		visit(low)
		high := make([]int, n)
		for i := range high {
			high[i] = impl.Prime - 1 - i
		}
		visit(high)
	}
	for _, keys := range hardKeys {
		visit(slices.Clone(keys))
	}
}

// sizes are numbers of slots, the least and the greatest one among them.
var sizes = []int{1, 2, 3, 4, 5, 6, 7, 8, 9, 10, 11, 15, 16, 17, 30, impl.Prime}

// badSizes are no numbers of slots of functions.
var badSizes = append([]int{0, -2, -impl.Prime, impl.Prime + 1, 2 * impl.Prime, math.MinInt32, math.MaxInt32}, extremes...)

// badA are no a of functions, and badRests no b and no keys.
var (
	badA     = append([]int{0, -2, -30, -31, impl.Prime, impl.Prime + 1, 2 * impl.Prime}, extremes...)
	badRests = append([]int{-2, -30, -31, impl.Prime, impl.Prime + 1, 2 * impl.Prime}, extremes...)
)

// eachBadFunction visits a, b and m by which there is no function.
func eachBadFunction(visit func(a int, b int, m int)) {
	for _, m := range badSizes {
		visit(1, 0, m)
		visit(30, 30, m)
	}
	for _, a := range badA {
		visit(a, 0, 5)
		visit(a, 30, impl.Prime)
	}
	for _, b := range badRests {
		visit(1, b, 5)
		visit(30, b, impl.Prime)
	}
}

// eachBadKeys visits keys that are no different ones of functions, or too many.
func eachBadKeys(visit func(keys []int)) {
	for _, keys := range [][]int{
		{1, 1},
		{0, 0},
		{30, 30},
		{3, 5, 3},
		{5, 3, 3},
		{0, 1, 2, 3, 4, 5, 6, 0},
		{0, 1, 2, 3, 4, 5, 6, 6},
		{0, 1, 2, 3, 4, 5, 6, 7, 8},
		{30, 0, 29, 1, 28, 2, 27, 3, 26},
		{7, 7, 7, 7, 7, 7, 7, 7, 7},
		make([]int, 40),
	} {
		visit(keys)
	}
	for _, key := range badRests {
		visit([]int{key})
		visit([]int{0, key})
		visit([]int{key, 30})
		visit([]int{0, 1, 2, 3, 4, 5, 6, key})
	}
}

func TestLimitsOfFamilies(t *testing.T) {
	if impl.Prime != 31 || impl.MaxKeys != 8 || impl.MaxSlots != 10 || impl.MaxBuckets != 4 {
		t.Errorf("the limits are %d, %d, %d, %d", impl.Prime, impl.MaxKeys, impl.MaxSlots, impl.MaxBuckets)
	}
}

func TestP15SlotsAreInTheTable(t *testing.T) {
	eachFunction(func(a int, b int) bool {
		for key := range impl.Prime {
			rest := impl.HashOf(a, b, impl.Prime, key)
			if want := hashed(a, b, 31, key); rest != want || rest >= 31 {
				t.Fatalf("HashOf(%d, %d, 31, %d) = %d, not %d", a, b, key, rest, want)
			}
			for m := 1; m <= impl.Prime; m++ {
				slot := impl.HashOf(a, b, m, key)
				if slot < 0 || slot >= m || slot != rest%m {
					t.Fatalf("HashOf(%d, %d, %d, %d) = %d, and for 31 slots %d", a, b, m, key, slot, rest)
				}
			}
		}
		return true
	})
}

func TestP15HashOf(t *testing.T) {
	cases := []struct{ a, b, m, key, slot int }{
		{3, 4, 5, 10, 3},
		{1, 0, 31, 0, 0},
		{1, 0, 31, 30, 30},
		{1, 1, 31, 30, 0},
		{30, 30, 31, 30, 0},
		{30, 30, 31, 29, 1},
		{30, 0, 31, 1, 30},
		{30, 0, 30, 1, 0},
		{1, 30, 31, 0, 30},
		{1, 30, 16, 0, 14},
		{17, 23, 1, 19, 0},
		{2, 0, 7, 30, 1},
		{5, 6, 4, 7, 2},
	}
	for _, c := range cases {
		if slot := impl.HashOf(c.a, c.b, c.m, c.key); slot != c.slot {
			t.Errorf("HashOf(%d, %d, %d, %d) = %d, not %d", c.a, c.b, c.m, c.key, slot, c.slot)
		}
	}
	eachBadFunction(func(a int, b int, m int) {
		for _, key := range []int{0, 1, 30} {
			if slot := impl.HashOf(a, b, m, key); slot != -1 {
				t.Errorf("HashOf(%d, %d, %d, %d) = %d", a, b, m, key, slot)
			}
		}
	})
	for _, key := range badRests {
		for _, m := range sizes {
			if slot := impl.HashOf(1, 0, m, key); slot != -1 {
				t.Errorf("HashOf(1, 0, %d, %d) = %d", m, key, slot)
			}
		}
	}
}

func TestP16KeysMeetMoreInFewerSlots(t *testing.T) {
	next := samples()
	keySets(func(keys []int) {
		all := len(keys) * (len(keys) - 1) / 2
		for range 12 {
			a, b := 1+next(30), next(31)
			if none := impl.MeetingsOf(a, b, impl.Prime, keys); none != 0 {
				t.Fatalf("MeetingsOf(%d, %d, 31, %v) = %d", a, b, keys, none)
			}
			if pairs := impl.MeetingsOf(a, b, 1, keys); pairs != all {
				t.Fatalf("MeetingsOf(%d, %d, 1, %v) = %d, not %d", a, b, keys, pairs, all)
			}
			for _, m := range sizes {
				pairs, want := impl.MeetingsOf(a, b, m, keys), meeting(a, b, m, keys)
				if pairs != want || pairs > all {
					t.Fatalf("MeetingsOf(%d, %d, %d, %v) = %d, not %d", a, b, m, keys, pairs, want)
				}
				if others := impl.MeetingsOf(a, b, m, reversed(keys)); others != pairs {
					t.Fatalf("MeetingsOf(%d, %d, %d, %v) = %d, the other way round %d", a, b, m, keys, pairs, others)
				}
			}
		}
	})
}

func TestP16MeetingsOf(t *testing.T) {
	cases := []struct {
		a, b, m int
		keys    []int
		pairs   int
	}{
		{1, 0, 1, nil, 0},
		{30, 30, 31, []int{}, 0},
		{1, 0, 1, []int{30}, 0},
		{1, 0, 3, []int{0, 3, 6, 7}, 3},
		{1, 0, 1, []int{1, 2}, 1},
		{1, 0, 1, []int{0, 1, 2, 3, 4, 5, 6, 7}, 28},
		{1, 0, 31, []int{30, 29, 28, 27, 26, 25, 24, 23}, 0},
		{1, 0, 2, []int{0, 1, 2, 3, 4, 5, 6, 7}, 12},
		{1, 0, 5, []int{0, 10, 7, 15, 2, 4, 12, 30}, 9},
		// The prime parts 30 and 0, which would meet in 30 slots without it.
		{1, 1, 30, []int{0, 30}, 0},
		{1, 0, 30, []int{0, 30}, 1},
	}
	for _, c := range cases {
		if pairs := impl.MeetingsOf(c.a, c.b, c.m, c.keys); pairs != c.pairs {
			t.Errorf("MeetingsOf(%d, %d, %d, %v) = %d, not %d", c.a, c.b, c.m, c.keys, pairs, c.pairs)
		}
	}
	eachBadFunction(func(a int, b int, m int) {
		for _, keys := range [][]int{nil, {}, {0}, {0, 30}, {0, 1, 2, 3, 4, 5, 6, 7}} {
			if pairs := impl.MeetingsOf(a, b, m, keys); pairs != -1 {
				t.Errorf("MeetingsOf(%d, %d, %d, %v) = %d", a, b, m, keys, pairs)
			}
		}
	})
	eachBadKeys(func(keys []int) {
		for _, m := range sizes {
			if pairs := impl.MeetingsOf(1, 0, m, keys); pairs != -1 {
				t.Errorf("MeetingsOf(1, 0, %d, %v) = %d", m, keys, pairs)
			}
		}
	})
}

func TestP17FewFunctionsLetTwoKeysMeetAsManyForAll(t *testing.T) {
	for m := 1; m <= impl.Prime; m++ {
		want := 0
		eachFunction(func(a int, b int) bool {
			if hashed(a, b, m, 0) == hashed(a, b, m, 1) {
				want++
			}
			return true
		})
		if want*m > allOf {
			t.Fatalf("%d functions let 0 and 1 meet in %d slots", want, m)
		}
		for x := range impl.Prime {
			for y := range impl.Prime {
				count := impl.PairCount(m, x, y)
				if x == y && count != -1 || x != y && count != want {
					t.Fatalf("PairCount(%d, %d, %d) = %d, for 0 and 1 it is %d", m, x, y, count, want)
				}
			}
		}
	}
}

func TestP17PairCount(t *testing.T) {
	cases := []struct{ m, x, y, count int }{
		{1, 0, 5, 930},
		{1, 30, 0, 930},
		{2, 1, 30, 450},
		{3, 7, 8, 290},
		{5, 0, 30, 162},
		{10, 2, 3, 66},
		{15, 9, 8, 34},
		{16, 3, 4, 30},
		{30, 0, 30, 2},
		{31, 0, 5, 0},
		{31, 29, 30, 0},
	}
	for _, c := range cases {
		if count := impl.PairCount(c.m, c.x, c.y); count != c.count {
			t.Errorf("PairCount(%d, %d, %d) = %d, not %d", c.m, c.x, c.y, count, c.count)
		}
	}
	refused := func(m int, x int, y int) {
		t.Helper()
		if count := impl.PairCount(m, x, y); count != -1 {
			t.Errorf("PairCount(%d, %d, %d) = %d", m, x, y, count)
		}
	}
	for _, m := range badSizes {
		refused(m, 0, 1)
		refused(m, 30, 0)
	}
	for _, key := range badRests {
		for _, m := range sizes {
			refused(m, key, 0)
			refused(m, 30, key)
			refused(m, key, key)
		}
	}
}

func TestP18FunctionsKeepKeysApart(t *testing.T) {
	there, none := 0, 0
	keySets(func(keys []int) {
		for _, m := range sizes {
			a, b, ok := impl.ApartBy(m, keys)
			wantA, wantB, want := firstApart(m, keys)
			if a != wantA || b != wantB || ok != want {
				t.Fatalf("ApartBy(%d, %v) = %d, %d, %t, not %d, %d, %t", m, keys, a, b, ok, wantA, wantB, want)
			}
			if !ok {
				none++
				continue
			}
			there++
			if pairs := impl.MeetingsOf(a, b, m, keys); pairs != 0 {
				t.Fatalf("ApartBy(%d, %v) = %d, %d, by which %d pairs meet", m, keys, a, b, pairs)
			}
		}
	})
	if there < 100 || none < 100 {
		t.Errorf("functions keep keys apart %d times, and do not %d times", there, none)
	}
}

func TestP18ApartBy(t *testing.T) {
	cases := []struct {
		m    int
		keys []int
		a, b int
	}{
		{1, nil, 1, 0},
		{31, []int{}, 1, 0},
		{1, []int{5}, 1, 0},
		{31, []int{0, 30}, 1, 0},
		{30, []int{0, 30}, 1, 1},
		{2, []int{0, 30}, 1, 1},
		{3, []int{0, 1, 2}, 1, 0},
		{2, []int{0, 2}, 1, 29},
		{6, []int{0, 1, 2, 4, 8, 16}, 5, 26},
		{8, []int{0, 1, 2, 4, 8, 16, 30, 15}, 3, 17},
		{9, []int{0, 1, 4, 9, 16, 25, 5, 18}, 14, 22},
		{8, []int{0, 1, 2, 3, 4, 5, 6, 7}, 1, 0},
	}
	for _, c := range cases {
		if a, b, ok := impl.ApartBy(c.m, c.keys); !ok || a != c.a || b != c.b {
			t.Errorf("ApartBy(%d, %v) = %d, %d, %t, not %d, %d", c.m, c.keys, a, b, ok, c.a, c.b)
		}
	}
	refused := func(m int, keys []int) {
		t.Helper()
		if a, b, ok := impl.ApartBy(m, keys); ok || a != 0 || b != 0 {
			t.Errorf("ApartBy(%d, %v) = %d, %d, %t", m, keys, a, b, ok)
		}
	}
	refused(1, []int{0, 1})
	refused(2, []int{0, 1, 2})
	refused(6, []int{15, 6, 8, 21, 13, 24})
	refused(10, []int{17, 29, 22, 7, 1, 23, 14, 21})
	for _, m := range badSizes {
		refused(m, nil)
		refused(m, []int{0})
		refused(m, []int{0, 1, 2})
	}
	eachBadKeys(func(keys []int) {
		for _, m := range sizes {
			refused(m, keys)
		}
	})
}

func TestP19TheFewestSlotsAreEnough(t *testing.T) {
	more := 0
	keySets(func(keys []int) {
		m := impl.LeastApart(keys)
		if m < 1 || m > impl.Prime || m < len(keys) {
			t.Fatalf("LeastApart(%v) = %d", keys, m)
		}
		if _, _, ok := impl.ApartBy(m, keys); !ok {
			t.Fatalf("LeastApart(%v) = %d, by which there is no ApartBy", keys, m)
		}
		if _, _, ok := impl.ApartBy(m-1, keys); ok {
			t.Fatalf("LeastApart(%v) = %d, and ApartBy is there for one fewer", keys, m)
		}
		for fewer := 1; fewer < m; fewer++ {
			if a, b, ok := firstApart(fewer, keys); ok {
				t.Fatalf("LeastApart(%v) = %d, and %d, %d keep them apart in %d", keys, m, a, b, fewer)
			}
		}
		if others := impl.LeastApart(reversed(keys)); others != m {
			t.Fatalf("LeastApart(%v) = %d, the other way round %d", keys, m, others)
		}
		if m > max(len(keys), 1) {
			more++
		}
	})
	if more < 5 {
		t.Errorf("just %d times are more slots needed than keys", more)
	}
}

func TestP19LeastApart(t *testing.T) {
	cases := []struct {
		keys []int
		m    int
	}{
		{nil, 1},
		{[]int{}, 1},
		{[]int{0}, 1},
		{[]int{30}, 1},
		{[]int{0, 30}, 2},
		{[]int{0, 1, 2}, 3},
		{[]int{0, 1, 2, 4, 8, 16}, 6},
		{[]int{1, 16, 30, 6, 10}, 6},
		{[]int{15, 6, 8, 21, 13, 24}, 7},
		{[]int{0, 1, 2, 3, 4, 5, 6, 7}, 8},
		{[]int{30, 29, 28, 27, 26, 25, 24, 23}, 8},
		// Nine slots do not keep these apart.
		{[]int{16, 24, 26, 10, 17, 4, 8, 0}, 8},
		{[]int{1, 2, 4, 8, 16, 3, 6, 12}, 9},
		{[]int{18, 28, 21, 9, 17, 10, 13}, 9},
		{[]int{17, 29, 22, 7, 1, 23, 14, 21}, 11},
	}
	for _, c := range cases {
		if m := impl.LeastApart(c.keys); m != c.m {
			t.Errorf("LeastApart(%v) = %d, not %d", c.keys, m, c.m)
		}
	}
	eachBadKeys(func(keys []int) {
		if m := impl.LeastApart(keys); m != -1 {
			t.Errorf("LeastApart(%v) = %d", keys, m)
		}
	})
}

// twoLevels adds up the slots of the first level and of each of its tables.
func twoLevels(a int, b int, keys []int) int {
	tables := map[int]int{}
	for _, key := range keys {
		tables[hashed(a, b, len(keys), key)]++
	}
	slots := len(keys)
	for _, count := range tables {
		slots += count * count
	}
	return slots
}

func TestP20TwoLevelsHaveSlotsForPairsThatMeet(t *testing.T) {
	next := samples()
	keySets(func(keys []int) {
		for range 40 {
			a, b := 1+next(30), next(31)
			slots := impl.TwoLevels(a, b, keys)
			if len(keys) == 0 {
				if slots != -1 {
					t.Fatalf("TwoLevels(%d, %d, %v) = %d", a, b, keys, slots)
				}
				continue
			}
			if want := twoLevels(a, b, keys); slots != want {
				t.Fatalf("TwoLevels(%d, %d, %v) = %d, not %d", a, b, keys, slots, want)
			}
			pairs := impl.MeetingsOf(a, b, len(keys), keys)
			if slots != 2*len(keys)+2*pairs {
				t.Fatalf("TwoLevels(%d, %d, %v) = %d, and %d pairs meet", a, b, keys, slots, pairs)
			}
		}
	})
}

func TestP20TwoLevels(t *testing.T) {
	cases := []struct {
		a, b  int
		keys  []int
		slots int
	}{
		{1, 0, []int{0}, 2},
		{30, 30, []int{30}, 2},
		{1, 0, []int{0, 3, 6}, 12},
		{1, 0, []int{0, 1, 2}, 6},
		{1, 0, []int{0, 1, 3}, 8},
		{1, 0, []int{0, 30}, 6},
		{1, 1, []int{0, 30}, 4},
		{1, 0, []int{0, 1, 2, 3, 4, 5, 6, 7}, 16},
		{1, 0, []int{0, 8, 16, 24, 1, 9, 17, 25}, 40},
	}
	for _, c := range cases {
		if slots := impl.TwoLevels(c.a, c.b, c.keys); slots != c.slots {
			t.Errorf("TwoLevels(%d, %d, %v) = %d, not %d", c.a, c.b, c.keys, slots, c.slots)
		}
	}
	refused := func(a int, b int, keys []int) {
		t.Helper()
		if slots := impl.TwoLevels(a, b, keys); slots != -1 {
			t.Errorf("TwoLevels(%d, %d, %v) = %d", a, b, keys, slots)
		}
	}
	for _, keys := range [][]int{nil, {}, {0}, {0, 1, 2}} {
		for _, a := range badA {
			refused(a, 0, keys)
		}
		for _, b := range badRests {
			refused(1, b, keys)
		}
	}
	refused(1, 0, nil)
	refused(1, 0, []int{})
	eachBadKeys(func(keys []int) {
		refused(1, 0, keys)
		refused(30, 30, keys)
	})
}

func TestP21FewSlotsAreEnoughForTwoLevels(t *testing.T) {
	more := 0
	keySets(func(keys []int) {
		best := impl.BestLevels(keys)
		if len(keys) == 0 {
			if best != -1 {
				t.Fatalf("BestLevels(%v) = %d", keys, best)
			}
			return
		}
		if best >= 3*len(keys) {
			t.Fatalf("BestLevels(%v) = %d", keys, best)
		}
		least := math.MaxInt
		eachFunction(func(a int, b int) bool {
			least = min(least, twoLevels(a, b, keys))
			if slots := impl.TwoLevels(a, b, keys); slots < best {
				t.Fatalf("BestLevels(%v) = %d, and TwoLevels by %d and %d = %d", keys, best, a, b, slots)
			}
			return true
		})
		if best != least {
			t.Fatalf("BestLevels(%v) = %d, not %d", keys, best, least)
		}
		if best > 2*len(keys) {
			more++
		}
	})
	if more < 3 {
		t.Errorf("just %d times do keys meet by all functions", more)
	}
}

func TestP21BestLevels(t *testing.T) {
	cases := []struct {
		keys  []int
		slots int
	}{
		{[]int{0}, 2},
		{[]int{7}, 2},
		{[]int{30}, 2},
		{[]int{0, 30}, 4},
		{[]int{0, 1, 2}, 6},
		{[]int{0, 1, 2, 4, 8, 16}, 12},
		{[]int{0, 1, 2, 3, 4, 5, 6, 7}, 16},
		// Two of these keys meet by all functions to as many slots.
		{[]int{1, 16, 30, 6, 10}, 12},
		{[]int{15, 6, 8, 21, 13, 24}, 14},
		{[]int{17, 29, 22, 7, 1, 23, 14, 21}, 18},
	}
	for _, c := range cases {
		if slots := impl.BestLevels(c.keys); slots != c.slots {
			t.Errorf("BestLevels(%v) = %d, not %d", c.keys, slots, c.slots)
		}
	}
	for _, keys := range [][]int{nil, {}} {
		if slots := impl.BestLevels(keys); slots != -1 {
			t.Errorf("BestLevels(%v) = %d", keys, slots)
		}
	}
	eachBadKeys(func(keys []int) {
		if slots := impl.BestLevels(keys); slots != -1 {
			t.Errorf("BestLevels(%v) = %d", keys, slots)
		}
	})
}

// allBuckets visits all few buckets of different keys in small tables, and fixed
// samples of up to MaxBuckets buckets in all tables, some with a key twice.
func allBuckets(visit func(m int, buckets [][]int)) {
	for less, most := range []int{4, 4, 4, 3} {
		m := less + 1
		for n := range most + 1 {
			homesOf(1<<m, n, func(codes []int) {
				buckets := make([][]int, n)
				count := 0
				for i, code := range codes {
					for key := range m {
						if code>>key&1 == 1 {
							buckets[i] = append(buckets[i], key)
							count++
						}
					}
				}
				if count <= impl.MaxKeys {
					visit(m, buckets)
				}
			})
		}
	}
	next := samples()
	for m := 1; m <= impl.MaxSlots; m++ {
		visit(m, nil)
		for n := 1; n <= impl.MaxBuckets; n++ {
			for range 75 {
				buckets := make([][]int, n)
				for range next(min(m+1, impl.MaxKeys) + 1) {
					i, key := next(n), next(m)
					if !slices.Contains(buckets[i], key) || next(20) == 0 {
						buckets[i] = append(buckets[i], key)
					}
				}
				visit(m, buckets)
			}
		}
	}
}

// isApart reports whether all shifted keys are in different ones of m slots.
func isApart(m int, buckets [][]int, shifts []int) bool {
	seen := make([]bool, m)
	for i, bucket := range buckets {
		for _, key := range bucket {
			slot := key + shifts[i]
			if slot >= m {
				slot -= m
			}
			if seen[slot] {
				return false
			}
			seen[slot] = true
		}
	}
	return true
}

// firstShifts tries all shifts, those with the lesser ones at the first buckets
// ahead.
func firstShifts(m int, buckets [][]int) ([]int, bool) {
	shifts := make([]int, len(buckets))
	for number := range power(m, len(buckets)) {
		rest := number
		for i := len(shifts) - 1; i >= 0; i-- {
			shifts[i], rest = rest%m, rest/m
		}
		if isApart(m, buckets, shifts) {
			return shifts, true
		}
	}
	return nil, false
}

func TestP22ShiftsKeepKeysApart(t *testing.T) {
	there, none := 0, 0
	allBuckets(func(m int, buckets [][]int) {
		shifts, ok := impl.ShiftsFor(m, buckets)
		want, wantOk := firstShifts(m, buckets)
		if ok != wantOk || !slices.Equal(shifts, want) {
			t.Fatalf("ShiftsFor(%d, %v) = %v, %t, not %v, %t", m, buckets, shifts, ok, want, wantOk)
		}
		if !ok {
			none++
			return
		}
		there++
		for _, shift := range shifts {
			if shift < 0 || shift >= m {
				t.Fatalf("ShiftsFor(%d, %v) = %v", m, buckets, shifts)
			}
		}
		if len(shifts) != len(buckets) || !isApart(m, buckets, shifts) {
			t.Fatalf("ShiftsFor(%d, %v) = %v", m, buckets, shifts)
		}
	})
	if there < 100 || none < 100 {
		t.Errorf("shifts are there %d times, and are not %d times", there, none)
	}
}

func TestP22ShiftsFor(t *testing.T) {
	cases := []struct {
		m       int
		buckets [][]int
		shifts  []int
	}{
		{1, nil, nil},
		{10, [][]int{}, nil},
		{1, [][]int{nil}, []int{0}},
		{1, [][]int{{}, nil, {}, {}}, []int{0, 0, 0, 0}},
		{1, [][]int{{0}}, []int{0}},
		{1, [][]int{{}, {0}}, []int{0, 0}},
		{10, [][]int{{9, 3, 5}}, []int{0}},
		{4, [][]int{{0, 1}, {0}, {1}}, []int{0, 2, 2}},
		{10, [][]int{{9}, {9}, {9}, {9}}, []int{0, 1, 2, 3}},
		{8, [][]int{{0, 1, 2, 3, 4, 5, 6, 7}, {}, {}, {}}, []int{0, 0, 0, 0}},
		{8, [][]int{{0, 1}, {0, 1}, {0, 1}, {0, 1}}, []int{0, 2, 4, 6}},
		{10, [][]int{{0, 5}, {0, 5}, {0, 5}, {0, 5}}, []int{0, 1, 2, 3}},
		// The least shift that is free for the second bucket leaves none for the rest.
		{8, [][]int{{0, 2}, {0, 3}, {0, 2}, {0, 3}}, []int{0, 1, 5, 3}},
		{6, [][]int{{0, 3}, {0, 2}, {0, 2}, {}}, []int{0, 2, 5, 0}},
		{5, [][]int{{0, 1}, {0, 2}, {4}}, []int{0, 2, 4}},
		{8, [][]int{{7, 1}, {3, 4}, {2, 6}, {0, 7}}, []int{0, 2, 2, 3}},
	}
	for _, c := range cases {
		if shifts, ok := impl.ShiftsFor(c.m, c.buckets); !ok || !slices.Equal(shifts, c.shifts) {
			t.Errorf("ShiftsFor(%d, %v) = %v, %t, not %v", c.m, c.buckets, shifts, ok, c.shifts)
		}
	}
}

func TestP22ShiftsForOtherArguments(t *testing.T) {
	refused := func(m int, buckets [][]int) {
		t.Helper()
		if shifts, ok := impl.ShiftsFor(m, buckets); ok || len(shifts) != 0 {
			t.Errorf("ShiftsFor(%d, %v) = %v, %t", m, buckets, shifts, ok)
		}
	}
	// There are no shifts.
	refused(1, [][]int{{0}, {0}})
	refused(2, [][]int{{0}, {0}, {1}})
	refused(4, [][]int{{1, 1}})
	refused(10, [][]int{{}, {3, 4, 3}})
	refused(4, [][]int{{0, 2}, {0, 1}})
	refused(7, [][]int{{0, 1, 3}, {0, 1, 3}})
	refused(7, [][]int{{0, 1, 2, 3}, {0, 1, 2, 3}})
	// There are too many buckets or keys, also if shifts would keep them apart.
	refused(4, make([][]int, impl.MaxBuckets+1))
	refused(10, [][]int{{0}, {0}, {0}, {0}, {0}})
	refused(10, [][]int{{0, 1, 2, 3, 4, 5, 6, 7, 8}})
	refused(10, [][]int{{0, 1, 2}, {3, 4, 5}, {6, 7}, {8}})
	for _, n := range append([]int{0, -3, impl.MaxSlots + 1, 20}, extremes...) {
		refused(n, nil)
		refused(n, [][]int{{}})
		refused(n, [][]int{{0}})
		refused(n, [][]int{{1}, {2}})
	}
	for _, key := range append([]int{4, 5, -2, -4}, extremes...) {
		refused(4, [][]int{{key}})
		refused(4, [][]int{{}, {0, key}})
		refused(4, [][]int{{0}, {}, {}, {key, 1}})
	}
	refused(1, [][]int{{1}})
	refused(impl.MaxSlots, [][]int{{impl.MaxSlots}})
}

func TestFamiliesKeepTheirArguments(t *testing.T) {
	keys, buckets := []int{9, 3, 27, 1, 30}, [][]int{{4, 0}, {}, {2, 1, 0}}
	impl.MeetingsOf(3, 4, 5, keys)
	impl.ApartBy(5, keys)
	impl.LeastApart(keys)
	impl.TwoLevels(3, 4, keys)
	impl.BestLevels(keys)
	shifts, _ := impl.ShiftsFor(6, buckets)
	want := slices.Clone(shifts)
	for i := range shifts[:cap(shifts)] {
		shifts[:cap(shifts)][i] = 77
	}
	if again, ok := impl.ShiftsFor(6, buckets); !ok || !slices.Equal(again, want) {
		t.Errorf("ShiftsFor again = %v, not %v", again, want)
	}
	if !same(keys, 9, 3, 27, 1, 30) || !slices.EqualFunc(buckets, [][]int{{4, 0}, {}, {2, 1, 0}}, slices.Equal) {
		t.Errorf("the arguments are %v and %v", keys, buckets)
	}
}
