package tests

import (
	"slices"
	"testing"

	"loop.example/tablesthatspread/impl"
)

// homesOf visits all homes of n keys in a table of m slots.
func homesOf(m int, n int, visit func(homes []int)) {
	homes := make([]int, n)
	var fill func(key int)
	fill = func(key int) {
		if key == n {
			visit(slices.Clone(homes))
			return
		}
		for home := range m {
			homes[key] = home
			fill(key + 1)
		}
	}
	fill(0)
}

// allHomes visits all homes in tables of at most most slots, and fixed samples
// of homes in all larger tables, those of full tables among them.
func allHomes(most int, visit func(m int, homes []int)) {
	for m := 1; m <= most; m++ {
		for n := range m + 1 {
			homesOf(m, n, func(homes []int) { visit(m, homes) })
		}
	}
	next := samples()
	for m := most + 1; m <= impl.MaxSlots; m++ {
		for n := range m + 1 {
			for range 40 {
				homes := make([]int, n)
				for key := range homes {
					homes[key] = next(m)
				}
				visit(m, homes)
			}
			for home := range m {
				visit(m, slices.Repeat([]int{home}, n))
			}
		}
	}
}

// allTables visits all tables of m slots with some of n keys.
func allTables(m int, n int, visit func(table []int)) {
	table := make([]int, m)
	used := make([]bool, n)
	var fill func(slot int)
	fill = func(slot int) {
		if slot == m {
			visit(slices.Clone(table))
			return
		}
		table[slot] = -1
		fill(slot + 1)
		for key := range n {
			if !used[key] {
				used[key], table[slot] = true, key
				fill(slot + 1)
				used[key] = false
			}
		}
	}
	fill(0)
}

// taken returns which slots of a table have keys.
func taken(table []int) []bool {
	slots := make([]bool, len(table))
	for slot, key := range table {
		slots[slot] = key != -1
	}
	return slots
}

// keysIn returns the keys of a table, ascending.
func keysIn(table []int) []int {
	keys := slices.DeleteFunc(slices.Clone(table), func(key int) bool { return key == -1 })
	slices.Sort(keys)
	return keys
}

// badHomes are arguments that are no homes of keys.
var badHomes = []struct {
	m     int
	homes []int
}{
	{0, nil},
	{-1, nil},
	{-3, []int{0}},
	{impl.MaxSlots + 1, nil},
	{impl.MaxSlots + 1, []int{0, 1}},
	{1, []int{0, 0}},
	{2, []int{0, 0, 0}},
	{impl.MaxSlots, make([]int, impl.MaxSlots+1)},
	{3, []int{3}},
	{3, []int{-1}},
	{3, []int{0, 1, 3}},
	{3, []int{0, -1, 2}},
	{impl.MaxSlots, []int{impl.MaxSlots}},
}

// badTables are lists that are no tables of the keys with the homes.
var badTables = []struct {
	m     int
	homes []int
	table []int
}{
	{2, []int{0}, nil},
	{2, nil, nil},
	{2, []int{0}, []int{0}},
	{2, []int{0}, []int{0, -1, -1}},
	{2, []int{0}, []int{0, 0}},
	{3, []int{0, 1}, []int{1, -1, 1}},
	{2, []int{0}, []int{1, -1}},
	{2, []int{0}, []int{0, -2}},
	{2, nil, []int{0, -1}},
	{3, []int{0, 1, 2}, []int{0, 1, 3}},
	{impl.MaxSlots, []int{0}, make([]int, impl.MaxSlots+1)},
}

func TestP1HomesCanBeCut(t *testing.T) {
	allHomes(5, func(m int, homes []int) {
		for n := range len(homes) + 1 {
			if !impl.ValidHomes(m, homes[:n]) {
				t.Fatalf("ValidHomes(%d, %v) = false", m, homes[:n])
			}
		}
	})
}

func TestP1HomesThatAreNone(t *testing.T) {
	for _, c := range badHomes {
		if impl.ValidHomes(c.m, c.homes) {
			t.Errorf("ValidHomes(%d, %v) = true", c.m, c.homes)
		}
	}
	for _, n := range extremes {
		if impl.ValidHomes(n, nil) || impl.ValidHomes(3, []int{0, n}) {
			t.Errorf("ValidHomes with %d = true", n)
		}
	}
}

func TestP2OrderDoesNotMatterForAllTogether(t *testing.T) {
	allHomes(5, func(m int, homes []int) {
		table, looks := impl.LinearTable(m, homes)
		other, otherLooks := impl.LinearTable(m, reversed(homes))
		if looks != otherLooks || !slices.Equal(taken(table), taken(other)) {
			t.Fatalf("LinearTable(%d, %v) = %v, %d; the other way round %v, %d", m, homes, table, looks, other, otherLooks)
		}
		if !impl.IsFound(m, homes, table) {
			t.Fatalf("IsFound(%d, %v, %v) = false", m, homes, table)
		}
		if len(keysIn(table)) != len(homes) || sum(impl.LooksOf(m, homes, table)) != looks {
			t.Fatalf("LinearTable(%d, %v) = %v, %d", m, homes, table, looks)
		}
	})
}

func TestP2LinearTables(t *testing.T) {
	cases := []struct {
		m     int
		homes []int
		table []int
		looks int
	}{
		{1, nil, []int{-1}, 0},
		{1, []int{0}, []int{0}, 1},
		{3, nil, []int{-1, -1, -1}, 0},
		{4, []int{2, 0}, []int{1, -1, 0, -1}, 2},
		{4, []int{3, 3, 2, 3}, []int{1, 3, 2, 0}, 7},
		{5, []int{4, 4, 0, 0}, []int{1, 2, 3, -1, 0}, 8},
		{5, []int{1, 1, 2, 1}, []int{-1, 0, 1, 2, 3}, 9},
		{3, []int{2, 2, 2}, []int{1, 2, 0}, 6},
		{10, []int{9, 9, 9, 9, 9, 9, 9, 9, 9, 9}, []int{1, 2, 3, 4, 5, 6, 7, 8, 9, 0}, 55},
		{10, []int{9, 8, 7, 6, 5, 4, 3, 2, 1, 0}, []int{9, 8, 7, 6, 5, 4, 3, 2, 1, 0}, 10},
	}
	for _, c := range cases {
		if table, looks := impl.LinearTable(c.m, c.homes); looks != c.looks || !slices.Equal(table, c.table) {
			t.Errorf("LinearTable(%d, %v) = %v, %d", c.m, c.homes, table, looks)
		}
	}
	for _, c := range badHomes {
		if table, looks := impl.LinearTable(c.m, c.homes); len(table) != 0 || looks != -1 {
			t.Errorf("LinearTable(%d, %v) = %v, %d", c.m, c.homes, table, looks)
		}
	}
}

func TestP3FairTablesLookAsOftenAndAtMostAsFar(t *testing.T) {
	allHomes(5, func(m int, homes []int) {
		linear, looks := impl.LinearTable(m, homes)
		fair := impl.FairTable(m, homes)
		fairLooks := impl.LooksOf(m, homes, fair)
		if sum(fairLooks) != looks || !slices.Equal(taken(fair), taken(linear)) {
			t.Fatalf("FairTable(%d, %v) = %v, LinearTable is %v, %d", m, homes, fair, linear, looks)
		}
		if most(fairLooks) > most(impl.LooksOf(m, homes, linear)) {
			t.Fatalf("FairTable(%d, %v) = %v looks further than %v", m, homes, fair, linear)
		}
		if !impl.IsFound(m, homes, fair) || len(keysIn(fair)) != len(homes) {
			t.Fatalf("FairTable(%d, %v) = %v", m, homes, fair)
		}
	})
}

func TestP3FairTables(t *testing.T) {
	cases := []struct {
		m     int
		homes []int
		table []int
	}{
		{1, nil, []int{-1}},
		{3, nil, []int{-1, -1, -1}},
		{5, []int{1, 1, 2, 1}, []int{-1, 0, 1, 3, 2}},
		{3, []int{2, 2, 2}, []int{1, 2, 0}},
		{4, []int{1, 0, 0}, []int{1, 2, 0, -1}},
		// Key 0 gives way to key 3, and key 1 gives way to key 0, which is as far and less.
		{4, []int{1, 1, 0, 0}, []int{2, 3, 0, 1}},
		{4, []int{0, 0, 3, 3}, []int{3, 0, 1, 2}},
		{10, []int{5, 5, 5, 5, 5, 5, 5, 5, 5, 5}, []int{5, 6, 7, 8, 9, 0, 1, 2, 3, 4}},
	}
	for _, c := range cases {
		if table := impl.FairTable(c.m, c.homes); !slices.Equal(table, c.table) {
			t.Errorf("FairTable(%d, %v) = %v", c.m, c.homes, table)
		}
	}
	for _, c := range badHomes {
		if table := impl.FairTable(c.m, c.homes); len(table) != 0 {
			t.Errorf("FairTable(%d, %v) = %v", c.m, c.homes, table)
		}
	}
}

func TestP4LooksAreDistancesAndOne(t *testing.T) {
	for m := 1; m <= 4; m++ {
		for n := range m + 1 {
			homesOf(m, n, func(homes []int) {
				allTables(m, n, func(table []int) {
					checkLooks(t, m, homes, table, impl.LooksOf(m, homes, table))
				})
			})
		}
	}
	allHomes(0, func(m int, homes []int) {
		table := impl.FairTable(m, homes)
		checkLooks(t, m, homes, table, impl.LooksOf(m, homes, table))
	})
}

// checkLooks checks the looks of each key by going from its home on.
func checkLooks(t *testing.T, m int, homes []int, table []int, looks []int) {
	t.Helper()
	if len(looks) != len(homes) {
		t.Fatalf("LooksOf(%d, %v, %v) = %v", m, homes, table, looks)
	}
	for key, home := range homes {
		want := 0
		if slices.Contains(table, key) {
			for want = 1; table[(home+want-1)%m] != key; want++ {
			}
		}
		if looks[key] != want || (looks[key] == 1) != (table[home] == key) {
			t.Fatalf("LooksOf(%d, %v, %v) = %v", m, homes, table, looks)
		}
	}
}

func TestP4LooksOfTables(t *testing.T) {
	if looks := impl.LooksOf(5, []int{1, 1, 2, 1}, []int{-1, 0, 1, 3, 2}); !same(looks, 1, 2, 3, 3) {
		t.Errorf("LooksOf = %v", looks)
	}
	if looks := impl.LooksOf(3, []int{0, 1}, []int{-1, -1, 0}); !same(looks, 3, 0) {
		t.Errorf("LooksOf = %v", looks)
	}
	if looks := impl.LooksOf(3, []int{2, 2, 2}, []int{1, 2, 0}); !same(looks, 1, 2, 3) {
		t.Errorf("LooksOf = %v", looks)
	}
	if looks := impl.LooksOf(2, nil, []int{-1, -1}); !same(looks) {
		t.Errorf("LooksOf = %v", looks)
	}
	for _, c := range badTables {
		if looks := impl.LooksOf(c.m, c.homes, c.table); len(looks) != 0 {
			t.Errorf("LooksOf(%d, %v, %v) = %v", c.m, c.homes, c.table, looks)
		}
	}
	for _, c := range badHomes {
		if looks := impl.LooksOf(c.m, c.homes, slices.Repeat([]int{-1}, max(c.m, 0))); len(looks) != 0 {
			t.Errorf("LooksOf(%d, %v) = %v", c.m, c.homes, looks)
		}
	}
	for _, n := range extremes {
		if looks := impl.LooksOf(2, []int{1}, []int{n, 0}); (n != -1) != (len(looks) == 0) {
			t.Errorf("LooksOf with %d = %v", n, looks)
		}
		if looks := impl.LooksOf(n, []int{1}, []int{0, -1}); len(looks) != 0 {
			t.Errorf("LooksOf of %d slots = %v", n, looks)
		}
	}
}

func TestP5FullAndEmptyTablesFindAll(t *testing.T) {
	for m := 1; m <= 4; m++ {
		homesOf(m, m, func(homes []int) {
			allTables(m, m, func(table []int) {
				keys := len(keysIn(table))
				if (keys == m || keys == 0) && !impl.IsFound(m, homes, table) {
					t.Fatalf("IsFound(%d, %v, %v) = false", m, homes, table)
				}
			})
		})
	}
	allHomes(5, func(m int, homes []int) {
		if !impl.IsFound(m, homes, slices.Repeat([]int{-1}, m)) {
			t.Fatalf("IsFound(%d, %v) without keys = false", m, homes)
		}
	})
	full := []int{9, 0, 8, 1, 7, 2, 6, 3, 5, 4}
	if !impl.IsFound(10, make([]int, 10), full) {
		t.Error("IsFound of a full table of MaxSlots slots = false")
	}
}

func TestP5IsFound(t *testing.T) {
	for m := 1; m <= 4; m++ {
		for n := range m + 1 {
			homesOf(m, n, func(homes []int) {
				allTables(m, n, func(table []int) {
					if got := impl.IsFound(m, homes, table); got != found(m, homes, table) {
						t.Fatalf("IsFound(%d, %v, %v) = %t", m, homes, table, got)
					}
				})
			})
		}
	}
	for _, c := range badTables {
		if impl.IsFound(c.m, c.homes, c.table) {
			t.Errorf("IsFound(%d, %v, %v) = true", c.m, c.homes, c.table)
		}
	}
	for _, c := range badHomes {
		if impl.IsFound(c.m, c.homes, slices.Repeat([]int{-1}, max(c.m, 0))) {
			t.Errorf("IsFound(%d, %v) = true", c.m, c.homes)
		}
	}
}

// found tells by LooksOf whether no key has a free slot ahead of it.
func found(m int, homes []int, table []int) bool {
	for key, looks := range impl.LooksOf(m, homes, table) {
		for steps := range looks {
			if table[(homes[key]+steps)%m] == -1 {
				return false
			}
		}
	}
	return true
}

func TestP6WhatIsLeftIsFound(t *testing.T) {
	for m := 1; m <= 4; m++ {
		for n := range m + 1 {
			homesOf(m, n, func(homes []int) {
				allTables(m, n, func(table []int) {
					checkTakeOut(t, m, homes, table)
				})
			})
		}
	}
	allHomes(0, func(m int, homes []int) {
		linear, _ := impl.LinearTable(m, homes)
		checkTakeOut(t, m, homes, linear)
		checkTakeOut(t, m, homes, impl.FairTable(m, homes))
	})
}

// checkTakeOut checks TakeOut of the table and each key, and of others.
func checkTakeOut(t *testing.T, m int, homes []int, table []int) {
	t.Helper()
	keys := keysIn(table)
	for key := -2; key <= m; key++ {
		left, ok := impl.TakeOut(m, homes, table, key)
		at := slices.Index(keys, key)
		if at < 0 || !impl.IsFound(m, homes, table) {
			if ok || len(left) != 0 {
				t.Fatalf("TakeOut(%d, %v, %v, %d) = %v, %t", m, homes, table, key, left, ok)
			}
			continue
		}
		rest := slices.Delete(slices.Clone(keys), at, at+1)
		if !ok || !impl.IsFound(m, homes, left) || !slices.Equal(keysIn(left), rest) {
			t.Fatalf("TakeOut(%d, %v, %v, %d) = %v, %t", m, homes, table, key, left, ok)
		}
	}
}

func TestP6FairTableWithoutTheLastOne(t *testing.T) {
	allHomes(5, func(m int, homes []int) {
		if len(homes) == 0 {
			return
		}
		last := len(homes) - 1
		left, ok := impl.TakeOut(m, homes, impl.FairTable(m, homes), last)
		if want := impl.FairTable(m, homes[:last]); !ok || !slices.Equal(left, want) {
			t.Fatalf("TakeOut(%d, %v) of FairTable and the last = %v, %t, not %v", m, homes, left, ok, want)
		}
	})
}

func TestP6TakeOut(t *testing.T) {
	cases := []struct {
		m     int
		homes []int
		table []int
		key   int
		left  []int
	}{
		{1, []int{0}, []int{0}, 0, []int{-1}},
		{5, []int{1, 1, 2, 1}, []int{-1, 0, 1, 3, 2}, 0, []int{-1, 1, 3, 2, -1}},
		{4, []int{0, 1, 0}, []int{0, 1, 2, -1}, 0, []int{2, 1, -1, -1}},
		{4, []int{0, 1, 0}, []int{0, 1, 2, -1}, 1, []int{0, 2, -1, -1}},
		{4, []int{0, 1, 0}, []int{0, 1, 2, -1}, 2, []int{0, 1, -1, -1}},
		// Round the table, over its last slot.
		{4, []int{3, 3, 3}, []int{1, 2, -1, 0}, 0, []int{2, -1, -1, 1}},
		// Full tables, in which a key at its home is passed over.
		{3, []int{0, 0, 0}, []int{0, 1, 2}, 0, []int{1, 2, -1}},
		{3, []int{2, 0, 2}, []int{1, 2, 0}, 0, []int{1, -1, 2}},
		// The first key that may be put into the slot, not the nearest to its home.
		{4, []int{0, 0, 0, 0}, []int{3, 2, 1, 0}, 3, []int{2, 1, 0, -1}},
		{5, []int{0, 0, 1, 0}, []int{0, 1, 2, 3, -1}, 0, []int{1, 2, 3, -1, -1}},
		{10, make([]int, 10), []int{0, 1, 2, 3, 4, 5, 6, 7, 8, 9}, 4, []int{0, 1, 2, 3, 5, 6, 7, 8, 9, -1}},
	}
	for _, c := range cases {
		if left, ok := impl.TakeOut(c.m, c.homes, c.table, c.key); !ok || !slices.Equal(left, c.left) {
			t.Errorf("TakeOut(%d, %v, %v, %d) = %v, %t", c.m, c.homes, c.table, c.key, left, ok)
		}
	}
}

func TestP6TakeOutOfOtherArguments(t *testing.T) {
	refused := func(m int, homes []int, table []int, key int) {
		t.Helper()
		if left, ok := impl.TakeOut(m, homes, table, key); ok || len(left) != 0 {
			t.Errorf("TakeOut(%d, %v, %v, %d) = %v, %t", m, homes, table, key, left, ok)
		}
	}
	refused(2, nil, []int{-1, -1}, 0)
	refused(3, []int{0, 1}, []int{0, -1, -1}, 1)
	refused(3, []int{0}, []int{-1, 0, -1}, 0)
	for _, n := range extremes {
		refused(2, []int{0}, []int{0, -1}, n)
		refused(n, []int{0}, []int{0, -1}, 0)
	}
	for _, c := range badTables {
		refused(c.m, c.homes, c.table, 0)
	}
	for _, c := range badHomes {
		table := slices.Repeat([]int{-1}, max(c.m, 1))
		table[0] = 0
		refused(c.m, c.homes, table, 0)
	}
}

func TestP7AllHomesLookEvenly(t *testing.T) {
	for m := 1; m <= impl.MaxAll; m++ {
		for n := range m + 1 {
			looks := impl.AllLooks(m, n)
			if looks%m != 0 || looks != looksByKnuth(m, n) {
				t.Errorf("AllLooks(%d, %d) = %d, not %d", m, n, looks, looksByKnuth(m, n))
			}
		}
		if looks := impl.AllLooks(m, 1); looks != m {
			t.Errorf("AllLooks(%d, 1) = %d", m, looks)
		}
		if looks := impl.AllLooks(m, 2); m > 1 && looks != 2*m*m+m {
			t.Errorf("AllLooks(%d, 2) = %d", m, looks)
		}
	}
	if looks := impl.AllLooks(5, 5); looks != 27425 {
		t.Errorf("AllLooks(5, 5) = %d", looks)
	}
}

// looksByKnuth counts without a table: one look for each key of all homes, and
// the mean steps n/2 * ((n-1)/m + (n-1)(n-2)/m^2 + ...) for all of them.
func looksByKnuth(m int, n int) int {
	twice, product := 0, n
	for k := 1; k < n; k++ {
		product *= n - k
		twice += product * power(m, n-k)
	}
	return n*power(m, n) + twice/2
}

func TestP7AllLooksOfOtherNumbers(t *testing.T) {
	for _, c := range [][2]int{{0, 0}, {-1, 0}, {-1, -1}, {6, 0}, {6, 1}, {6, 6}, {5, 6}, {5, -1}, {2, 3}, {1, 2}} {
		if looks := impl.AllLooks(c[0], c[1]); looks != -1 {
			t.Errorf("AllLooks(%d, %d) = %d", c[0], c[1], looks)
		}
	}
	for _, n := range extremes {
		if impl.AllLooks(n, 0) != -1 || impl.AllLooks(3, n) != -1 || impl.AllLooks(n, n) != -1 {
			t.Errorf("AllLooks with %d is not -1", n)
		}
	}
}

func TestProbingKeepsItsArguments(t *testing.T) {
	homes, table := []int{1, 1, 2, 1}, []int{-1, 0, 1, 3, 2}
	keptHomes, keptTable := slices.Clone(homes), slices.Clone(table)
	linear, _ := impl.LinearTable(5, homes)
	left, _ := impl.TakeOut(5, homes, table, 0)
	results := [][]int{linear, impl.FairTable(5, homes), impl.LooksOf(5, homes, table), left}
	impl.IsFound(5, homes, table)
	for _, result := range results {
		for i := range result[:cap(result)] {
			result[:cap(result)][i] = 77
		}
	}
	if !slices.Equal(homes, keptHomes) || !slices.Equal(table, keptTable) {
		t.Errorf("the arguments are %v and %v", homes, table)
	}
	if again := impl.FairTable(5, homes); !slices.Equal(again, keptTable) {
		t.Errorf("FairTable again = %v", again)
	}
}
