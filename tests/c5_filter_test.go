package tests

import (
	"math"
	"slices"
	"testing"

	"loop.example/tablesthatspread/impl"
)

// bitsOf returns the bits, ascending, of which the number is a sum.
func bitsOf(number int) []int {
	bits := []int{}
	for bit := 0; number > 0; bit++ {
		if number%2 == 1 {
			bits = append(bits, bit)
		}
		number /= 2
	}
	return bits
}

// sumOf returns the sum of 2 to each of the bits, each of them once.
func sumOf(bits []int) int {
	number := 0
	for bit := range 64 {
		if slices.Contains(bits, bit) {
			number += power(2, bit)
		}
	}
	return number
}

// markBits returns the bits of a key of a sieve, one for each way.
func markBits(bits int, ways int, key int) []int {
	whole := 0
	for key >= 31 {
		key -= 31
		whole++
	}
	marks := []int{}
	for k := range ways {
		marks = append(marks, hashed(k+1, k*k+whole, bits, key))
	}
	return marks
}

// eachSize visits all numbers of bits and of ways.
func eachSize(visit func(bits int, ways int)) {
	for bits := 1; bits <= 16; bits++ {
		for ways := 1; ways <= 4; ways++ {
			visit(bits, ways)
		}
	}
}

// someSieves visits all sieves of up to 6 bits, and for more those without bits,
// with one, with all, with all but one, and fixed samples.
func someSieves(visit func(f impl.Sieve)) {
	next := samples()
	eachSize(func(bits int, ways int) {
		f := impl.Sieve{Bits: bits, Ways: ways}
		sets := power(2, bits)
		if bits <= 6 {
			for f.Set = range sets {
				visit(f)
			}
			return
		}
		picked := []int{0, sets - 1}
		for bit := range bits {
			picked = append(picked, power(2, bit), sets-1-power(2, bit))
		}
		for range 20 {
			picked = append(picked, next(sets), next(sets)|next(sets))
		}
		for _, f.Set = range picked {
			visit(f)
		}
	})
}

var (
	// badBits and badWays are no numbers of bits and of ways.
	badBits = append([]int{0, -2, -16, impl.MaxBits + 1, impl.MaxBits + 2, 31, 32, 63, 64, 65, math.MinInt32, math.MaxInt32}, extremes...)
	badWays = append([]int{0, -2, -4, impl.MaxWays + 1, impl.MaxWays + 2, 64, math.MinInt32, math.MaxInt32}, extremes...)
	// badMarks are no keys of sieves.
	badMarks = append([]int{-2, -31, -93, impl.MaxMark + 1, impl.MaxMark + 2, 124, math.MinInt32, math.MaxInt32}, extremes...)
)

// eachBadSieve visits sieves that are not valid.
func eachBadSieve(visit func(f impl.Sieve)) {
	visit(impl.Sieve{})
	for _, bits := range badBits {
		for _, set := range []int{0, 1, -1} {
			visit(impl.Sieve{Bits: bits, Ways: 1, Set: set})
			visit(impl.Sieve{Bits: bits, Ways: 4, Set: set})
		}
	}
	for _, ways := range badWays {
		visit(impl.Sieve{Bits: 1, Ways: ways})
		visit(impl.Sieve{Bits: 8, Ways: ways, Set: 136})
		visit(impl.Sieve{Bits: 16, Ways: ways, Set: 65535})
	}
	eachSize(func(bits int, ways int) {
		sets := power(2, bits)
		for _, set := range append([]int{-2, -sets, sets, sets + 1, 2*sets - 1, 1 << 16, 1 << 17, 1 << 62, math.MinInt32, math.MaxInt32}, extremes...) {
			visit(impl.Sieve{Bits: bits, Ways: ways, Set: set})
		}
	})
}

func TestLimitsOfFilters(t *testing.T) {
	if impl.MaxBits != 16 || impl.MaxWays != 4 || impl.MaxMark != 92 || impl.MaxCount != 100 {
		t.Errorf("the limits are %d, %d, %d, %d", impl.MaxBits, impl.MaxWays, impl.MaxMark, impl.MaxCount)
	}
	if impl.MaxThings != 5 || impl.MaxOrders != 6 || impl.MaxKeys != 8 || impl.Prime != 31 {
		t.Errorf("the limits are %d, %d, %d, %d", impl.MaxThings, impl.MaxOrders, impl.MaxKeys, impl.Prime)
	}
}

func TestP31SievesMayBeEmpty(t *testing.T) {
	eachSize(func(bits int, ways int) {
		for set := range power(2, bits) {
			f := impl.Sieve{Bits: bits, Ways: ways, Set: set}
			if !impl.ValidSieve(f) {
				t.Fatalf("ValidSieve(%v) is false", f)
			}
		}
	})
	someSieves(func(f impl.Sieve) {
		f.Set = 0
		if !impl.ValidSieve(f) {
			t.Fatalf("ValidSieve(%v) is false", f)
		}
	})
}

func TestP31SievesThatAreNone(t *testing.T) {
	eachBadSieve(func(f impl.Sieve) {
		if impl.ValidSieve(f) {
			t.Errorf("ValidSieve(%v) is true", f)
		}
	})
}

func TestP32KeysHaveAtMostAsManyBitsAsWays(t *testing.T) {
	eachSize(func(bits int, ways int) {
		for key := range impl.MaxMark + 1 {
			f := impl.Sieve{Bits: bits, Ways: ways}
			marks := impl.MarksOf(f, key)
			if want := sumOf(markBits(bits, ways, key)); marks != want {
				t.Fatalf("MarksOf(%v, %d) = %d, not %d", f, key, marks, want)
			}
			if n := len(bitsOf(marks)); n < 1 || n > ways || marks >= power(2, bits) {
				t.Fatalf("MarksOf(%v, %d) = %d", f, key, marks)
			}
		}
	})
	// The bits that are set do not matter.
	someSieves(func(f impl.Sieve) {
		for key := range impl.MaxMark + 1 {
			marks := impl.MarksOf(f, key)
			if other := impl.MarksOf(impl.Sieve{Bits: f.Bits, Ways: f.Ways}, key); marks != other {
				t.Fatalf("MarksOf(%v, %d) = %d, without bits set it is %d", f, key, marks, other)
			}
		}
	})
}

func TestP32MarksOf(t *testing.T) {
	cases := []struct {
		f     impl.Sieve
		key   int
		marks int
	}{
		{impl.Sieve{Bits: 8, Ways: 2}, 3, 1<<3 | 1<<7},
		{impl.Sieve{Bits: 8, Ways: 2}, 34, 1<<4 | 1<<0},
		{impl.Sieve{Bits: 8, Ways: 2, Set: 255}, 34, 1<<4 | 1<<0},
		{impl.Sieve{Bits: 1, Ways: 1}, 0, 1},
		{impl.Sieve{Bits: 1, Ways: 4}, 92, 1},
		{impl.Sieve{Bits: 16, Ways: 1}, 0, 1},
		{impl.Sieve{Bits: 16, Ways: 1}, 30, 1 << 14},
		{impl.Sieve{Bits: 16, Ways: 1}, 31, 1 << 1},
		{impl.Sieve{Bits: 16, Ways: 1}, 62, 1 << 2},
		// The first two ways have the same bit.
		{impl.Sieve{Bits: 16, Ways: 4}, 92, 1<<1 | 1<<3 | 1<<7},
		{impl.Sieve{Bits: 16, Ways: 4}, 0, 1<<0 | 1<<1 | 1<<4 | 1<<9},
		{impl.Sieve{Bits: 4, Ways: 4}, 0, 1<<0 | 1<<1},
	}
	for _, c := range cases {
		if marks := impl.MarksOf(c.f, c.key); marks != c.marks {
			t.Errorf("MarksOf(%v, %d) = %d, not %d", c.f, c.key, marks, c.marks)
		}
	}
	eachBadSieve(func(f impl.Sieve) {
		for _, key := range []int{0, 1, 92} {
			if marks := impl.MarksOf(f, key); marks != -1 {
				t.Errorf("MarksOf(%v, %d) = %d", f, key, marks)
			}
		}
	})
	for _, key := range badMarks {
		for _, f := range []impl.Sieve{{}, {Bits: 1, Ways: 1}, {Bits: 8, Ways: 2, Set: 136}, {Bits: 16, Ways: 4, Set: 65535}} {
			if marks := impl.MarksOf(f, key); marks != -1 {
				t.Errorf("MarksOf(%v, %d) = %d", f, key, marks)
			}
		}
	}
}

// hadBits reports whether all bits of the key are among those that are set.
func hadBits(f impl.Sieve, key int) bool {
	set := bitsOf(f.Set)
	for _, bit := range markBits(f.Bits, f.Ways, key) {
		if !slices.Contains(set, bit) {
			return false
		}
	}
	return true
}

func TestP33WhatIsAddedIsHad(t *testing.T) {
	someSieves(func(f impl.Sieve) {
		for key := range impl.MaxMark + 1 {
			g, ok := impl.AddKey(f, key)
			if !ok || g.Bits != f.Bits || g.Ways != f.Ways || !impl.MayHave(g, key) {
				t.Fatalf("AddKey(%v, %d) = %v, %t", f, key, g, ok)
			}
			if want := sumOf(append(bitsOf(f.Set), markBits(f.Bits, f.Ways, key)...)); g.Set != want {
				t.Fatalf("AddKey(%v, %d) = %v, not of %d", f, key, g, want)
			}
		}
	})
	next := samples()
	someSieves(func(f impl.Sieve) {
		g, ok := impl.AddKey(f, next(93))
		for key := range impl.MaxMark + 1 {
			if impl.MayHave(f, key) && !(ok && impl.MayHave(g, key)) {
				t.Fatalf("MayHave(%v, %d) holds, and of %v with one more key it does not", f, key, g)
			}
		}
	})
}

func TestP33ManyKeysAreHad(t *testing.T) {
	next := samples()
	eachSize(func(bits int, ways int) {
		f := impl.Sieve{Bits: bits, Ways: ways}
		added := []int{}
		for range 12 {
			key, ok := next(93), false
			added = append(added, key)
			if f, ok = impl.AddKey(f, key); !ok {
				t.Fatalf("AddKey of %d is not there for %v", key, added)
			}
			for _, other := range added {
				if !impl.MayHave(f, other) {
					t.Fatalf("MayHave(%v, %d) is false after %v", f, other, added)
				}
			}
		}
	})
}

func TestP33AddKey(t *testing.T) {
	cases := []struct {
		f   impl.Sieve
		key int
		set int
	}{
		{impl.Sieve{Bits: 8, Ways: 2}, 3, 136},
		{impl.Sieve{Bits: 8, Ways: 2, Set: 136}, 3, 136},
		{impl.Sieve{Bits: 8, Ways: 2, Set: 136}, 34, 153},
		{impl.Sieve{Bits: 8, Ways: 2, Set: 255}, 34, 255},
		{impl.Sieve{Bits: 1, Ways: 1}, 92, 1},
		{impl.Sieve{Bits: 1, Ways: 4, Set: 1}, 0, 1},
		{impl.Sieve{Bits: 16, Ways: 1, Set: 1}, 30, 1<<14 | 1},
		{impl.Sieve{Bits: 16, Ways: 4}, 0, 1<<0 | 1<<1 | 1<<4 | 1<<9},
	}
	for _, c := range cases {
		want := impl.Sieve{Bits: c.f.Bits, Ways: c.f.Ways, Set: c.set}
		if g, ok := impl.AddKey(c.f, c.key); !ok || g != want {
			t.Errorf("AddKey(%v, %d) = %v, %t, not %v", c.f, c.key, g, ok, want)
		}
	}
	refused := func(f impl.Sieve, key int) {
		t.Helper()
		if g, ok := impl.AddKey(f, key); ok || g != (impl.Sieve{}) {
			t.Errorf("AddKey(%v, %d) = %v, %t", f, key, g, ok)
		}
	}
	eachBadSieve(func(f impl.Sieve) {
		for _, key := range []int{0, 1, 92} {
			refused(f, key)
		}
	})
	for _, key := range badMarks {
		refused(impl.Sieve{}, key)
		refused(impl.Sieve{Bits: 1, Ways: 1}, key)
		refused(impl.Sieve{Bits: 8, Ways: 2, Set: 136}, key)
		refused(impl.Sieve{Bits: 16, Ways: 4, Set: 65535}, key)
	}
}

func TestP34KeysWithAllBitsMayBeHad(t *testing.T) {
	had, missing := 0, 0
	someSieves(func(f impl.Sieve) {
		for key := range impl.MaxMark + 1 {
			may := impl.MayHave(f, key)
			if want := hadBits(f, key); may != want {
				t.Fatalf("MayHave(%v, %d) = %t", f, key, may)
			}
			if g, ok := impl.AddKey(f, key); !ok || may != (g == f) {
				t.Fatalf("MayHave(%v, %d) = %t, and AddKey is %v", f, key, may, g)
			}
			if may {
				had++
			} else {
				missing++
			}
		}
	})
	if had < 1000 || missing < 1000 {
		t.Errorf("keys are had %d times, and %d times not", had, missing)
	}
}

func TestP34MayHave(t *testing.T) {
	cases := []struct {
		f   impl.Sieve
		key int
		may bool
	}{
		{impl.Sieve{Bits: 8, Ways: 2}, 3, false},
		{impl.Sieve{Bits: 8, Ways: 2, Set: 136}, 3, true},
		{impl.Sieve{Bits: 8, Ways: 2, Set: 136}, 34, false},
		{impl.Sieve{Bits: 8, Ways: 2, Set: 137}, 3, true},
		// One of two bits is not enough.
		{impl.Sieve{Bits: 8, Ways: 2, Set: 128}, 3, false},
		{impl.Sieve{Bits: 8, Ways: 2, Set: 8}, 3, false},
		{impl.Sieve{Bits: 8, Ways: 2, Set: 255}, 34, true},
		// 11 has the bits of 3, and was not added.
		{impl.Sieve{Bits: 8, Ways: 2, Set: 136}, 11, true},
		{impl.Sieve{Bits: 1, Ways: 1}, 0, false},
		{impl.Sieve{Bits: 1, Ways: 1, Set: 1}, 92, true},
		{impl.Sieve{Bits: 16, Ways: 4, Set: 65535}, 92, true},
		{impl.Sieve{Bits: 16, Ways: 4}, 92, false},
	}
	for _, c := range cases {
		if may := impl.MayHave(c.f, c.key); may != c.may {
			t.Errorf("MayHave(%v, %d) = %t", c.f, c.key, may)
		}
	}
	eachBadSieve(func(f impl.Sieve) {
		for key := range impl.MaxMark + 1 {
			if impl.MayHave(f, key) {
				t.Fatalf("MayHave(%v, %d) is true", f, key)
			}
		}
	})
	for _, key := range badMarks {
		for _, f := range []impl.Sieve{{}, {Bits: 1, Ways: 1, Set: 1}, {Bits: 8, Ways: 2, Set: 136}, {Bits: 16, Ways: 4, Set: 65535}} {
			if impl.MayHave(f, key) {
				t.Errorf("MayHave(%v, %d) is true", f, key)
			}
		}
	}
}

func TestP35SievesWithAllBitsHaveAllKeys(t *testing.T) {
	eachSize(func(bits int, ways int) {
		full := impl.Sieve{Bits: bits, Ways: ways, Set: power(2, bits) - 1}
		if n := impl.HowMany(full); n != 93 {
			t.Fatalf("HowMany(%v) = %d", full, n)
		}
		empty := impl.Sieve{Bits: bits, Ways: ways}
		if n := impl.HowMany(empty); n != 0 {
			t.Fatalf("HowMany(%v) = %d", empty, n)
		}
	})
	someSieves(func(f impl.Sieve) {
		n, count := impl.HowMany(f), 0
		for key := range impl.MaxMark + 1 {
			if hadBits(f, key) {
				count++
			}
		}
		if n != count {
			t.Fatalf("HowMany(%v) = %d, not %d", f, n, count)
		}
		for _, bit := range bitsOf(f.Set) {
			g := f
			g.Set -= power(2, bit)
			if fewer := impl.HowMany(g); fewer > n {
				t.Fatalf("HowMany(%v) = %d, of %v it is %d", f, n, g, fewer)
			}
		}
	})
}

func TestP35HowMany(t *testing.T) {
	cases := []struct {
		f impl.Sieve
		n int
	}{
		{impl.Sieve{Bits: 8, Ways: 2}, 0},
		{impl.Sieve{Bits: 1, Ways: 1, Set: 1}, 93},
		{impl.Sieve{Bits: 16, Ways: 4, Set: 65535}, 93},
		// By one way and 16 bits the bits 0 to 14 have two keys of 31, and 15 has one.
		{impl.Sieve{Bits: 16, Ways: 1, Set: 1}, 6},
		{impl.Sieve{Bits: 16, Ways: 1, Set: 1 << 15}, 3},
		{impl.Sieve{Bits: 16, Ways: 1, Set: 65534}, 87},
		{impl.Sieve{Bits: 2, Ways: 1, Set: 1}, 48},
		{impl.Sieve{Bits: 2, Ways: 1, Set: 2}, 45},
	}
	for _, c := range cases {
		if n := impl.HowMany(c.f); n != c.n {
			t.Errorf("HowMany(%v) = %d, not %d", c.f, n, c.n)
		}
	}
	eachBadSieve(func(f impl.Sieve) {
		if n := impl.HowMany(f); n != -1 {
			t.Errorf("HowMany(%v) = %d", f, n)
		}
	})
}

// equalRows reports whether rows have the same numbers.
func equalRows(rows [][]int, others [][]int) bool {
	return slices.EqualFunc(rows, others, slices.Equal[[]int])
}

// counted returns rows of counts, place by place.
func counted(ways int, bits int, keys []int) [][]int {
	var rows [][]int
	for i := range ways {
		var row []int
		for place := range bits {
			count := 0
			for _, key := range keys {
				if hashed(i+1, i, bits, key) == place {
					count++
				}
			}
			row = append(row, count)
		}
		rows = append(rows, row)
	}
	return rows
}

// countedKeys visits no keys, each key alone, the same one again and again,
// those at both ends, and fixed samples, in which keys may come twice.
func countedKeys(visit func(keys []int)) {
	visit(nil)
	visit([]int{})
	for key := range impl.Prime {
		visit([]int{key})
		visit(slices.Repeat([]int{key}, impl.MaxKeys))
	}
	next := samples()
	for n := 2; n <= impl.MaxKeys; n++ {
		low, high := make([]int, n), make([]int, n)
		for i := range n {
			low[i], high[i] = i, 30-i
		}
		visit(low)
		visit(high)
		for range 10 {
			wide, near := make([]int, n), make([]int, n)
			for i := range n {
				wide[i], near[i] = next(31), 14+next(3)
			}
			visit(wide)
			visit(near)
		}
	}
}

func TestP36RowsCountAllKeys(t *testing.T) {
	countedKeys(func(keys []int) {
		eachSize(func(bits int, ways int) {
			rows := impl.CountKeys(ways, bits, keys)
			if want := counted(ways, bits, keys); !equalRows(rows, want) {
				t.Fatalf("CountKeys(%d, %d, %v) = %v, not %v", ways, bits, keys, rows, want)
			}
			if other := impl.CountKeys(ways, bits, reversed(keys)); !equalRows(rows, other) {
				t.Fatalf("CountKeys(%d, %d, %v) = %v, the other way round %v", ways, bits, keys, rows, other)
			}
			for _, row := range rows {
				if sum(row) != len(keys) || len(row) != bits {
					t.Fatalf("CountKeys(%d, %d, %v) = %v", ways, bits, keys, rows)
				}
			}
		})
	})
}

// eachBadCounted visits keys that cannot be counted.
func eachBadCounted(visit func(keys []int)) {
	visit(make([]int, impl.MaxKeys+1))
	visit([]int{0, 1, 2, 3, 4, 5, 6, 7, 8})
	visit(make([]int, 31))
	for _, key := range badRests {
		visit([]int{key})
		visit([]int{0, key})
		visit([]int{key, 30})
		visit([]int{0, 1, 2, 3, 4, 5, 6, key})
	}
}

func TestP36CountKeys(t *testing.T) {
	cases := []struct {
		ways, bits int
		keys       []int
		rows       [][]int
	}{
		{2, 4, []int{1, 1, 5, 2}, [][]int{{0, 3, 1, 0}, {0, 1, 0, 3}}},
		{1, 1, nil, [][]int{{0}}},
		{1, 1, []int{0, 30}, [][]int{{2}}},
		{3, 2, nil, [][]int{{0, 0}, {0, 0}, {0, 0}}},
		{4, 3, []int{0}, [][]int{{1, 0, 0}, {0, 1, 0}, {0, 0, 1}, {1, 0, 0}}},
		{4, 1, []int{7, 7, 7, 7, 7, 7, 7, 7}, [][]int{{8}, {8}, {8}, {8}}},
		{1, 16, []int{15, 30, 14, 30}, [][]int{{0, 0, 0, 0, 0, 0, 0, 0, 0, 0, 0, 0, 0, 0, 3, 1}}},
	}
	for _, c := range cases {
		if rows := impl.CountKeys(c.ways, c.bits, c.keys); !equalRows(rows, c.rows) {
			t.Errorf("CountKeys(%d, %d, %v) = %v, not %v", c.ways, c.bits, c.keys, rows, c.rows)
		}
	}
	refused := func(ways int, bits int, keys []int) {
		t.Helper()
		if rows := impl.CountKeys(ways, bits, keys); len(rows) != 0 {
			t.Errorf("CountKeys(%d, %d, %v) = %v", ways, bits, keys, rows)
		}
	}
	for _, keys := range [][]int{nil, {0}, {1, 1, 5, 2}} {
		for _, ways := range badWays {
			refused(ways, 1, keys)
			refused(ways, 16, keys)
		}
		for _, bits := range badBits {
			refused(1, bits, keys)
			refused(4, bits, keys)
		}
	}
	eachBadCounted(func(keys []int) {
		refused(1, 1, keys)
		refused(2, 4, keys)
		refused(4, 16, keys)
	})
}

// guessed returns the least count of a key, from the greatest one down.
func guessed(rows [][]int, key int) int {
	for guess := 100; ; guess-- {
		reached := true
		for i, row := range rows {
			reached = reached && row[hashed(i+1, i, len(row), key)] >= guess
		}
		if reached {
			return guess
		}
	}
}

func TestP37GuessesAreNoLess(t *testing.T) {
	more := 0
	countedKeys(func(keys []int) {
		eachSize(func(bits int, ways int) {
			rows := impl.CountKeys(ways, bits, keys)
			for key := range impl.Prime {
				often := 0
				for _, other := range keys {
					if other == key {
						often++
					}
				}
				guess := impl.GuessOf(rows, key)
				if guess < often || guess > len(keys) || guess != guessed(rows, key) {
					t.Fatalf("GuessOf(%v, %d) = %d, and it comes %d times", rows, key, guess, often)
				}
				if guess > often {
					more++
				}
			}
		})
	})
	if more < 1000 {
		t.Errorf("just %d times the guess is more than how often the key comes", more)
	}
}

func TestP37GuessOfOtherCounts(t *testing.T) {
	next := samples()
	eachSize(func(bits int, ways int) {
		for range 20 {
			rows := make([][]int, ways)
			for i := range rows {
				for range bits {
					rows[i] = append(rows[i], next(101))
				}
			}
			for key := range impl.Prime {
				if guess, want := impl.GuessOf(rows, key), guessed(rows, key); guess != want {
					t.Fatalf("GuessOf(%v, %d) = %d, not %d", rows, key, guess, want)
				}
			}
		}
	})
}

func TestP37GuessOf(t *testing.T) {
	rows := [][]int{{0, 3, 1, 0}, {0, 1, 0, 3}}
	cases := []struct {
		rows  [][]int
		key   int
		guess int
	}{
		{rows, 1, 3},
		{rows, 2, 1},
		{rows, 0, 0},
		{rows, 30, 0},
		{[][]int{{0}}, 0, 0},
		{[][]int{{100}}, 30, 100},
		{[][]int{{100}, {100}, {100}, {100}}, 0, 100},
		{[][]int{{100}, {99}, {100}, {98}}, 0, 98},
		{[][]int{{1, 2, 3}}, 30, 1},
		{[][]int{{1, 2, 3}}, 29, 3},
		{[][]int{make([]int, 16)}, 15, 0},
		// In the row 1 the key 0 has the place 1, in the row 2 the place 2.
		{[][]int{{9, 0, 0}, {0, 8, 0}, {0, 0, 7}}, 0, 7},
	}
	for _, c := range cases {
		if guess := impl.GuessOf(c.rows, c.key); guess != c.guess {
			t.Errorf("GuessOf(%v, %d) = %d, not %d", c.rows, c.key, guess, c.guess)
		}
	}
}

func TestP37GuessOfOtherArguments(t *testing.T) {
	refused := func(rows [][]int, key int) {
		t.Helper()
		if guess := impl.GuessOf(rows, key); guess != -1 {
			t.Errorf("GuessOf(%v, %d) = %d", rows, key, guess)
		}
	}
	for _, rows := range [][][]int{
		nil,
		{},
		{nil},
		{{}},
		{nil, nil},
		{{}, {1}},
		{{1}, {}},
		{{1}, nil},
		{{1, 2}, {1}},
		{{1}, {1, 2}},
		{{1, 2}, {3, 4}, {5, 6}, {7}},
		{{1, 2}, {3, 4}, {5, 6, 7}, {7, 8}},
		{{1}, {1}, {1}, {1}, {1}},
		{{}, {}, {}, {}, {}},
		{make([]int, 17)},
		{make([]int, 16), make([]int, 17)},
		{make([]int, 17), make([]int, 17)},
		slices.Repeat([][]int{{1, 2}}, 64),
	} {
		for _, key := range []int{0, 1, 30} {
			refused(rows, key)
		}
	}
	// Counts that are none, also at places that the key does not have.
	counts := append([]int{-2, impl.MaxCount + 1, impl.MaxCount + 2, math.MinInt32, math.MaxInt32}, extremes...)
	for _, count := range counts {
		for _, key := range []int{0, 1, 30} {
			refused([][]int{{count}}, key)
			refused([][]int{{1, count}}, key)
			refused([][]int{{count, 1}}, key)
			refused([][]int{{1, 2, 3}, {4, count, 6}}, key)
			refused([][]int{{1, 2, 3}, {4, 5, count}}, key)
			refused([][]int{{1}, {2}, {3}, {count}}, key)
		}
	}
	for _, key := range badRests {
		refused(nil, key)
		refused([][]int{{1}}, key)
		refused([][]int{{0, 3, 1, 0}, {0, 1, 0, 3}}, key)
	}
}

// permuted returns all orders of n things, by putting the last one into each
// place of those of one fewer.
func permuted(n int) [][]int {
	if n == 0 {
		return [][]int{{}}
	}
	var orders [][]int
	for _, order := range permuted(n - 1) {
		for place := range n {
			orders = append(orders, slices.Insert(slices.Clone(order), place, n-1))
		}
	}
	return orders
}

// firstOf returns the thing of the set with the least place in the order.
func firstOf(order []int, set int) int {
	first, best := -1, len(order)
	for _, thing := range bitsOf(set) {
		if place := slices.Index(order, thing); place < best {
			first, best = thing, place
		}
	}
	return first
}

// sketched returns the first things of all orders of n things that are in each
// set, by as many orders a call as there may be.
func sketched(n int, set int) []int {
	var sketch []int
	for orders := range slices.Chunk(permuted(n), impl.MaxOrders) {
		sketch = append(sketch, impl.SketchOf(orders, set)...)
	}
	return sketch
}

func TestP38FirstThingsOfBothSetsAreFirstThingsOfOne(t *testing.T) {
	for n := 1; n <= impl.MaxThings; n++ {
		orders := permuted(n)
		sketches := [][]int{nil}
		for set := 1; set < power(2, n); set++ {
			sketch := sketched(n, set)
			if len(sketch) != len(orders) {
				t.Fatalf("SketchOf %d orders and %d has %d things", len(orders), set, len(sketch))
			}
			for i, first := range sketch {
				if first != firstOf(orders[i], set) || !slices.Contains(bitsOf(set), first) {
					t.Fatalf("SketchOf(%v, %d) = %d", orders[i], set, first)
				}
			}
			sketches = append(sketches, sketch)
		}
		for a := 1; a < power(2, n); a++ {
			for b := 1; b < power(2, n); b++ {
				for i, first := range sketches[a|b] {
					if first != sketches[a][i] && first != sketches[b][i] {
						t.Fatalf("SketchOf(%v, %d) = %d, of %d and %d it is not", orders[i], a|b, first, a, b)
					}
				}
			}
		}
	}
}

func TestP38SketchOf(t *testing.T) {
	cases := []struct {
		orders [][]int
		set    int
		sketch []int
	}{
		{[][]int{{2, 0, 1}, {1, 2, 0}}, 3, []int{0, 1}},
		{[][]int{{2, 0, 1}, {1, 2, 0}}, 7, []int{2, 1}},
		{[][]int{{2, 0, 1}, {1, 2, 0}}, 1, []int{0, 0}},
		{[][]int{{2, 0, 1}, {1, 2, 0}}, 4, []int{2, 2}},
		{[][]int{{0}}, 1, []int{0}},
		{[][]int{{0}, {0}, {0}, {0}, {0}, {0}}, 1, []int{0, 0, 0, 0, 0, 0}},
		{[][]int{{4, 3, 2, 1, 0}}, 1, []int{0}},
		{[][]int{{4, 3, 2, 1, 0}}, 16, []int{4}},
		{[][]int{{4, 3, 2, 1, 0}}, 31, []int{4}},
		{[][]int{{4, 3, 2, 1, 0}, {0, 1, 2, 3, 4}, {4, 3, 2, 1, 0}}, 10, []int{3, 1, 3}},
		{nil, 1, nil},
		{[][]int{}, 31, nil},
	}
	for _, c := range cases {
		if sketch := impl.SketchOf(c.orders, c.set); !slices.Equal(sketch, c.sketch) {
			t.Errorf("SketchOf(%v, %d) = %v, not %v", c.orders, c.set, sketch, c.sketch)
		}
	}
}

// badSets are no sets of some of n things.
func badSets(n int) []int {
	all := power(2, n)
	return append([]int{0, -2, -all, all, all + 1, 2*all - 1, 64, 1 << 62, math.MinInt32, math.MaxInt32}, extremes...)
}

func TestP38SketchOfOtherArguments(t *testing.T) {
	refused := func(orders [][]int, set int) {
		t.Helper()
		if sketch := impl.SketchOf(orders, set); len(sketch) != 0 {
			t.Errorf("SketchOf(%v, %d) = %v", orders, set, sketch)
		}
	}
	for _, orders := range [][][]int{
		{nil},
		{{}},
		{{}, {}},
		{{}, {0}},
		{{0}, {}},
		{{0}, nil},
		{{0, 0}},
		{{1, 1}},
		{{0, 1, 0}},
		{{1, 2, 1}},
		{{0, 1, 2, 3, 3}},
		{{1}},
		{{1, 2}},
		{{0, 2}},
		{{5, 0, 1, 2, 3}},
		{{0, 1}, {0, 0}},
		{{0, 1}, {0}},
		{{0}, {0, 1}},
		{{0, 1, 2}, {0, 1, 2}, {0, 1}},
		{{0, 1}, {1, 0}, {0, 1, 2}},
		{{0, 1, 2, 3, 4, 5}},
		{{5, 4, 3, 2, 1, 0}},
		{{0, 1, 2, 3, 4}, {0, 1, 2, 3, 4, 5}},
		{{0}, {0}, {0}, {0}, {0}, {0}, {0}},
		slices.Repeat([][]int{{0, 1, 2, 3, 4}}, 7),
		{make([]int, 64)},
	} {
		for _, set := range []int{1, 3, 31} {
			refused(orders, set)
		}
	}
	for _, thing := range append([]int{-2, 2, 5, 64, math.MinInt32, math.MaxInt32}, extremes...) {
		refused([][]int{{thing}}, 1)
		refused([][]int{{0, thing}}, 1)
		refused([][]int{{thing, 1}}, 2)
		refused([][]int{{0, 1}, {1, thing}}, 3)
	}
	for n := 1; n <= impl.MaxThings; n++ {
		orders := permuted(n)
		for _, set := range badSets(n) {
			refused(orders[:1], set)
			refused(orders[:min(impl.MaxOrders, len(orders))], set)
		}
	}
	for _, set := range badSets(0) {
		refused(nil, set)
		refused([][]int{{}}, set)
	}
}

func TestP39SetsMeetAsMuchAsTheyAreAlike(t *testing.T) {
	for n := 1; n <= impl.MaxThings; n++ {
		orders := permuted(n)
		for a := 1; a < power(2, n); a++ {
			for b := 1; b < power(2, n); b++ {
				meets, all := impl.MeetCount(n, a, b)
				count := 0
				for _, order := range orders {
					if firstOf(order, a) == firstOf(order, b) {
						count++
					}
				}
				if meets != count || all != len(orders) {
					t.Fatalf("MeetCount(%d, %d, %d) = %d, %d, not %d, %d", n, a, b, meets, all, count, len(orders))
				}
				one, both := len(bitsOf(a|b)), len(bitsOf(a&b))
				if meets*one != all*both {
					t.Fatalf("MeetCount(%d, %d, %d) = %d, %d, with %d in one and %d in both", n, a, b, meets, all, one, both)
				}
			}
		}
	}
}

func TestP39MeetCount(t *testing.T) {
	cases := []struct{ n, a, b, meets, all int }{
		{1, 1, 1, 1, 1},
		{2, 1, 2, 0, 2},
		{2, 1, 3, 1, 2},
		{3, 3, 6, 2, 6},
		{3, 1, 1, 6, 6},
		{3, 1, 2, 0, 6},
		{3, 7, 4, 2, 6},
		{4, 3, 12, 0, 24},
		{4, 7, 14, 12, 24},
		{5, 31, 31, 120, 120},
		{5, 31, 16, 24, 120},
		{5, 1, 31, 24, 120},
		{5, 15, 30, 72, 120},
		{5, 1, 16, 0, 120},
	}
	for _, c := range cases {
		if meets, all := impl.MeetCount(c.n, c.a, c.b); meets != c.meets || all != c.all {
			t.Errorf("MeetCount(%d, %d, %d) = %d, %d, not %d, %d", c.n, c.a, c.b, meets, all, c.meets, c.all)
		}
	}
	refused := func(n int, a int, b int) {
		t.Helper()
		if meets, all := impl.MeetCount(n, a, b); meets != -1 || all != -1 {
			t.Errorf("MeetCount(%d, %d, %d) = %d, %d", n, a, b, meets, all)
		}
	}
	for n := 1; n <= impl.MaxThings; n++ {
		for _, set := range badSets(n) {
			refused(n, set, 1)
			refused(n, 1, set)
			refused(n, set, set)
			refused(n, power(2, n)-1, set)
		}
	}
	for _, n := range append([]int{0, -2, -5, impl.MaxThings + 1, impl.MaxThings + 2, 63, 64, 65, math.MinInt32, math.MaxInt32}, extremes...) {
		refused(n, 1, 1)
		refused(n, 0, 0)
		refused(n, 1, 3)
		refused(n, 31, 31)
		refused(n, 32, 32)
	}
}

func TestFiltersKeepTheirArguments(t *testing.T) {
	keys := append(make([]int, 0, 9), 1, 1, 5, 2)
	counts := [][]int{{0, 3, 1, 0}, {0, 1, 0, 3}}
	orders := [][]int{{2, 0, 1}, {1, 2, 0}}
	for range 2 {
		rows, sketch := impl.CountKeys(2, 4, keys), impl.SketchOf(orders, 3)
		if guess := impl.GuessOf(counts, 1); guess != 3 || !equalRows(rows, counts) || !same(sketch, 0, 1) {
			t.Errorf("GuessOf, CountKeys and SketchOf = %d, %v, %v", guess, rows, sketch)
		}
		// No row shares memory with the next one, its spare capacity neither.
		spoil(rows[0])
		if !same(rows[1], 0, 1, 0, 3) {
			t.Errorf("CountKeys has the row %v after the other one was written over", rows[1])
		}
		spoil(rows[1])
		spoil(sketch)
		if meets, all := impl.MeetCount(3, 3, 6); meets != 2 || all != 6 {
			t.Errorf("MeetCount = %d, %d", meets, all)
		}
	}
	if !same(keys[:9], 1, 1, 5, 2, 0, 0, 0, 0, 0) || !equalRows(counts, [][]int{{0, 3, 1, 0}, {0, 1, 0, 3}}) {
		t.Errorf("the arguments are %v and %v", keys[:9], counts)
	}
	if !equalRows(orders, [][]int{{2, 0, 1}, {1, 2, 0}}) {
		t.Errorf("the orders are %v", orders)
	}
}
