package tests

import (
	"cmp"
	"fmt"
	"math"
	"regexp"
	"slices"
	"strconv"
	"strings"
	"testing"

	"loop.example/tablesthatspread/impl"
)

// sixDigits are the binary digits of each name, the last one first.
var sixDigits = func() [64]string {
	var digits [64]string
	for name := range digits {
		ahead := []byte(fmt.Sprintf("%06b", name))
		slices.Reverse(ahead)
		digits[name] = string(ahead)
	}
	return digits
}()

// digitsOf returns the last binary digits of a name, the last one first.
func digitsOf(depth int, name int) string {
	return sixDigits[name][:depth]
}

// withEnd returns the names, ascending, whose last digits are those of the end.
func withEnd(names []int, depth int, end int) []int {
	list := []int{}
	for name := range 64 {
		if slices.Contains(names, name) && digitsOf(depth, name) == digitsOf(depth, end) {
			list = append(list, name)
		}
	}
	return list
}

// partedBy returns the buckets of names: of all ends of all depths those that
// have room, where one digit fewer has none, in the order of their digits from
// the last one on.
func partedBy(names []int, room int) []impl.Bucket {
	var buckets []impl.Bucket
	for depth := range 7 {
		for end := range power(2, depth) {
			list := withEnd(names, depth, end)
			if len(list) <= room && (depth == 0 || len(withEnd(names, depth-1, end)) > room) {
				buckets = append(buckets, impl.Bucket{Depth: depth, End: end, Names: list})
			}
		}
	}
	slices.SortFunc(buckets, func(one impl.Bucket, other impl.Bucket) int {
		return cmp.Compare(digitsOf(one.Depth, one.End), digitsOf(other.Depth, other.End))
	})
	return buckets
}

// equalBuckets reports whether buckets are the same, one by one.
func equalBuckets(buckets []impl.Bucket, others []impl.Bucket) bool {
	return slices.EqualFunc(buckets, others, func(one impl.Bucket, other impl.Bucket) bool {
		return one.Depth == other.Depth && one.End == other.End && slices.Equal(one.Names, other.Names)
	})
}

// fewNames visits all sets of up to two names, ascending.
func fewNames(visit func(names []int)) {
	visit(nil)
	visit([]int{})
	for a := range 64 {
		visit([]int{a})
		for b := a + 1; b < 64; b++ {
			visit([]int{a, b})
		}
	}
}

// threeNames visits all sets of three names, ascending.
func threeNames(visit func(names []int)) {
	for a := range 64 {
		for b := a + 1; b < 64; b++ {
			for c := b + 1; c < 64; c++ {
				visit([]int{a, b, c})
			}
		}
	}
}

// moreNames visits names of each number from four on: those as far from the next
// one as powers of 2, and fixed samples in any order, of all names, of pairs that
// differ in their first digits alone, and of names with the same end.
func moreNames(visit func(names []int)) {
	next := samples()
	for n := 4; n <= impl.MaxNames; n++ {
		for step := 1; step*n <= 64; step *= 2 {
			first, last := make([]int, n), make([]int, n)
			for i := range n {
				first[i], last[i] = step*i, 63-step*i
			}
			visit(first)
			visit(last)
		}
		for range 40 {
			visit(differentBelow(next, 64, n))
			pairs := differentBelow(next, 32, (n+1)/2)
			for _, name := range pairs[:n/2] {
				pairs = append(pairs, name+32)
			}
			visit(pairs)
		}
		for step := 2; step*n <= 64; step *= 2 {
			for range 20 {
				list, end := differentBelow(next, 64/step, n), next(step)
				for i := range list {
					list[i] = list[i]*step + end
				}
				visit(list)
			}
		}
	}
}

// someNames visits names of each number up to MaxNames but three of them.
func someNames(visit func(names []int)) {
	fewNames(visit)
	moreNames(visit)
}

// turned returns the numbers in some other orders.
func turned(list []int) [][]int {
	half := len(list) / 2
	ascending := slices.Sorted(slices.Values(list))
	return [][]int{reversed(list), ascending, reversed(ascending), slices.Concat(list[half:], list[:half])}
}

// badNames are no names.
var badNames = append([]int{-2, -63, -64, 64, 65, 127, 128, math.MinInt32, math.MaxInt32}, extremes...)

// eachBadNames visits numbers that are no names, or too many.
func eachBadNames(visit func(names []int)) {
	for _, names := range [][]int{
		{0, 0},
		{63, 63},
		{7, 7},
		{1, 2, 1},
		{2, 1, 1},
		{1, 1, 2},
		{0, 1, 2, 3, 4, 5, 6, 7, 8, 9, 10, 0},
		{0, 1, 2, 3, 4, 5, 6, 7, 8, 9, 10, 10},
		{0, 1, 2, 3, 4, 5, 6, 7, 8, 9, 10, 11, 12},
		{12, 11, 10, 9, 8, 7, 6, 5, 4, 3, 2, 1, 0},
		{9, 9, 9, 9, 9, 9, 9, 9, 9, 9, 9, 9, 9},
		{51, 52, 53, 54, 55, 56, 57, 58, 59, 60, 61, 62, 63},
		make([]int, 64),
		make([]int, 1000),
	} {
		visit(names)
	}
	for _, name := range badNames {
		visit([]int{name})
		visit([]int{0, name})
		visit([]int{name, 63})
		visit([]int{7, name, 9})
		visit([]int{0, 1, 2, 3, 4, 5, 6, 7, 8, 9, 10, name})
	}
}

// badRooms are no room of a bucket.
var badRooms = append([]int{0, -2, -4, 5, 6, 12, 64, math.MinInt32, math.MaxInt32}, extremes...)

func TestLimitsOfGrowing(t *testing.T) {
	if impl.MaxDepth != 6 || impl.MaxNames != 12 || impl.MaxRoom != 4 {
		t.Errorf("the limits are %d, %d, %d", impl.MaxDepth, impl.MaxNames, impl.MaxRoom)
	}
	if impl.MaxLine != 40 || impl.MaxTree != 400 || impl.MaxDesk != 20 {
		t.Errorf("the limits are %d, %d, %d", impl.MaxLine, impl.MaxTree, impl.MaxDesk)
	}
}

// checkBuckets fails if the buckets do not part the names.
func checkBuckets(t *testing.T, names []int, room int, buckets []impl.Bucket) {
	t.Helper()
	all := []int{}
	for _, bucket := range buckets {
		for _, name := range bucket.Names {
			if name%power(2, bucket.Depth) != bucket.End {
				t.Fatalf("BucketsOf(%v, %d) = %v, with %d in a bucket with the end %d", names, room, buckets, name, bucket.End)
			}
		}
		if len(bucket.Names) > room || !slices.IsSorted(bucket.Names) {
			t.Fatalf("BucketsOf(%v, %d) = %v", names, room, buckets)
		}
		all = append(all, bucket.Names...)
	}
	slices.Sort(all)
	if !slices.Equal(all, slices.Sorted(slices.Values(names))) {
		t.Fatalf("BucketsOf(%v, %d) = %v", names, room, buckets)
	}
}

func TestP40BucketsPartTheNames(t *testing.T) {
	parted := 0
	someNames(func(names []int) {
		for room := 1; room <= impl.MaxRoom; room++ {
			buckets := impl.BucketsOf(names, room)
			if want := partedBy(names, room); !equalBuckets(buckets, want) {
				t.Fatalf("BucketsOf(%v, %d) = %v, not %v", names, room, buckets, want)
			}
			checkBuckets(t, names, room, buckets)
			for _, other := range turned(names) {
				if again := impl.BucketsOf(other, room); !equalBuckets(buckets, again) {
					t.Fatalf("BucketsOf(%v, %d) = %v, of %v it is %v", names, room, buckets, other, again)
				}
			}
			parted = max(parted, len(buckets))
		}
	})
	if parted < 24 {
		t.Errorf("the names are parted into %d buckets at most", parted)
	}
}

func TestP40BucketsOfThreeNames(t *testing.T) {
	threeNames(func(names []int) {
		for room := 1; room <= 3; room++ {
			checkBuckets(t, names, room, impl.BucketsOf(names, room))
		}
	})
}

// bucket returns a bucket with names.
func bucket(depth int, end int, names ...int) impl.Bucket {
	return impl.Bucket{Depth: depth, End: end, Names: names}
}

func TestP40BucketsOf(t *testing.T) {
	cases := []struct {
		names   []int
		room    int
		buckets []impl.Bucket
	}{
		{[]int{5, 1, 2, 9}, 2, []impl.Bucket{bucket(1, 0, 2), bucket(3, 1, 1, 9), bucket(3, 5, 5), bucket(2, 3)}},
		{[]int{1, 2, 3}, 1, []impl.Bucket{bucket(1, 0, 2), bucket(2, 1, 1), bucket(2, 3, 3)}},
		// No names, and one bucket.
		{nil, 1, []impl.Bucket{bucket(0, 0)}},
		{nil, 4, []impl.Bucket{bucket(0, 0)}},
		{[]int{}, 2, []impl.Bucket{bucket(0, 0)}},
		{[]int{0}, 1, []impl.Bucket{bucket(0, 0, 0)}},
		{[]int{63}, 1, []impl.Bucket{bucket(0, 0, 63)}},
		{[]int{9, 3, 7, 5}, 4, []impl.Bucket{bucket(0, 0, 3, 5, 7, 9)}},
		{[]int{63, 0}, 2, []impl.Bucket{bucket(0, 0, 0, 63)}},
		// The bucket is full, and has one more.
		{[]int{3, 1}, 2, []impl.Bucket{bucket(0, 0, 1, 3)}},
		{[]int{3, 1, 5}, 2, []impl.Bucket{bucket(1, 0), bucket(2, 1, 1, 5), bucket(2, 3, 3)}},
		// Names with the same end, up to the first digit of all.
		{[]int{32, 0}, 1, []impl.Bucket{bucket(6, 0, 0), bucket(6, 32, 32), bucket(5, 16), bucket(4, 8), bucket(3, 4), bucket(2, 2), bucket(1, 1)}},
		{[]int{31, 63}, 1, []impl.Bucket{bucket(1, 0), bucket(2, 1), bucket(3, 3), bucket(4, 7), bucket(5, 15), bucket(6, 31, 31), bucket(6, 63, 63)}},
		{[]int{2, 18, 34, 50, 10}, 4, []impl.Bucket{bucket(2, 0), bucket(4, 2, 2, 18, 34, 50), bucket(4, 10, 10), bucket(3, 6), bucket(1, 1)}},
		{[]int{7, 15, 23, 31, 39}, 4, []impl.Bucket{bucket(1, 0), bucket(2, 1), bucket(3, 3), bucket(4, 7, 7, 23, 39), bucket(4, 15, 15, 31)}},
		{[]int{11, 10, 9, 8, 7, 6, 5, 4, 3, 2, 1, 0}, 4, []impl.Bucket{bucket(2, 0, 0, 4, 8), bucket(2, 2, 2, 6, 10), bucket(2, 1, 1, 5, 9), bucket(2, 3, 3, 7, 11)}},
	}
	for _, c := range cases {
		if buckets := impl.BucketsOf(c.names, c.room); !equalBuckets(buckets, c.buckets) {
			t.Errorf("BucketsOf(%v, %d) = %v, not %v", c.names, c.room, buckets, c.buckets)
		}
	}
}

func TestP40BucketsOfOtherArguments(t *testing.T) {
	refused := func(names []int, room int) {
		t.Helper()
		if buckets := impl.BucketsOf(names, room); len(buckets) != 0 {
			t.Errorf("BucketsOf(%v, %d) = %v", names, room, buckets)
		}
	}
	eachBadNames(func(names []int) {
		for room := range impl.MaxRoom + 2 {
			refused(names, room)
		}
	})
	for _, room := range badRooms {
		refused(nil, room)
		refused([]int{0}, room)
		refused([]int{5, 1, 2, 9}, room)
		refused([]int{0, 1, 2, 3, 4, 5, 6, 7, 8, 9, 10, 11}, room)
	}
}

// directed returns the greatest number of digits of buckets, and for each number
// with so many the bucket whose digits it ends in.
func directed(names []int, room int) (int, []int) {
	buckets, depth := partedBy(names, room), 0
	for _, bucket := range buckets {
		depth = max(depth, bucket.Depth)
	}
	directory := make([]int, power(2, depth))
	for number := range directory {
		directory[number] = slices.IndexFunc(buckets, func(bucket impl.Bucket) bool {
			return strings.HasPrefix(digitsOf(depth, number), digitsOf(bucket.Depth, bucket.End))
		})
	}
	return depth, directory
}

// checkDirectory fails if a name is not in the bucket of the directory.
func checkDirectory(t *testing.T, names []int, room int) {
	t.Helper()
	buckets := impl.BucketsOf(names, room)
	depth, directory := impl.DirectoryOf(names, room)
	if depth < 0 || len(directory) != power(2, depth) {
		t.Fatalf("DirectoryOf(%v, %d) = %d, %v", names, room, depth, directory)
	}
	for _, name := range names {
		index := directory[name%len(directory)]
		if index < 0 || index >= len(buckets) || !slices.Contains(buckets[index].Names, name) {
			t.Fatalf("DirectoryOf(%v, %d) = %d, %v, of %v", names, room, depth, directory, buckets)
		}
	}
	for index := range buckets {
		if !slices.Contains(directory, index) {
			t.Fatalf("DirectoryOf(%v, %d) = %d, %v, without %d", names, room, depth, directory, index)
		}
	}
}

func TestP41DirectoriesFindAllNames(t *testing.T) {
	depths := [7]int{}
	someNames(func(names []int) {
		for room := 1; room <= impl.MaxRoom; room++ {
			checkDirectory(t, names, room)
			depth, directory := impl.DirectoryOf(names, room)
			most, want := directed(names, room)
			if depth != most || !slices.Equal(directory, want) {
				t.Fatalf("DirectoryOf(%v, %d) = %d, %v, not %d, %v", names, room, depth, directory, most, want)
			}
			depths[depth]++
		}
	})
	if slices.Min(depths[:]) < 50 {
		t.Errorf("the directories of each depth are %v", depths)
	}
}

func TestP41DirectoriesOfThreeNames(t *testing.T) {
	threeNames(func(names []int) {
		checkDirectory(t, names, 1)
		checkDirectory(t, names, 2)
		checkDirectory(t, names, 3)
	})
}

func TestP41DirectoryOf(t *testing.T) {
	cases := []struct {
		names     []int
		room      int
		depth     int
		directory []int
	}{
		{[]int{1, 2, 3}, 1, 2, []int{0, 1, 0, 2}},
		{[]int{3, 1, 2}, 1, 2, []int{0, 1, 0, 2}},
		{[]int{5, 1, 2, 9}, 2, 3, []int{0, 1, 0, 3, 0, 2, 0, 3}},
		// No names, and one bucket.
		{nil, 1, 0, []int{0}},
		{[]int{}, 4, 0, []int{0}},
		{[]int{7}, 1, 0, []int{0}},
		{[]int{3, 5, 7, 9}, 4, 0, []int{0}},
		{[]int{0, 1}, 1, 1, []int{0, 1}},
		// Names with the same end.
		{[]int{1, 3, 5}, 2, 2, []int{0, 1, 0, 2}},
		{[]int{0, 8}, 1, 4, []int{0, 4, 3, 4, 2, 4, 3, 4, 1, 4, 3, 4, 2, 4, 3, 4}},
		{[]int{11, 10, 9, 8, 7, 6, 5, 4, 3, 2, 1, 0}, 4, 2, []int{0, 2, 1, 3}},
	}
	for _, c := range cases {
		depth, directory := impl.DirectoryOf(c.names, c.room)
		if depth != c.depth || !slices.Equal(directory, c.directory) {
			t.Errorf("DirectoryOf(%v, %d) = %d, %v, not %d, %v", c.names, c.room, depth, directory, c.depth, c.directory)
		}
	}
	if depth, directory := impl.DirectoryOf([]int{31, 63}, 1); depth != 6 || len(directory) != 64 || directory[31] != 5 || directory[63] != 6 {
		t.Errorf("DirectoryOf = %d, %v", depth, directory)
	}
}

func TestP41DirectoryOfOtherArguments(t *testing.T) {
	refused := func(names []int, room int) {
		t.Helper()
		if depth, directory := impl.DirectoryOf(names, room); depth != -1 || len(directory) != 0 {
			t.Errorf("DirectoryOf(%v, %d) = %d, %v", names, room, depth, directory)
		}
	}
	eachBadNames(func(names []int) {
		for room := range impl.MaxRoom + 2 {
			refused(names, room)
		}
	})
	for _, room := range badRooms {
		refused(nil, room)
		refused([]int{0}, room)
		refused([]int{5, 1, 2, 9}, room)
		refused([]int{0, 1, 2, 3, 4, 5, 6, 7, 8, 9, 10, 11}, room)
	}
}

// grown returns for each name its bucket in a table that grows from one bucket
// to count: the buckets are parted by turns, each once a round, and of a round
// the names have one digit more than of the one ahead of it.
func grown(count int) []int {
	homes := make([]int, 64)
	parted, round, digit := 0, 1, 1
	for buckets := 1; buckets < count; buckets++ {
		for name, home := range homes {
			if home == parted && name/digit%2 == 1 {
				homes[name] = buckets
			}
		}
		parted++
		if parted == round {
			parted, round, digit = 0, 2*round, 2*digit
		}
	}
	return homes
}

// badCounts are no numbers of buckets of a table that grows one by one.
var badCounts = append([]int{0, -2, -40, 41, 42, 63, 64, 80, math.MinInt32, math.MaxInt32}, extremes...)

func TestP42NamesMoveToTheNewBucketAlone(t *testing.T) {
	for count := 1; count <= impl.MaxLine; count++ {
		for name, home := range grown(count) {
			bucket := impl.LineOf(count, name)
			if bucket != home || bucket < 0 || bucket >= count {
				t.Fatalf("LineOf(%d, %d) = %d, not %d", count, name, bucket, home)
			}
			if count < impl.MaxLine {
				if next := impl.LineOf(count+1, name); next != bucket && next != count {
					t.Fatalf("LineOf(%d, %d) = %d, with one more %d", count, name, bucket, next)
				}
			}
		}
	}
}

func TestP42LineOf(t *testing.T) {
	cases := []struct{ count, name, bucket int }{
		{1, 0, 0},
		{1, 63, 0},
		{2, 0, 0},
		{2, 5, 1},
		{2, 63, 1},
		{2, 62, 0},
		{3, 5, 1},
		{3, 6, 2},
		{3, 7, 1},
		{4, 7, 3},
		{4, 4, 0},
		{5, 4, 4},
		{5, 5, 1},
		{8, 63, 7},
		{31, 31, 15},
		{32, 31, 31},
		{32, 63, 31},
		{33, 32, 32},
		{33, 33, 1},
		{40, 39, 39},
		{40, 40, 8},
		{40, 63, 31},
		{40, 0, 0},
	}
	for _, c := range cases {
		if bucket := impl.LineOf(c.count, c.name); bucket != c.bucket {
			t.Errorf("LineOf(%d, %d) = %d, not %d", c.count, c.name, bucket, c.bucket)
		}
	}
	for _, count := range badCounts {
		for _, name := range append([]int{0, 1, 63}, badNames...) {
			if bucket := impl.LineOf(count, name); bucket != -1 {
				t.Errorf("LineOf(%d, %d) = %d", count, name, bucket)
			}
		}
	}
	for _, name := range badNames {
		for count := 1; count <= impl.MaxLine; count++ {
			if bucket := impl.LineOf(count, name); bucket != -1 {
				t.Errorf("LineOf(%d, %d) = %d", count, name, bucket)
			}
		}
	}
}

func TestP43NamesMoveFromOneBucket(t *testing.T) {
	moved := 0
	for count := 1; count < impl.MaxLine; count++ {
		ahead, behind := grown(count), grown(count+1)
		check := func(names []int) {
			moves := impl.LineMoves(count, names)
			want := []int{}
			for _, name := range names {
				if ahead[name] != behind[name] {
					want = append(want, name)
				}
			}
			if !slices.Equal(moves, want) {
				t.Fatalf("LineMoves(%d, %v) = %v, not %v", count, names, moves, want)
			}
			for _, name := range moves {
				from, to := impl.LineOf(count, name), impl.LineOf(count+1, name)
				if from != impl.LineOf(count, moves[0]) || to != count {
					t.Fatalf("LineMoves(%d, %v) = %v, with %d from %d to %d", count, names, moves, name, from, to)
				}
			}
			moved = max(moved, len(moves))
		}
		fewNames(check)
		moreNames(check)
		moreNames(func(names []int) { check(reversed(names)) })
	}
	if moved != impl.MaxNames {
		t.Errorf("just %d names move at most", moved)
	}
}

func TestP43LineMoves(t *testing.T) {
	cases := []struct {
		count int
		names []int
		moves []int
	}{
		{3, []int{7, 1, 3, 2}, []int{7, 3}},
		{3, []int{3, 2, 1, 7}, []int{3, 7}},
		{1, []int{5, 2, 63, 0, 1}, []int{5, 63, 1}},
		{2, []int{5, 2, 63, 0, 1, 6}, []int{2, 6}},
		{1, nil, nil},
		{39, nil, nil},
		{1, []int{0}, nil},
		{1, []int{1}, []int{1}},
		// Names with the same end, of which all move.
		{4, []int{60, 12, 44, 28, 4, 20, 36, 52}, []int{60, 12, 44, 28, 4, 20, 36, 52}},
		{39, []int{40, 39, 7, 38, 63}, []int{39}},
		{31, []int{63, 31, 15, 47}, []int{63, 31}},
		{32, []int{0, 32, 33}, []int{32}},
	}
	for _, c := range cases {
		if moves := impl.LineMoves(c.count, c.names); !slices.Equal(moves, c.moves) {
			t.Errorf("LineMoves(%d, %v) = %v, not %v", c.count, c.names, moves, c.moves)
		}
	}
	refused := func(count int, names []int) {
		t.Helper()
		if moves := impl.LineMoves(count, names); len(moves) != 0 {
			t.Errorf("LineMoves(%d, %v) = %v", count, names, moves)
		}
	}
	// 40 of 40 buckets goes to the one with one more, if there were one.
	for _, count := range append([]int{impl.MaxLine}, badCounts...) {
		refused(count, nil)
		refused(count, []int{40, 8, 1, 63})
		refused(count, []int{0, 1, 2, 3, 4, 5, 6, 7, 8, 9, 10, 11})
	}
	eachBadNames(func(names []int) {
		for count := range impl.MaxLine + 2 {
			refused(count, names)
		}
	})
}

// twig is a tree into which names are put one after the other.
type twig struct {
	name      int
	zero, one *twig
}

// grow returns the tree with one more name, which is not in it.
func (tree *twig) grow(depth int, name int) *twig {
	if tree == nil {
		return &twig{name: name}
	}
	if tree.name >= 0 {
		other := tree.name
		tree = (&twig{name: -1}).grow(depth, other)
	}
	if name/power(2, depth)%2 == 0 {
		tree.zero = tree.zero.grow(depth+1, name)
	} else {
		tree.one = tree.one.grow(depth+1, name)
	}
	return tree
}

// text returns the text of the tree.
func (tree *twig) text() string {
	if tree == nil {
		return "."
	}
	if tree.name >= 0 {
		return fmt.Sprint(tree.name)
	}
	return fmt.Sprintf("(%s %s)", tree.zero.text(), tree.one.text())
}

// treeBy returns the text of the tree of names that are put in one by one.
func treeBy(names []int) string {
	var tree *twig
	for _, name := range names {
		tree = tree.grow(0, name)
	}
	return tree.text()
}

// checkTree fails if the text of names is not that of their tree, or does not
// have the names.
func checkTree(t *testing.T, names []int) {
	t.Helper()
	text := impl.TreeText(names)
	if want := treeBy(names); text != want {
		t.Fatalf("TreeText(%v) = %q, not %q", names, text, want)
	}
	if other := impl.TreeText(reversed(names)); other != text {
		t.Fatalf("TreeText(%v) = %q, the other way round %q", names, text, other)
	}
	read, ok := impl.ReadTree(text)
	if !ok || !slices.Equal(read, slices.Sorted(slices.Values(names))) {
		t.Fatalf("ReadTree(%q) = %v, %t, not %v", text, read, ok, names)
	}
}

func TestP44TreesAreTheSameInAnyOrder(t *testing.T) {
	longest := 0
	someNames(func(names []int) {
		checkTree(t, names)
		for _, other := range turned(names) {
			checkTree(t, other)
		}
		longest = max(longest, len(impl.TreeText(names)))
	})
	threeNames(func(names []int) { checkTree(t, names) })
	if longest < 110 {
		t.Errorf("the longest text has %d bytes", longest)
	}
}

func TestP44TreeText(t *testing.T) {
	cases := []struct {
		names []int
		text  string
	}{
		{[]int{5, 1, 2}, "(2 ((1 5) .))"},
		{nil, "."},
		{[]int{}, "."},
		{[]int{0}, "0"},
		{[]int{9}, "9"},
		{[]int{63}, "63"},
		{[]int{1, 0}, "(0 1)"},
		{[]int{1, 2}, "(2 1)"},
		{[]int{1, 3}, "(. (1 3))"},
		{[]int{2, 0}, "((0 2) .)"},
		// Names with the same end.
		{[]int{0, 32}, "((((((0 32) .) .) .) .) .)"},
		{[]int{63, 31}, "(. (. (. (. (. (31 63))))))"},
		{[]int{21, 53}, "(. ((. ((. (21 53)) .)) .))"},
		{[]int{0, 1, 2, 3}, "((0 2) (1 3))"},
		{[]int{11, 10, 9, 8, 7, 6, 5, 4, 3, 2, 1, 0}, "((((0 8) 4) ((2 10) 6)) (((1 9) 5) ((3 11) 7)))"},
	}
	for _, c := range cases {
		if text := impl.TreeText(c.names); text != c.text {
			t.Errorf("TreeText(%v) = %q, not %q", c.names, text, c.text)
		}
	}
	eachBadNames(func(names []int) {
		if text := impl.TreeText(names); text != "" {
			t.Errorf("TreeText(%v) = %q", names, text)
		}
	})
}

var firstDigits = regexp.MustCompile("^[0-9]*")

// branchIn reads the text of the names with the end from the beginning of a
// text, and returns them and what is behind them.
func branchIn(text string, depth int, end int) ([]int, string, bool) {
	if strings.HasPrefix(text, ".") {
		return nil, text[1:], true
	}
	if !strings.HasPrefix(text, "(") {
		digits := firstDigits.FindString(text)
		for name := range 64 {
			if fmt.Sprint(name) == digits && digitsOf(depth, name) == digitsOf(depth, end) {
				return []int{name}, text[len(digits):], true
			}
		}
		return nil, "", false
	}
	if depth == 6 {
		return nil, "", false
	}
	zeros, behind, ok := branchIn(text[1:], depth+1, end)
	if !ok || !strings.HasPrefix(behind, " ") {
		return nil, "", false
	}
	ones, behind, ok := branchIn(behind[1:], depth+1, end+power(2, depth))
	if !ok || !strings.HasPrefix(behind, ")") || len(zeros)+len(ones) < 2 {
		return nil, "", false
	}
	return append(zeros, ones...), behind[1:], true
}

// checkText fails if a text is read other than branch by branch, and reports
// whether it is one of a tree.
func checkText(t *testing.T, text string) bool {
	t.Helper()
	want, behind, is := branchIn(text, 0, 0)
	is = is && behind == "" && len(want) <= 12
	names, ok := impl.ReadTree(text)
	if ok != is {
		t.Fatalf("ReadTree(%q) = %v, %t", text, names, ok)
	}
	if !ok && len(names) != 0 || ok && !slices.Equal(names, slices.Sorted(slices.Values(want))) {
		t.Fatalf("ReadTree(%q) = %v, %t, not %v", text, names, ok, want)
	}
	if ok && impl.TreeText(names) != text {
		t.Fatalf("TreeText(%v) = %q, not %q", names, impl.TreeText(names), text)
	}
	return ok
}

// eachText visits all texts of up to so many of the characters.
func eachText(chars string, length int, visit func(text string)) {
	visit("")
	texts := []string{""}
	for range length {
		var longer []string
		for _, text := range texts {
			for _, char := range []byte(chars) {
				longer = append(longer, text+string([]byte{char}))
			}
		}
		for _, text := range longer {
			visit(text)
		}
		texts = longer
	}
}

func TestP45TreesAreWrittenBack(t *testing.T) {
	trees := 0
	shorter := func(text string) {
		if checkText(t, text) {
			trees++
		}
	}
	// The trees of up to five of these characters: none, the names 0, 1, 10 and 11,
	// and the names 0 and 1.
	eachText("(). 01", 5, shorter)
	if trees != 1+4+1 {
		t.Errorf("there are %d trees of five characters", trees)
	}
	eachText("(). 1", 7, shorter)
	eachText("0123456789", 3, shorter)
	eachText("(). 0123456789+-,xX_", 3, shorter)
	for one := range 256 {
		shorter(string([]byte{byte(one)}))
		for other := range 256 {
			shorter(string([]byte{byte(one), byte(other)}))
		}
	}
}

// nearTexts visits the text with one byte left out, with one more, with another
// one, and with two exchanged.
func nearTexts(text string, visit func(text string)) {
	for at := range len(text) + 1 {
		ahead, behind := text[:at], text[at:]
		for _, char := range "(). 0123456789-+" {
			visit(ahead + string(char) + behind)
			if behind != "" {
				visit(ahead + string(char) + behind[1:])
			}
		}
		if behind != "" {
			visit(ahead + behind[1:])
		}
		if len(behind) > 1 {
			visit(ahead + behind[1:2] + behind[:1] + behind[2:])
		}
	}
}

func TestP45TextsThatAreNearTrees(t *testing.T) {
	trees, others := 0, 0
	look := func(text string) {
		if checkText(t, text) {
			trees++
		} else {
			others++
		}
	}
	next := samples()
	for n := range impl.MaxNames + 1 {
		for range 8 {
			nearTexts(treeBy(differentBelow(next, 64, n)), look)
		}
		nearTexts(treeBy(differentBelow(next, n+1, n)), look)
	}
	nearTexts("((((((0 32) .) .) .) .) .)", look)
	nearTexts("(. (. (. (. (. (31 63))))))", look)
	if trees < 1000 || others < 1000 {
		t.Errorf("%d texts are of trees, and %d of none", trees, others)
	}
}

func TestP45TextsThatNoTreeHas(t *testing.T) {
	thirteen := treeBy([]int{0, 1, 2, 3, 4, 5, 6, 7, 8, 9, 10, 11, 12})
	for _, text := range []string{
		"", " ", "x", "..", ". ", " .", "()", "( )", "(", ")", ")(", "(.", "(. ", "(. .",
		// Names that are none, and with a naught ahead.
		"64", "65", "100", "-1", "+1", "-0", "00", "01", "007", "063", "1.", "1.0", "1e1", "0x1", "1_0",
		"18446744073709551616", "18446744073709551617", "9223372036854775808", "4294967296", "\u0661", "\uff11",
		"(64 1)", "(0 65)", "(00 1)", "(0 01)", "(02 1)", "(-2 1)", "(0 -1)", "(0 +1)",
		// Names in the wrong branch, or twice.
		"(1 2)", "(1 0)", "(1 3)", "(0 2)", "((2 0) .)", "(. (3 1))", "((1 3) .)", "(. (0 2))",
		"((0 1) .)", "((0 2) (3 1))", "((0 4) 1)", "(0 0)", "(1 1)", "(2 2)", "((0 0) .)", "((0 2) 2)", "(0 (1 1))",
		"((((((0 0) .) .) .) .) .)", "(((((((0 0) .) .) .) .) .) .)", "(((((((0 64) .) .) .) .) .) .)",
		// Branches that are missing, or that are not parted.
		"(2)", "(2 )", "( 1)", "(2 1", "2 1)", "2 1", "((2 1)", "(2 1))", "(2 (1 5)", "((0 2))", "((0 2) )",
		"(. .)", "(. 1)", "(0 .)", "((. .) .)", "(. (1 .))", "((. .) (. .))", "((. 2) 1)", "(2 (. 1))", "(2 ((1 5) .)", "(2 ((1 5)))",
		// Something ahead of the tree, in it and behind it.
		"(2 1) ", " (2 1)", "(2 1).", "(2 1)(2 1)", "(2 1) (2 1)", "(2 1)\n", "(2 1)\x00", "1\n", "1 ", " 1", "1 1", "1)", "(1", ".1", "1,", "(2,1)",
		"(2  1)", "( 2 1)", "(2 1 )", "(2\t1)", "(2 1 3)", "(2 1 .)", "((2 1))", "[2 1]", "{2 1}", "(2\u00a01)", "(2 1)\xff", "\xff", "(\xff 1)",
		// More names than there may be, and texts that are longer.
		thirteen,
		strings.Repeat("(", 400), strings.Repeat(".", 400), strings.Repeat("1", 400), strings.Repeat("0", 399) + "1",
		strings.Repeat("(", 401), strings.Repeat(".", 401), strings.Repeat("1", 401), strings.Repeat("0", 400) + "1", strings.Repeat(" ", 401),
		"(2 1)" + strings.Repeat(" ", 395), "(2 1)" + strings.Repeat(" ", 396), strings.Repeat("(. ", 200) + "1" + strings.Repeat(")", 200),
		strings.Repeat("(", 1<<20), strings.Repeat("1", 1<<20), strings.Repeat("1 ", 1<<20),
	} {
		if names, ok := impl.ReadTree(text); ok || len(names) != 0 {
			t.Errorf("ReadTree of %d bytes %.50q = %v, %t", len(text), text, names, ok)
		}
		if len(text) <= 400 {
			checkText(t, text)
		}
	}
}

func TestP45ReadTree(t *testing.T) {
	cases := []struct {
		text  string
		names []int
	}{
		{".", nil},
		{"0", []int{0}},
		{"63", []int{63}},
		{"(2 ((1 5) .))", []int{1, 2, 5}},
		{"(0 1)", []int{0, 1}},
		{"(62 1)", []int{1, 62}},
		{"((((((0 32) .) .) .) .) .)", []int{0, 32}},
		{"(. (. (. (. (. (31 63))))))", []int{31, 63}},
		{"((((0 8) 4) ((2 10) 6)) (((1 9) 5) ((3 11) 7)))", []int{0, 1, 2, 3, 4, 5, 6, 7, 8, 9, 10, 11}},
	}
	for _, c := range cases {
		if names, ok := impl.ReadTree(c.text); !ok || !slices.Equal(names, c.names) {
			t.Errorf("ReadTree(%q) = %v, %t, not %v", c.text, names, ok, c.names)
		}
	}
}

var (
	askedLine  = regexp.MustCompile(`^(linear|fair|shares|apart|tree) ([^ ]*)$`)
	writtenOut = regexp.MustCompile(`^(0|-?[1-9][0-9]{0,8})(,(0|-?[1-9][0-9]{0,8}))*$`)
)

// listed returns numbers with commas, and a - for -1.
func listed(list []int) string {
	text := strings.ReplaceAll(strings.Trim(fmt.Sprint(list), "[]"), " ", ",")
	return strings.ReplaceAll(text, "-1", "-")
}

// areDifferent reports whether there are at most so many numbers below the
// limit, each of them once.
func areDifferent(numbers []int, most int, limit int) bool {
	for i, number := range numbers {
		if number < 0 || number >= limit || slices.Contains(numbers[:i], number) {
			return false
		}
	}
	return len(numbers) <= most
}

// answered returns the answer to a line.
func answered(line string) string {
	parts := askedLine.FindStringSubmatch(line)
	if parts == nil {
		return "what"
	}
	if !writtenOut.MatchString(parts[2]) {
		return "wrong"
	}
	var numbers []int
	for _, field := range strings.Split(parts[2], ",") {
		number, _ := strconv.Atoi(field)
		numbers = append(numbers, number)
	}
	isHomes := len(numbers) <= 10 && slices.Min(numbers) >= 0 && slices.Max(numbers) < 10
	switch word := parts[1]; {
	case word == "linear" && isHomes:
		table, _ := impl.LinearTable(10, numbers)
		return listed(table)
	case word == "fair" && isHomes:
		return listed(impl.FairTable(10, numbers))
	case word == "shares" && areDifferent(numbers, 6, 64):
		return listed(impl.SharesOf(numbers))
	case word == "apart" && areDifferent(numbers, 8, 31):
		return fmt.Sprint(impl.LeastApart(numbers))
	case word == "tree" && areDifferent(numbers, 12, 64):
		return treeBy(numbers)
	}
	return "wrong"
}

// someLines visits lines of all words by fixed samples of numbers of each
// number of them, that may be too many, too great, or come twice, and the lines
// that are near some of them.
func someLines(visit func(line string)) {
	next := samples()
	for _, word := range []string{"linear", "fair", "shares", "apart", "tree", "walk"} {
		for n := 1; n <= 14; n++ {
			for _, limit := range []int{10, 11, 31, 32, 64, 65} {
				for range 4 {
					list := make([]int, n)
					for i := range list {
						list[i] = next(limit)
					}
					visit(word + " " + listed(list))
					if n <= limit {
						visit(word + " " + listed(differentBelow(next, limit, n)))
					}
				}
			}
		}
		nearLines(word+" 0,1,3", visit)
	}
	nearLines("linear 1,1,2,1", visit)
	nearLines("fair 1,10,2", visit)
	nearLines("tree 63", visit)
}

// nearLines visits a line with one byte left out, with one more, and with
// another one.
func nearLines(line string, visit func(line string)) {
	for at := range len(line) + 1 {
		for _, char := range []byte(" ,-+.0179rex\t\n\x00\xff") {
			visit(line[:at] + string([]byte{char}) + line[at:])
			if at < len(line) {
				visit(line[:at] + string([]byte{char}) + line[at+1:])
			}
		}
		if at < len(line) {
			visit(line[:at] + line[at+1:])
		}
	}
}

func TestP46EachLineHasAnAnswer(t *testing.T) {
	often := map[string]int{}
	desk := []string{}
	someLines(func(line string) {
		answer := answered(line)
		if out := impl.RunDesk([]string{line}); out != answer+"\n" {
			t.Fatalf("RunDesk of %q = %q, not %q", line, out, answer)
		}
		if answer == "what" || answer == "wrong" {
			often[answer]++
		} else {
			often[strings.Fields(line)[0]]++
		}
		desk = append(desk, line)
	})
	for _, kind := range []string{"what", "wrong", "linear", "fair", "shares", "apart", "tree"} {
		if often[kind] < 50 {
			t.Errorf("the answers are %v", often)
		}
	}
	for lines := range slices.Chunk(desk, impl.MaxDesk) {
		all, want := impl.RunDesk(lines), ""
		for n := range len(lines) + 1 {
			out := impl.RunDesk(lines[:n])
			if strings.Count(out, "\n") != n || !strings.HasPrefix(all, out) || out != want {
				t.Fatalf("RunDesk(%q) = %q, of all %q", lines[:n], out, all)
			}
			if n < len(lines) {
				want += answered(lines[n]) + "\n"
			}
		}
	}
}

func TestP46RunDesk(t *testing.T) {
	cases := []struct{ line, answer string }{
		{"linear 1,1,2,1", "-,0,1,2,3,-,-,-,-,-"},
		{"linear 0", "0,-,-,-,-,-,-,-,-,-"},
		{"linear 9,9,9", "1,2,-,-,-,-,-,-,-,0"},
		{"linear 0,0,0,0,0,0,0,0,0,0", "0,1,2,3,4,5,6,7,8,9"},
		{"fair 1,1,2,1", "-,0,1,3,2,-,-,-,-,-"},
		{"fair 9", "-,-,-,-,-,-,-,-,-,0"},
		{"shares 10,50,30", "24,20,20"},
		{"shares 63", "64"},
		{"shares 0,1,2,3,4,5", "59,1,1,1,1,1"},
		{"apart 0,1,2", "3"},
		{"apart 30", "1"},
		{"tree 5,1,2", "(2 ((1 5) .))"},
		{"tree 9", "9"},
		{"tree 63,31", "(. (. (. (. (. (31 63))))))"},
		{"tree 0,1,2,3,4,5,6,7,8,9,10,11", "((((0 8) 4) ((2 10) 6)) (((1 9) 5) ((3 11) 7)))"},
		// No number, and what is none.
		{"linear ", "wrong"}, {"fair ", "wrong"}, {"shares ", "wrong"}, {"apart ", "wrong"}, {"tree ", "wrong"},
		{"apart x", "wrong"}, {"tree .", "wrong"}, {"tree ,", "wrong"}, {"fair 1,", "wrong"}, {"fair ,1", "wrong"}, {"fair 1,,2", "wrong"},
		{"fair 1;2", "wrong"}, {"fair 1.0", "wrong"}, {"fair 1e0", "wrong"}, {"fair 0x1", "wrong"}, {"fair 1_0", "wrong"}, {"tree (2", "wrong"},
		{"fair 1\t", "wrong"}, {"fair \t1", "wrong"}, {"fair 1\n", "wrong"}, {"fair \n", "wrong"}, {"fair 1\x00", "wrong"}, {"fair \xff", "wrong"}, {"fair \u0661", "wrong"},
		// Signs, and naughts ahead.
		{"fair +1", "wrong"}, {"fair -1", "wrong"}, {"fair -0", "wrong"}, {"fair 01", "wrong"}, {"fair 00", "wrong"}, {"fair 1,+2", "wrong"}, {"tree -1", "wrong"},
		{"linear -", "wrong"}, {"linear +", "wrong"}, {"tree 1,02", "wrong"}, {"shares +0", "wrong"}, {"apart 000", "wrong"},
		// Numbers that are not those of the functions.
		{"linear 10", "wrong"}, {"fair 10", "wrong"}, {"linear 0,10", "wrong"}, {"fair 10,0", "wrong"},
		{"linear 0,0,0,0,0,0,0,0,0,0,0", "wrong"}, {"fair 0,1,2,3,4,5,6,7,8,9,0", "wrong"},
		{"shares 3,3", "wrong"}, {"shares 64", "wrong"}, {"shares 0,1,2,3,4,5,6", "wrong"}, {"shares -1", "wrong"},
		{"apart 31", "wrong"}, {"apart 1,1", "wrong"}, {"apart 0,1,2,3,4,5,6,7,8", "wrong"}, {"apart -1", "wrong"},
		{"tree 64", "wrong"}, {"tree 1,1", "wrong"}, {"tree 0,1,2,3,4,5,6,7,8,9,10,11,12", "wrong"},
		{"tree 9223372036854775808", "wrong"}, {"tree 18446744073709551616", "wrong"}, {"tree 18446744073709551617", "wrong"}, {"fair 4294967296", "wrong"},
		{"tree " + strings.Repeat("1,", 5000) + "1", "wrong"}, {"tree " + strings.Repeat("1", 5000), "wrong"},
		// Other words, words alone, and more spaces.
		{"", "what"}, {" ", "what"}, {"  ", "what"}, {"1", "what"}, {" 1", "what"}, {"1,2", "what"},
		{"linear", "what"}, {"fair", "what"}, {"shares", "what"}, {"apart", "what"}, {"tree", "what"},
		{"walk 1", "what"}, {"help", "what"}, {"what", "what"}, {"wrong", "what"}, {"wrong 1", "what"}, {"walk", "what"}, {"walk ", "what"},
		{"Fair 1", "what"}, {"FAIR 1", "what"}, {"fai 1", "what"}, {"fairs 1", "what"}, {"fair1", "what"}, {"fair\t1", "what"}, {"fair,1", "what"}, {"fair\n1", "what"},
		{" fair 1", "what"}, {"fair  1", "what"}, {"fair 1 ", "what"}, {"fair 1, 2", "what"}, {"fair 1 2", "what"}, {"fair  ", "what"}, {"tree x y", "what"}, {"tree  ", "what"},
		{"tree (2 1)", "what"}, {"tree 1 1", "what"}, {"fair linear 1", "what"}, {"\tfair 1", "what"}, {"\nfair 1", "what"}, {"linear fair", "wrong"},
	}
	for _, c := range cases {
		if out := impl.RunDesk([]string{c.line}); out != c.answer+"\n" {
			t.Errorf("RunDesk of %.60q = %q, not %q", c.line, out, c.answer)
		}
	}
	for first := range cases {
		lines, want := []string{}, ""
		for _, c := range cases[first:min(first+impl.MaxDesk, len(cases))] {
			lines, want = append(lines, c.line), want+c.answer+"\n"
		}
		if out := impl.RunDesk(lines); out != want {
			t.Errorf("RunDesk of the %d lines from %d on = %q, not %q", len(lines), first, out, want)
		}
	}
}

func TestP46NoLinesAndTooMany(t *testing.T) {
	if impl.RunDesk(nil) != "" || impl.RunDesk([]string{}) != "" {
		t.Error("RunDesk of no lines has answers")
	}
	if out := impl.RunDesk(make([]string, impl.MaxDesk)); out != strings.Repeat("what\n", 20) {
		t.Errorf("RunDesk of %d lines = %q", impl.MaxDesk, out)
	}
	if out := impl.RunDesk(slices.Repeat([]string{"tree 1"}, 20)); out != strings.Repeat("1\n", 20) {
		t.Errorf("RunDesk of 20 lines = %q", out)
	}
	for _, n := range []int{21, 22, 40, 1000} {
		if impl.RunDesk(make([]string, n)) != "" || impl.RunDesk(slices.Repeat([]string{"tree 1"}, n)) != "" {
			t.Errorf("RunDesk of %d lines has answers", n)
		}
	}
}

func TestGrowingKeepsItsArguments(t *testing.T) {
	names := append(make([]int, 0, 9), 7, 1, 3, 2, 11)
	lines := []string{"tree 5,1,2", "fair 1", ""}
	for range 2 {
		buckets, whole := impl.BucketsOf(names, 1), impl.BucketsOf(names[:4], 4)
		if want := partedBy(names, 1); !equalBuckets(buckets, want) || !equalBuckets(whole, partedBy(names[:4], 4)) {
			t.Errorf("BucketsOf = %v and %v", buckets, whole)
		}
		// No bucket shares memory with another one, its spare capacity neither.
		for i := range buckets {
			spoil(buckets[i].Names)
			buckets[i].Names = nil
			for j, bucket := range partedBy(names, 1) {
				if j > i && !slices.Equal(buckets[j].Names, bucket.Names) {
					t.Errorf("BucketsOf has %v after other names were written over", buckets[j])
				}
			}
		}
		spoil(whole[0].Names)
		depth, directory := impl.DirectoryOf(names, 1)
		if most, want := directed(names, 1); depth != most || !slices.Equal(directory, want) {
			t.Errorf("DirectoryOf = %d, %v", depth, directory)
		}
		spoil(directory)
		moves := impl.LineMoves(3, names)
		if !same(moves, 7, 3, 11) {
			t.Errorf("LineMoves = %v", moves)
		}
		spoil(moves)
		read, ok := impl.ReadTree(impl.TreeText(names))
		if !ok || !same(read, 1, 2, 3, 7, 11) {
			t.Errorf("ReadTree = %v, %t", read, ok)
		}
		spoil(read)
		if out := impl.RunDesk(lines); out != "(2 ((1 5) .))\n-,0,-,-,-,-,-,-,-,-\nwhat\n" {
			t.Errorf("RunDesk = %q", out)
		}
	}
	if !same(names[:9], 7, 1, 3, 2, 11, 0, 0, 0, 0) || !slices.Equal(lines, []string{"tree 5,1,2", "fair 1", ""}) {
		t.Errorf("the arguments are %v and %v", names[:9], lines)
	}
}
