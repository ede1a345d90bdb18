package impl

import "slices"

// MaxSlots is the largest number of slots.
const MaxSlots = 10

// MaxAll is the largest number of slots of which all homes are looked at.
const MaxAll = 5

// free stands in a slot that has no key.
const free = -1

// slotTable is a table of at most MaxSlots slots. The slots past its own ones
// stay free, so that two tables are the same exactly if their arrays are.
type slotTable [MaxSlots]int

// freeTable returns a table without keys.
func freeTable() slotTable {
	var table slotTable
	for slot := range table {
		table[slot] = free
	}
	return table
}

// readTable returns the table that the list shows, and whether the list is one
// of m slots for the keys with the homes.
func readTable(m int, homes []int, list []int) (slotTable, bool) {
	table := freeTable()
	if !ValidHomes(m, homes) || len(list) != m {
		return table, false
	}
	var seen [MaxSlots]bool
	for slot, key := range list {
		if key == free {
			continue
		}
		if key < 0 || key >= len(homes) || seen[key] {
			return table, false
		}
		seen[key] = true
		table[slot] = key
	}
	return table, true
}

// list returns the first m slots in new memory.
func (table slotTable) list(m int) []int {
	return slices.Clone(table[:m])
}

// lookFrom returns a function that tells which slot is looked at after so many
// steps from a slot on, round the table.
func lookFrom(m int, slot int) func(steps int) int {
	return func(steps int) int {
		return (slot + steps) % m
	}
}

// stepsTo returns how far a slot is behind the home, round the table.
func stepsTo(m int, home int, slot int) int {
	return (slot - home + m) % m
}

// ValidHomes reports whether numbers are the homes of keys.
func ValidHomes(m int, homes []int) bool {
	if m < 1 || m > MaxSlots || len(homes) > m {
		return false
	}
	for _, home := range homes {
		if home < 0 || home >= m {
			return false
		}
	}
	return true
}

// LinearTable returns the table of keys that go on to the next free slot.
func LinearTable(m int, homes []int) ([]int, int) {
	if !ValidHomes(m, homes) {
		return nil, -1
	}
	table, looks := freeTable(), 0
keys:
	for key, home := range homes {
		look := lookFrom(m, home)
		// There are no more keys than slots, so a free one is met within m steps.
		for steps := range m {
			slot := look(steps)
			looks++
			if table[slot] == free {
				table[slot] = key
				continue keys
			}
		}
	}
	return table.list(m), looks
}

// FairTable returns the table of keys that give way to those further from home.
func FairTable(m int, homes []int) []int {
	if !ValidHomes(m, homes) {
		return nil
	}
	table := freeTable()
keys:
	for key, home := range homes {
		look, looking := lookFrom(m, home), key
		// A key that gives way looks on from the next slot on, so one walk from
		// the home of the new key serves all of them.
		for steps := range m {
			slot := look(steps)
			held := table[slot]
			if held == free {
				table[slot] = looking
				continue keys
			}
			if givesWay(m, homes, slot, held, looking) {
				table[slot], looking = looking, held
			}
		}
	}
	return table.list(m)
}

// givesWay reports whether the key held in a slot leaves it to the one looking.
func givesWay(m int, homes []int, slot int, held int, looking int) bool {
	heldSteps := stepsTo(m, homes[held], slot)
	lookingSteps := stepsTo(m, homes[looking], slot)
	return heldSteps < lookingSteps || heldSteps == lookingSteps && held > looking
}

// LooksOf returns in how many slots one must look for each key.
func LooksOf(m int, homes []int, table []int) []int {
	slots, ok := readTable(m, homes, table)
	if !ok {
		return nil
	}
	looks := make([]int, len(homes))
	for slot, key := range slots {
		if key != free {
			looks[key] = stepsTo(m, homes[key], slot) + 1
		}
	}
	return looks
}

// IsFound reports whether each key is found from its home on.
func IsFound(m int, homes []int, table []int) bool {
	slots, ok := readTable(m, homes, table)
	return ok && isReached(m, homes, slots)
}

// isReached reports whether no key has a free slot between its home and itself.
func isReached(m int, homes []int, table slotTable) bool {
keys:
	for slot, key := range table {
		if key == free {
			continue
		}
		look := lookFrom(m, homes[key])
		for steps := range m {
			at := look(steps)
			if at == slot {
				continue keys
			}
			if table[at] == free {
				return false
			}
		}
	}
	return true
}

// TakeOut returns a table without a key.
func TakeOut(m int, homes []int, table []int, key int) ([]int, bool) {
	slots, ok := readTable(m, homes, table)
	// A free slot shows -1, which is no key that could be taken out.
	if !ok || key < 0 || !isReached(m, homes, slots) {
		return nil, false
	}
	gap := slices.Index(slots[:m], key)
	if gap < 0 {
		return nil, false
	}
	slots[gap] = free
	// Each key that fills the gap comes nearer to its home, so this ends.
	for {
		filled, left := fillGap(m, homes, slots, gap)
		if filled == slots {
			return slots.list(m), true
		}
		slots, gap = filled, left
	}
}

// fillGap returns the table after the first key that may be put into the free
// slot gap has moved there, and the slot that this key leaves; the same table
// and gap if there is no such key.
func fillGap(m int, homes []int, table slotTable, gap int) (slotTable, int) {
	look := lookFrom(m, gap)
	for steps := 1; steps < m; steps++ {
		slot := look(steps)
		key := table[slot]
		if key == free {
			break
		}
		home := homes[key]
		if stepsTo(m, home, gap) < stepsTo(m, home, slot) {
			table[gap], table[slot] = key, free
			return table, slot
		}
	}
	return table, gap
}

// AllLooks returns how many slots are looked at for all homes.
func AllLooks(m int, n int) int {
	if m < 1 || m > MaxAll || n < 0 || n > m {
		return -1
	}
	var first [MaxAll]int
	homes, sum := first, 0
	for {
		_, looks := LinearTable(m, homes[:n])
		sum += looks
		homes = nextHomes(m, n, homes)
		if homes == first {
			return sum
		}
	}
}

// nextHomes counts the first n homes on by one, as the digits of a number to
// the base m; after the greatest one come the homes that are all 0 again.
func nextHomes(m int, n int, homes [MaxAll]int) [MaxAll]int {
	for key := range n {
		homes[key]++
		if homes[key] < m {
			break
		}
		homes[key] = 0
	}
	return homes
}
