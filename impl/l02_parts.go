package impl

import "slices"

const MaxParts = 8

const (
	fnvStart = 2166136261
	fnvPrime = 16777619
)

type Part struct {
	Rows []Row
}

func partsOk(n int64) bool { return n >= 1 && n <= MaxParts }

func fnvOf(s string) uint32 {
	h := uint32(fnvStart)
	for i := range len(s) {
		h = (h ^ uint32(s[i])) * fnvPrime
	}
	return h
}

func HashOf(key string) int64 {
	if !textOk(key) {
		return -1
	}
	return int64(fnvOf(key))
}

func PartOf(key string, n int64) int64 {
	if !textOk(key) || !partsOk(n) {
		return -1
	}
	return HashOf(key) % n
}

func Parted(l []Row, n int64) ([]Part, bool) {
	if !RowsOk(l) || !partsOk(n) {
		return nil, false
	}
	return dealt(l, n, func(key string) int64 { return PartOf(key, n) }), true
}

// dealt puts each row on the list that place names for its key. Each list
// grows by itself, so that no two parts share memory.
func dealt(l []Row, n int64, place func(key string) int64) []Part {
	var lists [MaxParts][]Row
	for _, r := range l {
		i := place(r.Key)
		lists[i] = append(lists[i], r)
	}
	parts := make([]Part, n)
	for i := range parts {
		parts[i].Rows = lists[i]
	}
	return parts
}

func cutsOk(cuts []string) bool {
	if len(cuts) >= MaxParts {
		return false
	}
	for i, c := range cuts {
		if !textOk(c) || i > 0 && cuts[i-1] >= c {
			return false
		}
	}
	return true
}

func RangeOf(cuts []string, key string) int64 {
	if !cutsOk(cuts) || !textOk(key) {
		return -1
	}
	return cutsUpTo(cuts, key)
}

func cutsUpTo(cuts []string, key string) int64 {
	n := int64(0)
	for _, c := range cuts {
		if c <= key {
			n++
		}
	}
	return n
}

func RangeParted(l []Row, cuts []string) ([]Part, bool) {
	if !cutsOk(cuts) || !RowsOk(l) {
		return nil, false
	}
	n := int64(len(cuts)) + 1
	return dealt(l, n, func(key string) int64 { return cutsUpTo(cuts, key) }), true
}

func CutsOf(l []Row, n int64) ([]string, bool) {
	rows, ok := Sorted(l)
	if !ok || !partsOk(n) {
		return nil, false
	}
	var cuts []string
	if len(rows) == 0 {
		return cuts, true
	}
	for i := int64(1); i < n; i++ {
		cuts = append(cuts, rows[i*int64(len(rows))/n].Key)
	}
	return slices.Compact(cuts), true
}
