package rows

import "cordon/value"

// shelf keeps places by the bytes of what stands at them. A map tells for bytes which list is theirs, so that the lists stay in the order in which they came.
type shelf struct {
	list   map[string]int
	places [][]int
}

func newShelf() *shelf { return &shelf{list: map[string]int{}} }

// shelved is a shelf of the places of all rows.
func shelved(l []Row) *shelf {
	s := newShelf()
	for place, row := range l {
		s.put(bytesOf(row), place)
	}
	return s
}

func (s *shelf) put(key string, place int) {
	n, there := s.list[key]
	if !there {
		n = len(s.places)
		s.list[key] = n
		s.places = append(s.places, nil)
	}
	s.places[n] = append(s.places[n], place)
}

func (s *shelf) get(key string) []int {
	n, there := s.list[key]
	if !there {
		return nil
	}
	return s.places[n]
}

// Groups are the places of rows with the same key.
func Groups(keys []Row) [][]int { return shelved(keys).places }

// Match are the pairs of rows that have the same value.
func Match(a, b []Row, i, j int) [][2]int {
	of := newShelf()
	for place, row := range b {
		if key, ok := joinedBy(row, j); ok {
			of.put(key, place)
		}
	}
	var out [][2]int
	for first, row := range a {
		key, ok := joinedBy(row, i)
		if !ok {
			continue
		}
		for _, second := range of.get(key) {
			out = append(out, [2]int{first, second})
		}
	}
	return out
}

// joinedBy is the bytes of one value of a row, which tell its type, too; none of one that is not there, or is null.
func joinedBy(row Row, col int) (key string, ok bool) {
	if col < 0 || col >= len(row) || row[col] == value.Null() {
		return "", false
	}
	return bytesOf(row[col : col+1]), true
}
