package space

// set: some of the numbers 0 to bound - 1. Each has its bit where the chapter's bitmap has it, so that the set is told by a copy.
type set[N ~int] struct {
	bound N
	bits  []byte
}

func empty[N ~int](bound N) *set[N] {
	return &set[N]{bound: bound, bits: make([]byte, (bound+7)/8)}
}

// has: numbers that are out of the set's bound may be asked for too.
func (s *set[N]) has(n N) bool {
	return n >= 0 && n < s.bound && s.bits[n/8]&bit(n) != 0
}

func (s *set[N]) join(n N) {
	s.bits[n/8] |= bit(n)
}

func (s *set[N]) leave(n N) {
	s.bits[n/8] &^= bit(n)
}

// become: the members are those of another set of the same bound. They are copied, for either set goes its own way behind this.
func (s *set[N]) become(other *set[N]) {
	copy(s.bits, other.bits)
}

func (s *set[N]) members() []N {
	var list []N
	for n := range s.bound {
		if s.has(n) {
			list = append(list, n)
		}
	}
	return list
}

func (s *set[N]) bitmap() []byte {
	own := make([]byte, len(s.bits))
	copy(own, s.bits)
	return own
}

// bit: the bit of a number within its byte.
func bit[N ~int](n N) byte {
	return 1 << (n % 8)
}
