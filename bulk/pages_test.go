package bulk_test

import (
	"math"
	"math/big"
	"testing"

	"arbor/api"
	"arbor/bulk"
	"arbor/drill"
)

func wantPages(t *testing.T, c api.Config, entries, want int) {
	t.Helper()
	if n := bulk.Pages(c, entries); n != want {
		t.Errorf("Pages(%v, %d) = %d, want %d", c, entries, n, want)
	}
}

// everyMeasures: each fanout, each leaf.
func everyMeasures(each func(api.Config)) {
	for fanout := api.MinFanout; fanout <= api.MaxFanout; fanout++ {
		for leaf := api.MinLeaf; leaf <= api.MaxLeaf; leaf++ {
			each(api.Config{Fanout: fanout, Leaf: leaf, Buffer: api.MinBuffer + fanout})
		}
	}
}

// P26.1: how many nodes there are when they are counted one by one.
func TestPages(t *testing.T) {
	for _, c := range drill.Measures() {
		for entries := range 1200 {
			wantPages(t, c, entries, bookPages(c, entries))
		}
	}
	everyMeasures(func(c api.Config) {
		for _, entries := range []int{0, 1, c.Leaf, c.Leaf + 1, 2*c.Leaf + 1, c.Leaf * c.Fanout, c.Leaf*c.Fanout + 1, 3 * c.Leaf * c.Fanout} {
			wantPages(t, c, entries, bookPages(c, entries))
		}
	})
}

// bigPages: by numbers that do not wrap round.
func bigPages(c api.Config, entries int) int {
	up := func(n *big.Int, by int) *big.Int {
		n = new(big.Int).Add(n, big.NewInt(int64(by-1)))
		return n.Div(n, big.NewInt(int64(by)))
	}
	one := big.NewInt(1)
	level := up(big.NewInt(int64(entries)), c.Leaf)
	all := new(big.Int).Set(level)
	for level.Cmp(one) > 0 {
		level = up(level, c.Fanout)
		all.Add(all, level)
	}
	return int(all.Int64())
}

// P26.1, R1: of entries without number.
func TestPagesOfManyEntries(t *testing.T) {
	everyMeasures(func(c api.Config) {
		for _, entries := range []int{1 << 20, 1<<31 - 1, 1 << 40, 1<<62 - 1, 1 << 62, 1<<62 + 1, math.MaxInt - 64, math.MaxInt - 2, math.MaxInt - 1, math.MaxInt} {
			wantPages(t, c, entries, bigPages(c, entries))
		}
	})
}

// P26.1: fewer entries than none, and numbers that are no measures.
func TestPagesOfNothing(t *testing.T) {
	for _, entries := range []int{-1, -2, -64, math.MinInt, math.MinInt + 1} {
		everyMeasures(func(c api.Config) { wantPages(t, c, entries, 0) })
	}
	for _, entries := range []int{-1, 0, 1, 2, 3, 9, 1000, math.MaxInt} {
		for _, bad := range []int{-1, 0, 1, 65, 66, 128, math.MaxInt, math.MinInt} {
			wantPages(t, api.Config{Fanout: bad, Leaf: 2, Buffer: 115}, entries, 0)
			wantPages(t, api.Config{Fanout: 4, Leaf: bad, Buffer: 115}, entries, 0)
		}
		for _, bad := range []int{-1, 0, 1, 114, math.MinInt} {
			wantPages(t, api.Config{Fanout: 4, Leaf: 2, Buffer: bad}, entries, 0)
			wantPages(t, api.Config{Fanout: 64, Leaf: 64, Buffer: bad}, entries, 0)
		}
		for _, bad := range []int{2, 3} {
			wantPages(t, api.Config{Fanout: bad, Leaf: 2, Buffer: 115}, entries, 0)
		}
		wantPages(t, api.Config{}, entries, 0)
	}
}

// P26.1: a page's room is not asked: a buffer of any size will do, and counts for nothing.
func TestPagesOfAnyBuffer(t *testing.T) {
	for _, buffer := range []int{115, 116, 8192, 1 << 40, math.MaxInt - 2000, math.MaxInt - 1, math.MaxInt} {
		for _, entries := range []int{0, 1, 2, 3, 9, 4096, 4097} {
			for _, c := range []api.Config{{Fanout: 4, Leaf: 2, Buffer: buffer}, {Fanout: 64, Leaf: 64, Buffer: buffer}} {
				wantPages(t, c, entries, bookPages(c, entries))
			}
		}
	}
}
