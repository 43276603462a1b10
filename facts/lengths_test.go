package facts

import (
	"math/big"
	"slices"
	"testing"

	"doublet/api"
	"doublet/sample"
	"doublet/tree"
)

// holdLengths: what is told of the lengths; longest -1: endless ones.
func holdLengths(t *testing.T, x api.Node, shortest, longest int) {
	t.Helper()
	if got := Shortest(x); got != shortest {
		t.Errorf("Shortest(%s) = %d, want %d", brief(x), got, shortest)
	}
	if got := Longest(x); got != longest {
		t.Errorf("Longest(%s) = %d, want %d", brief(x), got, longest)
	}
	if got := Bounded(x); got != (longest >= 0 || shortest < 0) {
		t.Errorf("Bounded(%s) = %t", brief(x), got)
	}
	if Hollow(x) != (shortest < 0) || Nullable(x) != (shortest == 0) {
		t.Errorf("of %s is told Hollow %t, Nullable %t", brief(x), Hollow(x), Nullable(x))
	}
}

func TestP1003Lengths(t *testing.T) {
	if Top != 1099511627776 {
		t.Errorf("Top is %d", Top)
	}
	for text, want := range map[string][2]int{
		"": {0, 0}, "a": {1, 1}, "abc": {3, 3}, "ab|c|defg": {1, 4}, "(ab|c)(d|efg)": {2, 5}, "a?bc?": {1, 3}, "a{2,5}b{3}": {5, 8}, "(ab?){3}": {3, 6}, "(a|b|)": {0, 1}, "a{0,7}": {0, 7}, "(a{3}){4}": {12, 12}, "((ab){2,3}c){2}": {10, 14},
		"a*": {0, -1}, "a+b": {2, -1}, "a{4,}": {4, -1}, "(ab){4,}c": {9, -1}, "a*|b": {0, -1}, "aa+|b": {1, -1}, "(a{1000}){1000}": {1e6, 1e6}, "((a{1000}){1000}){1000}": {1e9, 1e9}, "((a{1,10}){2,20}){3,30}": {6, 6000},
		// Where one of the Kids says no word, as if a KindAlt had none there; a KindCat says none.
		"[^\\x00-\\xff]|ab|c": {1, 2}, "abc|[^\\x00-\\xff]|de": {2, 3}, "ab|c|[^\\x00-\\xff]": {1, 2}, "a+[^\\x00-\\xff]|bc": {2, 2}, "bc|a*[^\\x00-\\xff]": {2, 2}, "a[^\\x00-\\xff]|bc": {2, 2},
		"[^\\x00-\\xff]a": {-1, -1}, "a[^\\x00-\\xff]": {-1, -1}, "a[^\\x00-\\xff]b": {-1, -1}, "a*[^\\x00-\\xff]b*": {-1, -1}, "[^\\x00-\\xff]|[^\\x00-\\xff]": {-1, -1}, "[^\\x00-\\xff]{0,3}": {0, 0}, "[^\\x00-\\xff]{2,3}": {-1, -1}, "a([^\\x00-\\xff]*)b": {2, 2},
	} {
		holdLengths(t, read(text), want[0], want[1])
	}
}

// Just below Top, at it, and above, by sums and by products.
func TestP1003Top(t *testing.T) {
	lengths := []int{Top - 1000, Top - 2, Top - 1, Top, Top + 1, Top + 2, Top + 1000, 2*Top - 1, 2 * Top, 1000 * Top}
	for _, n := range lengths {
		x, want := exactly(n), min(n, Top)
		holdLengths(t, x, want, want)
		holdLengths(t, of(7, x), want, -1)
		holdLengths(t, of(8, x), 0, want)
		holdLengths(t, of(6, x), 0, -1)
		holdLengths(t, of(5, x, a()), 1, want)
		holdLengths(t, of(5, a(), x, none()), 1, want)
		holdLengths(t, of(5, x, exactly(n+1)), want, min(n+1, Top))
		holdLengths(t, of(4, x, a()), min(n+1, Top), min(n+1, Top))
		holdLengths(t, of(4, a(), of(8, b()), x), min(n+1, Top), min(n+2, Top))
		holdLengths(t, of(4, x, of(6, a())), want, -1)
		holdLengths(t, of(4, x, none()), -1, -1)
		holdLengths(t, rep(x, 1, 2), want, min(2*n, Top))
		holdLengths(t, rep(x, 0, 1), 0, want)
		holdLengths(t, rep(of(8, x), 5, 5), 0, Top)
		holdNoWord(t, x)
		holdLeast(t, of(5, x, a()), "a")
		for _, part := range []int{1, 2, 999, Top / 2, Top/2 + 1, Top - 1000} {
			holdLengths(t, of(4, exactly(part), exactly(n-part)), want, want)
			holdLengths(t, of(4, exactly(n-part), of(5, exactly(part), exactly(part+1))), want, min(n+1, Top))
		}
	}
	for lo := 1; lo <= 1000; lo++ {
		// Of all lengths Top / lo is the greatest one that lo of them keep at Top, or below it.
		for _, n := range []int{Top/lo - 1, Top / lo, Top/lo + 1} {
			want := min(lo*n, Top)
			holdLengths(t, rep(exactly(n), lo, lo), want, want)
			holdLengths(t, rep(exactly(n), 0, lo), 0, want)
			holdLengths(t, rep(exactly(n), lo, -1), want, -1)
		}
	}
}

// A factor of 0 beside one that is above Top, and products that would pass all ints.
func TestP1003FactorsOf0(t *testing.T) {
	huge := a()
	for range 40 {
		huge = rep(huge, 1000, 1000)
	}
	holdLengths(t, huge, Top, Top)
	holdLengths(t, rep(huge, 0, 0), 0, 0)
	holdLengths(t, rep(huge, 0, 1000), 0, Top)
	holdLengths(t, rep(huge, 0, -1), 0, -1)
	holdLengths(t, rep(huge, 1000, -1), Top, -1)
	holdLengths(t, of(4, huge, huge), Top, Top)
	holdLengths(t, of(4, huge, rep(huge, 0, 0)), Top, Top)
	holdLengths(t, of(4, rep(huge, 0, 0), a()), 1, 1)
	holdLengths(t, of(4, rep(huge, 0, 7), a()), 1, Top)
	holdLengths(t, of(4, huge, none()), -1, -1)
	holdLengths(t, rep(of(4, huge, none()), 0, 1000), 0, 0)
	zero, maybe := rep(huge, 0, 0), rep(huge, 0, 2)
	for range 20 {
		zero, maybe = rep(zero, 1000, 1000), rep(maybe, 1000, 1000)
	}
	holdLengths(t, zero, 0, 0)
	holdLengths(t, rep(zero, 1000, -1), 0, 0)
	holdLengths(t, maybe, 0, Top)
	holdLengths(t, rep(e(), 1000, 1000), 0, 0)
	x := a()
	for range 4095 {
		x = rep(x, 999, 1000)
	}
	holdLengths(t, x, Top, Top)
	x = a()
	for range 4095 {
		x = rep(x, 0, 1000)
	}
	holdLengths(t, x, 0, Top)
}

// lengths: a tree's, as they truly are, kind by kind; nil of no word, and whether there are endless ones (then longest says nothing).
func lengths(x api.Node) (shortest, longest *big.Int, forever bool) {
	zero, one := new(big.Int), big.NewInt(1)
	repeated := func(lo, hi int) (*big.Int, *big.Int, bool) {
		short, long, forever := lengths(x.Kids[0])
		if hi == 0 || lo == 0 && short == nil {
			return zero, zero, false
		}
		if short == nil {
			return nil, nil, false
		}
		if hi == -1 {
			return new(big.Int).Mul(short, big.NewInt(int64(lo))), long, forever || long.Sign() > 0
		}
		return new(big.Int).Mul(short, big.NewInt(int64(lo))), new(big.Int).Mul(long, big.NewInt(int64(hi))), forever
	}
	switch x.Kind {
	case 2:
		return zero, zero, false
	case 3:
		if x.Set != (api.Set{}) {
			return one, one, false
		}
	case 4:
		shortest, longest = new(big.Int), new(big.Int)
		for _, kid := range x.Kids {
			short, long, some := lengths(kid)
			if short == nil {
				return nil, nil, false
			}
			shortest.Add(shortest, short)
			longest.Add(longest, long)
			forever = forever || some
		}
	case 5:
		for _, kid := range x.Kids {
			short, long, some := lengths(kid)
			if short == nil {
				continue
			}
			if shortest == nil || short.Cmp(shortest) < 0 {
				shortest = short
			}
			if longest == nil || long.Cmp(longest) > 0 {
				longest = long
			}
			forever = forever || some
		}
	case 6:
		return repeated(0, -1)
	case 7:
		return repeated(1, -1)
	case 8:
		return repeated(0, 1)
	case 9:
		return repeated(x.Lo, x.Hi)
	}
	return shortest, longest, forever
}

// mirrored: a tree that says the same words from the right.
func mirrored(x api.Node) api.Node {
	var l []api.Node
	for _, kid := range x.Kids {
		l = append(l, mirrored(kid))
	}
	if x.Kind == 4 {
		slices.Reverse(l)
	}
	x.Kids = l
	return x
}

// begins: does a word of a tree begin with a byte? It goes kind by kind, and asks of each byte alone.
func begins(x api.Node, with int) bool {
	if short, _, _ := lengths(x); short == nil {
		return false
	}
	switch x.Kind {
	case 3:
		return hasByte(x.Set, byte(with))
	case 9:
		return x.Hi != 0 && begins(x.Kids[0], with)
	}
	for _, kid := range x.Kids {
		if begins(kid, with) {
			return true
		}
		if short, _, _ := lengths(kid); x.Kind == 4 && short.Sign() > 0 {
			return false
		}
	}
	return false
}

func stopped(n *big.Int) int {
	if n == nil {
		return -1
	}
	if top := big.NewInt(Top); n.Cmp(top) > 0 {
		return Top
	}
	return int(n.Int64())
}

// Random trees with great numbers, against lengths as they truly are, and bytes one by one.
func TestP1003RandomTrees(t *testing.T) {
	next := sample.Chances()
	atTop, above0, hollow, endless := 0, 0, 0, 0
	for i := range 6000 {
		x := sample.Grown(1+next(30), next)
		if i%3 == 0 {
			x = greatly(2+next(30), next)
		}
		shortest, longest, forever := lengths(x)
		short, long := stopped(shortest), stopped(longest)
		if forever {
			long = -1
		}
		holdLengths(t, x, short, long)
		if short == Top || long == Top {
			atTop++
		}
		if short > 0 && short < Top {
			above0++
		}
		if short == -1 {
			hollow++
		}
		if forever {
			endless++
		}
		first, last := First(x), Last(x)
		other := mirrored(x)
		if First(other) != last || Last(other) != first || Shortest(other) != short || Longest(other) != long {
			t.Errorf("what is told of %s from the right is not told of it", brief(x))
		}
		for n := range 256 {
			// Most bytes are in the same sets as those beside them.
			if n%64 < 3 || n == 'a' || n == 'b' || i%50 == 0 {
				if hasByte(first, byte(n)) != begins(x, n) {
					t.Errorf("First(%s) is wrong of %d", brief(x), n)
				}
			}
		}
		if t.Failed() {
			return
		}
	}
	if min(atTop, above0, hollow, endless) < 300 {
		t.Errorf("%d lengths are Top, %d between, %d trees say no word, %d have no longest one", atTop, above0, hollow, endless)
	}
}

func TestP1003GreatTreesMayBe(t *testing.T) {
	next := sample.Chances()
	for range 1000 {
		if x := greatly(40, next); !tree.Right(x) {
			t.Errorf("%s may not be", brief(x))
		}
	}
	for _, n := range []int{0, 1, 1000, 1001, 123456789, Top} {
		x := exactly(n)
		if shortest, longest, _ := lengths(x); !tree.Right(x) || stopped(shortest) != n || stopped(longest) != n {
			t.Errorf("exactly(%d) says words of another length", n)
		}
	}
}
