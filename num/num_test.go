package num

import (
	"bytes"
	"math"
	"math/big"
	"slices"
	"strings"
	"testing"

	"doublet/api"
)

const (
	greatest = math.MaxInt
	least    = math.MinInt
	// The digits of the greatest int, and of the number behind it.
	greatestDigits = "9223372036854775807"
	behindGreatest = "9223372036854775808"
)

// edges: numbers about which sums, products and tops tend to go wrong.
func edges() []int {
	return []int{
		least, least + 1, -1000, -2, -1, 0, 1, 2, 3, 7, 9, 10, 11, 99, 100, 101,
		math.MaxInt32, math.MaxInt32 + 1, 1 << 40, 3037000499, 3037000500,
		greatest/10 - 1, greatest / 10, greatest/10 + 1, greatest/2 - 1, greatest / 2, greatest/2 + 1,
		greatest - 10, greatest - 1, greatest,
	}
}

func TestP101ArgumentsStay(t *testing.T) {
	b := []byte("a12,")
	room := append(make([]byte, 0, 16), b...)
	Take(room, 1, 100)
	if !bytes.Equal(room, b) || !bytes.Equal(room[:16], append(b, make([]byte, 12)...)) {
		t.Errorf("Take changed its bytes: %q", room[:16])
	}
	l := []int{-3, 50, 0, -1, greatest}
	kept := slices.Clone(l)
	Add(100, l...)
	Mul(100, l...)
	if !slices.Equal(l, kept) {
		t.Errorf("Add or Mul changed their numbers: %v", l)
	}
}

func TestP102Show(t *testing.T) {
	for _, c := range []struct {
		n    int
		want string
	}{
		{0, "0"}, {1, "1"}, {9, "9"}, {10, "10"}, {1000, "1000"}, {65536, "65536"},
		{greatest - 7, "9223372036854775800"}, {greatest, greatestDigits},
		{-1, ""}, {-10, ""}, {least, ""},
	} {
		if got := Show(c.n); got != c.want {
			t.Errorf("Show(%d) = %q, want %q", c.n, got, c.want)
		}
	}
}

func TestP102Read(t *testing.T) {
	for _, c := range []struct {
		s    string
		most int
		n    int
		err  api.Errno
	}{
		// Ordinary ones, and those just at and just above most.
		{"0", 0, 0, api.OK}, {"0", 9, 0, api.OK}, {"7", 7, 7, api.OK}, {"8", 7, 0, api.ErrRange},
		{"5", 3, 0, api.ErrRange}, {"1", 0, 0, api.ErrRange},
		{"12", 12, 12, api.OK}, {"13", 12, 0, api.ErrRange}, {"10", 10, 10, api.OK}, {"10", 9, 0, api.ErrRange},
		{"999", 1000, 999, api.OK}, {"1000", 1000, 1000, api.OK}, {"1001", 1000, 0, api.ErrRange},
		{"1234567890", 1234567890, 1234567890, api.OK}, {"1234567891", 1234567890, 0, api.ErrRange},
		// The greatest int, and what lies behind it.
		{greatestDigits, greatest, greatest, api.OK}, {greatestDigits, greatest - 1, 0, api.ErrRange},
		{behindGreatest, greatest, 0, api.ErrRange}, {"9223372036854775810", greatest, 0, api.ErrRange},
		{"10000000000000000000", greatest, 0, api.ErrRange},
		// These would wrap round to small numbers.
		{"18446744073709551616", greatest, 0, api.ErrRange}, {"18446744073709551617", 5, 0, api.ErrRange},
		{strings.Repeat("9", 5000), greatest, 0, api.ErrRange}, {"1" + strings.Repeat("0", 5000), greatest, 0, api.ErrRange},
		// No number is below 0.
		{"0", -1, 0, api.ErrRange}, {"5", -1, 0, api.ErrRange}, {"0", least, 0, api.ErrRange}, {"9", least, 0, api.ErrRange},
		// No digits, a 0 ahead of others, other bytes.
		{"", 5, 0, api.ErrForm}, {"00", 5, 0, api.ErrForm}, {"01", 5, 0, api.ErrForm}, {"007", 9, 0, api.ErrForm},
		{"1a", 5, 0, api.ErrForm}, {"a1", 5, 0, api.ErrForm}, {"a", 5, 0, api.ErrForm}, {"1 ", 5, 0, api.ErrForm},
		{" 1", 5, 0, api.ErrForm}, {"+1", 5, 0, api.ErrForm}, {"-1", 5, 0, api.ErrForm}, {"-0", 5, 0, api.ErrForm},
		{"1_0", 50, 0, api.ErrForm}, {"0x1", 5, 0, api.ErrForm}, {"1.0", 5, 0, api.ErrForm}, {"1\n", 5, 0, api.ErrForm},
		{"1\x00", 5, 0, api.ErrForm}, {"/", 50, 0, api.ErrForm}, {":", 50, 0, api.ErrForm}, {"\xff", 500, 0, api.ErrForm},
		{"\u0661", 5, 0, api.ErrForm}, {"1\u0661", 50, 0, api.ErrForm},
		// The form is asked ahead of the range.
		{"", -1, 0, api.ErrForm}, {"01", -1, 0, api.ErrForm}, {"1a", 0, 0, api.ErrForm},
		{strings.Repeat("9", 50) + "a", 5, 0, api.ErrForm}, {"0" + strings.Repeat("9", 50), 5, 0, api.ErrForm},
	} {
		if n, err := Read(c.s, c.most); n != c.n || err != c.err {
			t.Errorf("Read(%.40q, %d) = %d, %d, want %d, %d", c.s, c.most, n, err, c.n, c.err)
		}
	}
}

func TestP102ReadEveryByte(t *testing.T) {
	for c := range 256 {
		digit := '0' <= c && c <= '9'
		for _, s := range []string{string([]byte{byte(c)}), string([]byte{'4', byte(c)}), string([]byte{'4', byte(c), '2'})} {
			if _, err := Read(s, greatest); (err == api.OK) != digit || !digit && err != api.ErrForm {
				t.Errorf("Read(%q) = error %d", s, err)
			}
		}
	}
}

func TestP102ReadAgainstMost(t *testing.T) {
	for n := range 230 {
		for most := -3; most < 230; most++ {
			want, wantErr := n, api.OK
			if n > most {
				want, wantErr = 0, api.ErrRange
			}
			if got, err := Read(Show(n), most); got != want || err != wantErr {
				t.Errorf("Read of %d, %d = %d, %d", n, most, got, err)
			}
		}
	}
	for _, n := range edges() {
		for _, most := range edges() {
			if n < 0 {
				continue
			}
			if got, err := Read(Show(n), most); (err == api.OK) != (n <= most) || err == api.OK && got != n || err != api.OK && (got != 0 || err != api.ErrRange) {
				t.Errorf("Read of %d, %d = %d, %d", n, most, got, err)
			}
		}
	}
}

func TestP103Take(t *testing.T) {
	for _, c := range []struct {
		b              string
		at, most       int
		n, behind      int
		err            api.Errno
		whatIsLookedAt string
	}{
		{"a{12,", 2, 1000, 12, 4, api.OK, "up to the comma"},
		{"x700y", 1, 1000, 700, 4, api.OK, "digits within"},
		{"x700y", 2, 1000, 0, 0, api.ErrForm, "a 0 ahead of another"},
		{"x700y", 3, 1000, 0, 3 + 1, api.OK, "the last 0 alone"},
		{"700", 0, 700, 700, 3, api.OK, "all of it, at most"},
		{"700", 0, 699, 0, 0, api.ErrRange, "above most"},
		{"7,8", 0, 9, 7, 1, api.OK, "the first one"},
		{"7,8", 2, 9, 8, 3, api.OK, "up to the end"},
		{"7,8", 1, 9, 0, 0, api.ErrForm, "no digit there"},
		{"7,8", 3, 9, 0, 0, api.ErrForm, "at the end: no digits"},
		{"7,8", 4, 9, 0, 0, api.ErrArg, "past the end"},
		{"7,8", greatest, 9, 0, 0, api.ErrArg, "far past the end"},
		{"7,8", -1, 9, 0, 0, api.ErrArg, "below 0"},
		{"7,8", -3, 9, 0, 0, api.ErrArg, "never from the end"},
		{"7,8", least, 9, 0, 0, api.ErrArg, "far below 0"},
		{"", 0, 9, 0, 0, api.ErrForm, "nothing"},
		{"", 1, 9, 0, 0, api.ErrArg, "past nothing"},
		{"", -1, 9, 0, 0, api.ErrArg, "below nothing"},
		{"7", 2, -1, 0, 0, api.ErrArg, "the place is asked first"},
		{"0", 0, 0, 0, 1, api.OK, "a 0"},
		{"00", 0, 9, 0, 0, api.ErrForm, "a 0 ahead of another"},
		{"0a", 0, 9, 0, 1, api.OK, "a 0 and a letter"},
		{"05", 0, 9, 0, 0, api.ErrForm, "all digits are taken, not the 0 alone"},
		{"123", 0, 12, 0, 0, api.ErrRange, "all digits are taken, not those that would do"},
		{"5", 0, -1, 0, 0, api.ErrRange, "a most below 0"},
		{"-5", 0, 9, 0, 0, api.ErrForm, "a sign"},
		{"5/", 0, 9, 5, 1, api.OK, "the byte ahead of the digits"},
		{"5:", 0, 9, 5, 1, api.OK, "the byte behind the digits"},
		{"a" + greatestDigits + "b", 1, greatest, greatest, 20, api.OK, "the greatest int"},
		{"a" + behindGreatest + "b", 1, greatest, 0, 0, api.ErrRange, "behind the greatest int"},
		{strings.Repeat("9", 5000), 0, greatest, 0, 0, api.ErrRange, "many digits"},
		{strings.Repeat("0", 5000), 4999, greatest, 0, 5000, api.OK, "the last of many"},
	} {
		if n, behind, err := Take([]byte(c.b), c.at, c.most); n != c.n || behind != c.behind || err != c.err {
			t.Errorf("%s: Take(%.40q, %d, %d) = %d, %d, %d, want %d, %d, %d", c.whatIsLookedAt, c.b, c.at, c.most, n, behind, err, c.n, c.behind, c.err)
		}
	}
	for at, want := range map[int]api.Errno{-1: api.ErrArg, 0: api.ErrForm, 1: api.ErrArg} {
		if n, behind, err := Take(nil, at, 9); n != 0 || behind != 0 || err != want {
			t.Errorf("Take(nil, %d, 9) = %d, %d, %d, want error %d", at, n, behind, err, want)
		}
	}
}

// The room behind b is not b: a digit that lies there must not be taken.
func TestP103TakeStopsAtTheEnd(t *testing.T) {
	b := []byte("123456")[:3]
	if n, behind, err := Take(b, 1, 1000); n != 23 || behind != 3 || err != api.OK {
		t.Errorf("Take = %d, %d, %d, want 23, 3, 0", n, behind, err)
	}
	if _, _, err := Take(b, 4, 1000); err != api.ErrArg {
		t.Errorf("Take past the end, in the room behind: error %d", err)
	}
}

// Take is Read of the digits that stand there, and tells the place behind them.
func TestP103TakeIsRead(t *testing.T) {
	text := []byte("0a10,007;19 -42{1000,}99999999999999999999!5")
	for at := range len(text) + 1 {
		for _, most := range []int{-1, 0, 9, 19, 1000, greatest} {
			end := at
			for end < len(text) && strings.IndexByte("0123456789", text[end]) >= 0 {
				end++
			}
			want, wantErr := Read(string(text[at:end]), most)
			if wantErr != api.OK {
				end = 0
			}
			if n, behind, err := Take(text, at, most); n != want || behind != end || err != wantErr {
				t.Errorf("Take at %d, %d = %d, %d, %d, want %d, %d, %d", at, most, n, behind, err, want, end, wantErr)
			}
		}
	}
}

func TestP104Add(t *testing.T) {
	for _, c := range []struct {
		top  int
		l    []int
		want int
	}{
		{100, nil, 0}, {100, []int{}, 0}, {0, nil, 0}, {100, []int{7}, 7}, {100, []int{0}, 0}, {100, []int{60, 30}, 90},
		{100, []int{60, -5, 30}, 90}, {100, []int{-5}, 0}, {100, []int{-5, -6}, 0}, {100, []int{least, 3, least}, 3},
		{100, []int{60, 39}, 99}, {100, []int{60, 40}, 100}, {100, []int{60, 41}, 100}, {100, []int{101}, 100},
		{100, []int{60, 60, -60}, 100}, {100, []int{60, 60, 60, 60}, 100}, {0, []int{0, 0}, 0}, {0, []int{1}, 0},
		{greatest, []int{greatest}, greatest}, {greatest, []int{greatest, 0}, greatest}, {greatest, []int{greatest, 1}, greatest},
		{greatest, []int{greatest - 1, 1}, greatest}, {greatest, []int{greatest - 2, 1}, greatest - 1},
		{greatest, []int{greatest, greatest}, greatest}, {greatest, []int{greatest, greatest, 2}, greatest},
		{5, []int{greatest, greatest, 2}, 5}, {5, []int{1, greatest, greatest, 2}, 5},
		{-1, nil, 0}, {-1, []int{5}, 0}, {-1, []int{-5}, 0}, {-1, []int{0}, 0}, {least, []int{1, 2}, 0}, {least, nil, 0},
	} {
		if got := Add(c.top, c.l...); got != c.want {
			t.Errorf("Add(%d, %v) = %d, want %d", c.top, c.l, got, c.want)
		}
	}
}

func TestP104Mul(t *testing.T) {
	for _, c := range []struct {
		top  int
		l    []int
		want int
	}{
		{7, nil, 1}, {7, []int{}, 1}, {1, nil, 1}, {0, nil, 0}, {100, []int{7}, 7}, {100, []int{5, 6}, 30},
		{100, []int{33, 3}, 99}, {100, []int{10, 10}, 100}, {100, []int{101}, 100}, {100, []int{50, 6}, 100}, {100, []int{51, 2}, 100},
		{100, []int{0}, 0}, {100, []int{50, 6, 0}, 0}, {100, []int{0, 50, 6}, 0}, {100, []int{50, 0, 6}, 0}, {100, []int{50, 6, 1}, 100},
		{100, []int{-5}, 0}, {100, []int{-5, -6}, 0}, {100, []int{50, 6, -1}, 0}, {100, []int{least, 3}, 0}, {100, []int{least, least}, 0},
		{0, []int{1}, 0}, {0, []int{5, 6}, 0}, {0, []int{0}, 0}, {1, []int{1, 1}, 1}, {1, []int{2}, 1},
		{greatest, []int{greatest}, greatest}, {greatest, []int{greatest, 1}, greatest}, {greatest, []int{greatest, 2}, greatest},
		{greatest, []int{greatest, greatest}, greatest}, {greatest, []int{greatest, greatest, 0}, 0},
		{greatest, []int{1 << 32, 1 << 31}, greatest}, {greatest, []int{1 << 31, 1 << 31}, 1 << 62}, {greatest, []int{1 << 32, 1 << 32}, greatest},
		{greatest, []int{1 << 33, 1 << 33}, greatest}, {5, []int{1 << 32, 1 << 32}, 5},
		{greatest, []int{3037000499, 3037000499}, 3037000499 * 3037000499}, {greatest, []int{3037000500, 3037000500}, greatest},
		{-1, nil, 0}, {-1, []int{5}, 0}, {-1, []int{-5}, 0}, {-1, []int{0}, 0}, {least, []int{1, 2}, 0}, {least, nil, 0},
	} {
		if got := Mul(c.top, c.l...); got != c.want {
			t.Errorf("Mul(%d, %v) = %d, want %d", c.top, c.l, got, c.want)
		}
	}
}

// stopped is what a sum or a product comes to, by numbers that have no end.
func stopped(top, first int, l []int, two func(z, x, y *big.Int) *big.Int) int {
	if top < 0 {
		return 0
	}
	all, most := big.NewInt(int64(first)), big.NewInt(int64(top))
	for _, n := range l {
		two(all, all, big.NewInt(int64(max(n, 0))))
	}
	if all.Cmp(most) > 0 {
		all = most
	}
	return int(all.Int64())
}

func TestP104AgainstNumbersWithoutEnd(t *testing.T) {
	for _, top := range edges() {
		for _, a := range edges() {
			for _, b := range edges() {
				for _, c := range []int{least, -1, 0, 1, 2, 10, greatest / 2, greatest} {
					l := []int{a, b, c}
					if got, want := Add(top, l...), stopped(top, 0, l, (*big.Int).Add); got != want {
						t.Fatalf("Add(%d, %v) = %d, want %d", top, l, got, want)
					}
					if got, want := Mul(top, l...), stopped(top, 1, l, (*big.Int).Mul); got != want {
						t.Fatalf("Mul(%d, %v) = %d, want %d", top, l, got, want)
					}
				}
			}
		}
	}
}

func TestP105Back(t *testing.T) {
	back := func(n int) {
		if got, err := Read(Show(n), greatest); got != n || err != api.OK {
			t.Errorf("Read of Show(%d) = %d, %d", n, got, err)
		}
		if got, err := Read(Show(n), n); got != n || err != api.OK {
			t.Errorf("Read of Show(%d), that being most, = %d, %d", n, got, err)
		}
		if got, at, err := Take([]byte(Show(n)), 0, n); got != n || at != len(Show(n)) || err != api.OK {
			t.Errorf("Take of Show(%d) = %d, %d, %d", n, got, at, err)
		}
	}
	for n := range 12000 {
		back(n)
	}
	for ten := 1; ten <= greatest/10; ten *= 10 {
		back(10*ten - 1)
		back(10 * ten)
		back(10*ten + 1)
	}
	for two := 1; two > 0 && two < 1<<62; two *= 2 {
		back(2*two - 1)
		back(2 * two)
	}
	for n := greatest - 100; n < greatest; n++ {
		back(n)
	}
	back(greatest)
}

// orders hands over l in each of its orders.
func orders(l []int, from int, take func([]int)) {
	if from == len(l) {
		take(l)
		return
	}
	for i := from; i < len(l); i++ {
		l[from], l[i] = l[i], l[from]
		orders(l, from+1, take)
		l[from], l[i] = l[i], l[from]
	}
}

func TestP106Order(t *testing.T) {
	for _, l := range [][]int{
		{0, 1, 2, 3}, {50, 6, 0, 1}, {50, 6, 2, 1}, {50, 6, -1, 3}, {60, 60, -60, 1, 7}, {-1, -2, -3, 5},
		{greatest, 1, 0, 2}, {greatest, greatest, -1, 1}, {1 << 32, 1 << 32, 3, 0, 1}, {least, greatest, 5, 1}, {greatest / 2, 2, 1, 3, 1},
	} {
		for _, top := range []int{least, -1, 0, 1, 5, 59, 60, 100, 300, 600, 1 << 62, greatest - 1, greatest} {
			sum, product := Add(top, l...), Mul(top, l...)
			orders(slices.Clone(l), 0, func(o []int) {
				if got := Add(top, o...); got != sum {
					t.Errorf("Add(%d, %v) = %d, in another order %d", top, o, got, sum)
				}
				if got := Mul(top, o...); got != product {
					t.Errorf("Mul(%d, %v) = %d, in another order %d", top, o, got, product)
				}
			})
		}
	}
}
