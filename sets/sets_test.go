package sets

import (
	"bytes"
	"slices"
	"testing"

	"doublet/api"
)

// edges: bytes at the ends of a set's words, and of all bytes.
func edges() []byte {
	return []byte{0, 1, 62, 63, 64, 65, 126, 127, 128, 129, 190, 191, 192, 193, 254, 255}
}

// A model says of each byte whether it is in a set.
type model [256]bool

func modelOf(in func(b int) bool) model {
	var m model
	for b := range 256 {
		m[b] = in(b)
	}
	return m
}

// modelIn reads a set as package api says what it is, and by no call that is tested here.
func modelIn(s api.Set) model {
	return modelOf(func(b int) bool { return s[b/64]&(1<<(b%64)) != 0 })
}

func (m model) set() api.Set {
	var s api.Set
	for b := range 256 {
		if m[b] {
			s[b/64] |= 1 << (b % 64)
		}
	}
	return s
}

func (m model) bytes() []byte {
	var l []byte
	for b := range 256 {
		if m[b] {
			l = append(l, byte(b))
		}
	}
	return l
}

// spans: a piece begins at a byte that is in, with none ahead of it that is, and ends at the last such one.
func (m model) spans() [][2]byte {
	var l [][2]byte
	for from := 0; from < 256; from++ {
		if !m[from] {
			continue
		}
		to := from
		for to+1 < 256 && m[to+1] {
			to++
		}
		l = append(l, [2]byte{byte(from), byte(to)})
		from = to
	}
	return l
}

// samples: the empty set, that of all, those of one byte, spans about the words' ends, and mixed ones.
func samples() []api.Set {
	l := []api.Set{
		{}, {^uint64(0), ^uint64(0), ^uint64(0), ^uint64(0)},
		{^uint64(0)}, {0, ^uint64(0)}, {0, 0, ^uint64(0)}, {0, 0, 0, ^uint64(0)},
		{1 << 63, 1}, {0, 1 << 63, 1}, {0, 0, 1 << 63, 1}, {1, 0, 0, 1 << 63},
		{1 << 63, 0, 0, 1}, {1 << 63, ^uint64(0), ^uint64(0), 1}, {1<<63 | 1, 1<<63 | 1, 1<<63 | 1, 1<<63 | 1},
		{0x5555555555555555, 0x5555555555555555, 0x5555555555555555, 0x5555555555555555},
		{0xaaaaaaaaaaaaaaaa, 0xaaaaaaaaaaaaaaaa, 0xaaaaaaaaaaaaaaaa, 0xaaaaaaaaaaaaaaaa},
	}
	for _, lo := range edges() {
		for _, hi := range edges() {
			if lo <= hi {
				l = append(l, modelOf(func(b int) bool { return int(lo) <= b && b <= int(hi) }).set())
			}
		}
	}
	// A row of numbers that is always the same; parted anew, so that some sets are thin and some are thick.
	x := uint64(88172645463325252)
	next := func() uint64 {
		x ^= x << 13
		x ^= x >> 7
		x ^= x << 17
		return x
	}
	for range 20 {
		l = append(l, api.Set{next(), next(), next(), next()})
		l = append(l, api.Set{next() & next() & next(), 0, next() & next() & next(), next() & next()})
		l = append(l, api.Set{next() | next() | next(), next() | next(), ^uint64(0), next() | next()})
	}
	return l
}

func TestP201ArgumentsStay(t *testing.T) {
	few := append(make([]byte, 0, 8), 3, 1, 3)
	room := few[:8:8]
	room[3] = 77
	Of(few...)
	if !bytes.Equal(room, []byte{3, 1, 3, 77, 0, 0, 0, 0}) {
		t.Errorf("Of changed its bytes: %v", room)
	}
	sets := append(make([]api.Set, 0, 4), api.Set{1, 2, 3, 4}, api.Set{}, api.Set{5, 6, 7, 8})
	behind := sets[:4:4]
	behind[3] = api.Set{9}
	kept := slices.Clone(behind)
	Union(sets...)
	if !slices.Equal(behind, kept) {
		t.Errorf("Union changed its sets: %v", behind)
	}
}

// What is written into an answer is seen in no other one, nor in what is told later.
func TestP201AnswersAreNewMemory(t *testing.T) {
	for _, s := range samples() {
		one, other := Bytes(s), Bytes(s)
		for i := range one {
			one[i] ^= 0xff
		}
		if want := modelIn(s).bytes(); !bytes.Equal(other, want) || !bytes.Equal(Bytes(s), want) {
			t.Fatalf("Bytes of %x shares what it answers", s)
		}
		pieces, others := Spans(s), Spans(s)
		for i := range pieces {
			pieces[i] = [2]byte{7, 3}
		}
		if want := modelIn(s).spans(); !slices.Equal(others, want) || !slices.Equal(Spans(s), want) {
			t.Fatalf("Spans of %x shares what it answers", s)
		}
	}
	one, other := Bytes(Of(1, 2)), Bytes(Of(1, 2))
	_ = append(one, 9)
	if got := append(other, 8); !bytes.Equal(got, []byte{1, 2, 8}) {
		t.Errorf("the room behind what Bytes answers is shared: %v", got)
	}
	all := All()
	all[0] = 0
	if All() != (api.Set{^uint64(0), ^uint64(0), ^uint64(0), ^uint64(0)}) {
		t.Error("All is changed by what is done to its answer")
	}
}

func TestP202Of(t *testing.T) {
	for _, c := range []struct {
		l    []byte
		want api.Set
	}{
		{nil, api.Set{}}, {[]byte{}, api.Set{}},
		{[]byte{0}, api.Set{1}}, {[]byte{63}, api.Set{1 << 63}}, {[]byte{64}, api.Set{0, 1}}, {[]byte{127}, api.Set{0, 1 << 63}},
		{[]byte{128}, api.Set{0, 0, 1}}, {[]byte{191}, api.Set{0, 0, 1 << 63}}, {[]byte{192}, api.Set{0, 0, 0, 1}}, {[]byte{255}, api.Set{0, 0, 0, 1 << 63}},
		{[]byte{5, 5}, api.Set{1 << 5}}, {[]byte{255, 255, 255}, api.Set{0, 0, 0, 1 << 63}}, {[]byte{64, 0, 64}, api.Set{1, 1}},
		{[]byte{192, 0, 128, 64}, api.Set{1, 1, 1, 1}}, {[]byte("abcx"), api.Set{0, 7<<33 | 1<<56}}, {[]byte("xcba"), api.Set{0, 7<<33 | 1<<56}},
		{bytes.Repeat([]byte{9}, 100000), api.Set{1 << 9}},
	} {
		if got := Of(c.l...); got != c.want {
			t.Errorf("Of(%.20v) = %x, want %x", c.l, got, c.want)
		}
	}
	for _, s := range samples() {
		l := modelIn(s).bytes()
		slices.Reverse(l)
		if got := Of(append(l, l...)...); got != s {
			t.Errorf("Of all bytes of %x, falling and twice, = %x", s, got)
		}
	}
}

func TestP202Span(t *testing.T) {
	for lo := range 256 {
		for hi := range 256 {
			want := modelOf(func(b int) bool { return lo <= b && b <= hi }).set()
			if got := Span(byte(lo), byte(hi)); got != want {
				t.Fatalf("Span(%d, %d) = %x, want %x", lo, hi, got, want)
			}
		}
	}
	for _, b := range edges() {
		if Span(b, b) != Of(b) {
			t.Errorf("Span(%d, %d) = %x", b, b, Span(b, b))
		}
	}
	if Span(255, 0) != (api.Set{}) || Span(9, 8) != (api.Set{}) || Span(0, 255) != All() {
		t.Error("Span of none, or of all")
	}
}

func TestP202All(t *testing.T) {
	if got := All(); modelIn(got) != modelOf(func(int) bool { return true }) {
		t.Errorf("All = %x", got)
	}
}

func TestP202Has(t *testing.T) {
	for _, s := range samples() {
		m := modelIn(s)
		for b := range 256 {
			if got := Has(s, byte(b)); got != m[b] {
				t.Fatalf("Has(%x, %d) = %t", s, b, got)
			}
		}
	}
}

func TestP202Union(t *testing.T) {
	a, b := api.Set{0b0011, 0, 1 << 63, 5}, api.Set{0b0101, 1, 1 << 63, 0}
	for _, c := range []struct {
		l    []api.Set
		want api.Set
	}{
		{nil, api.Set{}}, {[]api.Set{}, api.Set{}}, {[]api.Set{{}}, api.Set{}}, {[]api.Set{a}, a}, {[]api.Set{a, a}, a}, {[]api.Set{a, {}}, a}, {[]api.Set{{}, a}, a},
		{[]api.Set{a, b}, api.Set{0b0111, 1, 1 << 63, 5}}, {[]api.Set{b, a}, api.Set{0b0111, 1, 1 << 63, 5}},
		{[]api.Set{a, All(), b}, All()}, {[]api.Set{{1}, {0, 2}, {0, 0, 3}, {0, 0, 0, 4}}, api.Set{1, 2, 3, 4}},
	} {
		if got := Union(c.l...); got != c.want {
			t.Errorf("Union(%x) = %x, want %x", c.l, got, c.want)
		}
	}
	var ones []api.Set
	for b := range 256 {
		ones = append(ones, Of(byte(b)))
		if got, want := Union(ones...), Span(0, byte(b)); got != want {
			t.Errorf("Union of the sets of 0 to %d, one by one, = %x", b, got)
		}
	}
}

func TestP202OfTwo(t *testing.T) {
	for _, a := range samples() {
		for _, b := range samples() {
			x, y := modelIn(a), modelIn(b)
			for _, c := range []struct {
				name string
				got  api.Set
				in   func(i int) bool
			}{
				{"Union", Union(a, b), func(i int) bool { return x[i] || y[i] }},
				{"Meet", Meet(a, b), func(i int) bool { return x[i] && y[i] }},
				{"Less", Less(a, b), func(i int) bool { return x[i] && !y[i] }},
			} {
				if modelIn(c.got) != modelOf(c.in) {
					t.Fatalf("%s of %x and %x = %x", c.name, a, b, c.got)
				}
			}
		}
	}
}

func TestP202Not(t *testing.T) {
	for _, s := range samples() {
		m := modelIn(s)
		if got := Not(s); modelIn(got) != modelOf(func(b int) bool { return !m[b] }) {
			t.Errorf("Not(%x) = %x", s, got)
		}
	}
	if Not(api.Set{}) != All() || Not(All()) != (api.Set{}) {
		t.Error("Not of none, or of all")
	}
}

func TestP203Count(t *testing.T) {
	if Count(api.Set{}) != 0 || Count(All()) != 256 {
		t.Errorf("Count of none = %d, of all = %d", Count(api.Set{}), Count(All()))
	}
	for _, s := range samples() {
		if got, want := Count(s), len(modelIn(s).bytes()); got != want {
			t.Errorf("Count(%x) = %d, want %d", s, got, want)
		}
	}
}

func TestP203Least(t *testing.T) {
	if got := Least(api.Set{}); got != -1 {
		t.Errorf("Least of none = %d", got)
	}
	for b := range 256 {
		if got := Least(Of(byte(b))); got != b {
			t.Errorf("Least of %d alone = %d", b, got)
		}
		if got := Least(Span(byte(b), 255)); got != b {
			t.Errorf("Least of %d to 255 = %d", b, got)
		}
	}
	for _, s := range samples() {
		want := slices.Index(modelToSlice(s), true)
		if got := Least(s); got != want {
			t.Errorf("Least(%x) = %d, want %d", s, got, want)
		}
	}
}

func modelToSlice(s api.Set) []bool {
	m := modelIn(s)
	return m[:]
}

func TestP203Bytes(t *testing.T) {
	if got := Bytes(api.Set{}); len(got) != 0 {
		t.Errorf("Bytes of none = %v", got)
	}
	if got := Bytes(Of(255, 0, 192, 64, 191, 63, 128, 127, 0)); !bytes.Equal(got, []byte{0, 63, 64, 127, 128, 191, 192, 255}) {
		t.Errorf("Bytes at the words' ends = %v", got)
	}
	for _, s := range samples() {
		if got, want := Bytes(s), modelIn(s).bytes(); !bytes.Equal(got, want) {
			t.Errorf("Bytes(%x) = %v, want %v", s, got, want)
		}
	}
}

func TestP203Spans(t *testing.T) {
	for _, c := range []struct {
		s    api.Set
		want [][2]byte
	}{
		{api.Set{}, nil}, {All(), [][2]byte{{0, 255}}},
		{Of([]byte("abcx")...), [][2]byte{{'a', 'c'}, {'x', 'x'}}},
		{Of(0), [][2]byte{{0, 0}}}, {Of(255), [][2]byte{{255, 255}}}, {Of(0, 255), [][2]byte{{0, 0}, {255, 255}}},
		{Of(254, 255, 0, 1), [][2]byte{{0, 1}, {254, 255}}},
		{Of(63, 64), [][2]byte{{63, 64}}}, {Of(127, 128), [][2]byte{{127, 128}}}, {Of(191, 192), [][2]byte{{191, 192}}},
		{Of(63, 65), [][2]byte{{63, 63}, {65, 65}}}, {Of(62, 64), [][2]byte{{62, 62}, {64, 64}}},
		{Span(63, 192), [][2]byte{{63, 192}}}, {Span(64, 127), [][2]byte{{64, 127}}}, {Less(All(), Of(64)), [][2]byte{{0, 63}, {65, 255}}},
		{Less(All(), Of(63)), [][2]byte{{0, 62}, {64, 255}}}, {Less(All(), Of(0, 255)), [][2]byte{{1, 254}}},
		{Union(Span(0, 63), Span(64, 127), Span(128, 191), Span(192, 255)), [][2]byte{{0, 255}}},
		{Union(Span(0, 63), Span(128, 191)), [][2]byte{{0, 63}, {128, 191}}},
	} {
		if got := Spans(c.s); !slices.Equal(got, c.want) {
			t.Errorf("Spans(%x) = %v, want %v", c.s, got, c.want)
		}
	}
	for _, s := range samples() {
		if got, want := Spans(s), modelIn(s).spans(); !slices.Equal(got, want) {
			t.Errorf("Spans(%x) = %v, want %v", s, got, want)
		}
	}
	if got := len(Spans(modelOf(func(b int) bool { return b%2 == 1 }).set())); got != 128 {
		t.Errorf("every other byte is in %d pieces", got)
	}
}

// Whoever stops going through the bytes is handed none behind.
func TestP203BytesUpToAnEnd(t *testing.T) {
	s := Of(3, 64, 200, 255)
	for most := 1; most <= 4; most++ {
		var l []byte
		for b := range each(s) {
			l = append(l, b)
			if len(l) == most {
				break
			}
		}
		if !bytes.Equal(l, []byte{3, 64, 200, 255}[:most]) {
			t.Errorf("the first %d bytes are %v", most, l)
		}
	}
	again := each(s)
	for range 2 {
		if got := slices.Collect(again); !bytes.Equal(got, Bytes(s)) {
			t.Errorf("gone through: %v", got)
		}
	}
}

func TestP204Laws(t *testing.T) {
	l := samples()
	for i, a := range l {
		for j, b := range l {
			if Not(Union(a, b)) != Meet(Not(a), Not(b)) {
				t.Fatalf("Not of the Union of %x and %x = %x", a, b, Not(Union(a, b)))
			}
			if Less(a, b) != Meet(a, Not(b)) {
				t.Fatalf("Less(%x, %x) = %x", a, b, Less(a, b))
			}
			if Count(Union(a, b))+Count(Meet(a, b)) != Count(a)+Count(b) {
				t.Fatalf("counts of %x and %x: %d and %d", a, b, Count(Union(a, b)), Count(Meet(a, b)))
			}
			c := l[(i+j)%len(l)]
			if Not(Union(a, b, c)) != Meet(Meet(Not(a), Not(b)), Not(c)) {
				t.Fatalf("Not of the Union of %x, %x and %x = %x", a, b, c, Not(Union(a, b, c)))
			}
		}
	}
	if Not(Union()) != All() {
		t.Error("Not of the Union of no sets")
	}
}

// What is told of a set makes the set again.
func TestP203Back(t *testing.T) {
	for _, s := range samples() {
		if Of(Bytes(s)...) != s {
			t.Errorf("Of the Bytes of %x = %x", s, Of(Bytes(s)...))
		}
		var pieces []api.Set
		for _, p := range Spans(s) {
			pieces = append(pieces, Span(p[0], p[1]))
		}
		if Union(pieces...) != s {
			t.Errorf("Union of the Spans of %x = %x", s, Union(pieces...))
		}
	}
}
