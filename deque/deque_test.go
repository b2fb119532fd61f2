package deque_test

import (
	"math"
	"runtime"
	"slices"
	"strconv"
	"testing"
	"time"
	"weak"

	"millpond/api"
	"millpond/deque"
)

// upTo are the numbers from 1 to n.
func upTo(n int) []int {
	var l []int
	for i := range n {
		l = append(l, i+1)
	}
	return l
}

// The words: a row, its zero value, a row that is nil, a place

func TestTheExample(t *testing.T) {
	d := deque.Of(1, 2)
	if e := d.Unshift(0); e != api.OK {
		t.Fatal(e)
	}
	if e := d.Insert(1, 9); e != api.OK {
		t.Fatal(e)
	}
	checkRow(t, d, 0, 9, 1, 2)
	if e := d.Trim(1, 3); e != api.OK {
		t.Fatal(e)
	}
	checkRow(t, d, 9, 1)
}

func TestTheZeroValueIsAnEmptyRow(t *testing.T) {
	var d deque.Deque[string]
	checkRow(t, &d)
	for name, f := range map[string]func(d *deque.Deque[string]) api.Errno{
		"Push":    func(d *deque.Deque[string]) api.Errno { return d.Push("a") },
		"Unshift": func(d *deque.Deque[string]) api.Errno { return d.Unshift("a") },
		"Insert":  func(d *deque.Deque[string]) api.Errno { return d.Insert(0, "a") },
	} {
		var d deque.Deque[string]
		if e := f(&d); e != api.OK {
			t.Errorf("%s: %v", name, e)
		}
		checkRow(t, &d, "a")
		d.Push("b")
		d.Unshift("")
		checkRow(t, &d, "", "a", "b")
	}
}

func TestTheZeroValueHasNothing(t *testing.T) {
	d := new(deque.Deque[int])
	if v, ok := d.Pop(); v != 0 || ok {
		t.Errorf("Pop = %d, %t", v, ok)
	}
	if v, ok := d.Shift(); v != 0 || ok {
		t.Errorf("Shift = %d, %t", v, ok)
	}
	for _, i := range []int{-1, 0, 1} {
		if v, e := d.At(i); v != 0 || e != api.ErrRange {
			t.Errorf("At(%d) = %d, %v", i, v, e)
		}
		if e := d.Set(i, 7); e != api.ErrRange {
			t.Errorf("Set(%d) = %v", i, e)
		}
		if v, e := d.Remove(i); v != 0 || e != api.ErrRange {
			t.Errorf("Remove(%d) = %d, %v", i, v, e)
		}
	}
	for _, i := range []int{-1, 1} {
		if e := d.Insert(i, 7); e != api.ErrRange {
			t.Errorf("Insert(%d) = %v", i, e)
		}
	}
	for _, c := range [][2]int{{0, 1}, {1, 1}, {-1, 0}, {1, 0}, {-1, -1}} {
		if e := d.Trim(c[0], c[1]); e != api.ErrRange {
			t.Errorf("Trim(%d, %d) = %v", c[0], c[1], e)
		}
	}
	if e := d.Trim(0, 0); e != api.OK {
		t.Errorf("Trim(0, 0) = %v", e)
	}
	checkRow(t, d)
}

func TestTheZeroValueInOtherThings(t *testing.T) {
	var l [3]deque.Deque[int]
	var s struct {
		name string
		deque.Deque[string]
	}
	l[0].Push(1)
	l[2].Unshift(3)
	s.Push("a")
	checkRow(t, &l[0], 1)
	checkRow(t, &l[1])
	checkRow(t, &l[2], 3)
	checkRow(t, &s.Deque, "a")
}

func TestARowThatIsNil(t *testing.T) {
	var d *deque.Deque[string]
	if d.Len() != 0 || len(d.List()) != 0 {
		t.Errorf("Len = %d, List = %q", d.Len(), d.List())
	}
	for name, e := range map[string]api.Errno{
		"Push": d.Push("a"), "Unshift": d.Unshift("a"),
		"Set(0)": d.Set(0, "a"), "Set(-1)": d.Set(-1, "a"),
		"Insert(0)": d.Insert(0, "a"), "Insert(1)": d.Insert(1, "a"), "Insert(-1)": d.Insert(-1, "a"),
		"Trim(0, 0)": d.Trim(0, 0), "Trim(-1, 0)": d.Trim(-1, 0), "Trim(1, 0)": d.Trim(1, 0), "Trim(0, 1)": d.Trim(0, 1),
	} {
		if e != api.ErrNil {
			t.Errorf("%s = %v; want ErrNil", name, e)
		}
	}
	for _, i := range []int{-1, 0, 1, math.MinInt, math.MaxInt} {
		if v, e := d.Remove(i); v != "" || e != api.ErrNil {
			t.Errorf("Remove(%d) = %q, %v; want ErrNil", i, v, e)
		}
		if v, e := d.At(i); v != "" || e != api.ErrRange {
			t.Errorf("At(%d) = %q, %v; want ErrRange", i, v, e)
		}
	}
	if v, ok := d.Pop(); v != "" || ok {
		t.Errorf("Pop = %q, %t", v, ok)
	}
	if v, ok := d.Shift(); v != "" || ok {
		t.Errorf("Shift = %q, %t", v, ok)
	}
	for i, v := range d.All() {
		t.Errorf("All tells %d, %q", i, v)
	}
	for i, v := range d.Back() {
		t.Errorf("Back tells %d, %q", i, v)
	}
}

// A row that is copied as a value is made by no call; none of the two is spoilt by the other one.
func TestARowThatIsCopiedAsAValue(t *testing.T) {
	rows := []deque.Deque[int]{*deque.Of(1, 2, 3)}
	rows[0].Shift()
	rows[0].Push(4)
	moved := append([]deque.Deque[int]{*deque.Of(0)}, rows...)
	moved[1].Unshift(1)
	checkRow(t, &moved[1], 1, 2, 3, 4)
	for i := range 9 {
		rows[0].Push(i)
		moved[1].Unshift(-i)
	}
	a, b := rows[0].List(), moved[1].List()
	if !slices.Equal(a, b) || len(a) != 22 {
		t.Errorf("%v and %v", a, b)
	}
}

// P6.1

func TestOf(t *testing.T) {
	checkRow(t, deque.Of[int]())
	checkRow(t, deque.Of([]int(nil)...))
	checkRow(t, deque.Of([]int{}...))
	checkRow(t, deque.Of(7), 7)
	checkRow(t, deque.Of("a", "", "a"), "a", "", "a")
	for n := range 20 {
		checkRow(t, deque.Of(upTo(n)...), upTo(n)...)
	}
	if deque.Of[int]() == nil {
		t.Fatal("Of of no values is nil")
	}
	d := deque.Of[int]()
	if e := d.Push(1); e != api.OK {
		t.Fatal(e)
	}
	checkRow(t, d, 1)
}

func TestOfAListThatIsChangedAfterwards(t *testing.T) {
	for n := 1; n < 10; n++ {
		l := upTo(n)
		d := deque.Of(l...)
		for i := range l {
			l[i] = -1
		}
		checkRow(t, d, upTo(n)...)
	}
}

func TestTheListOfOfIsNotChanged(t *testing.T) {
	for n := range 10 {
		whole := append(upTo(n), 100, 101, 102, 103, 104, 105, 106, 107)
		was := slices.Clone(whole)
		for _, l := range [][]int{whole[:n], whole[:n:n]} {
			d := deque.Of(l...)
			for i := range n {
				d.Set(i, -1)
			}
			d.Push(-2)
			d.Unshift(-3)
			d.Insert(1, -4)
			d.Remove(0)
			d.Trim(1, d.Len())
			if !slices.Equal(whole, was) {
				t.Fatalf("the list of %d is %v", n, whole)
			}
		}
	}
}

func TestPushAndUnshiftByTurns(t *testing.T) {
	for _, first := range []int{0, 1} {
		x := newTried(t)
		for i := range 70 {
			if i%2 == first {
				x.push(i)
			} else {
				x.unshift(i)
			}
		}
		for i := range 70 {
			if i%2 == first {
				x.shift()
			} else {
				x.pop()
			}
		}
		x.shift()
		x.pop()
	}
}

// At each size the ring grows while it begins at each of its slots.
func TestTheRingGrowsWhereverItBegins(t *testing.T) {
	for slots := range 18 {
		for turns := range slots {
			for _, grow := range []func(x *tried, v int){(*tried).push, (*tried).unshift, func(x *tried, v int) { x.insert(len(x.m)/2, v) }} {
				x := turned(t, slots, slots, turns)
				for v := range slots + 2 {
					grow(x, 100+v)
				}
			}
		}
	}
}

func TestPopAndShiftOfAnEmptyRow(t *testing.T) {
	for _, x := range []*tried{newTried(t), {t: t, Deque: new(deque.Deque[int])}, turned(t, 0, 5, 3)} {
		for range 3 {
			x.pop()
			x.shift()
		}
		x.push(1)
		x.pop()
		x.pop()
		x.push(2)
		x.shift()
		x.shift()
		x.unshift(3)
		x.pop()
		x.pop()
		x.unshift(4)
		x.shift()
		x.shift()
		x.unshift(5)
		x.push(6)
	}
}

func TestAZeroThatIsThereIsTold(t *testing.T) {
	d := deque.Of(0, 0)
	if v, ok := d.Pop(); v != 0 || !ok {
		t.Errorf("Pop = %d, %t", v, ok)
	}
	if v, ok := d.Shift(); v != 0 || !ok {
		t.Errorf("Shift = %d, %t", v, ok)
	}
	if v, ok := d.Shift(); v != 0 || ok {
		t.Errorf("Shift of none = %d, %t", v, ok)
	}
}

// P6.2

// placesOf are the places of a row of n, and some that are none.
func placesOf(n int) []int {
	l := []int{math.MinInt, math.MinInt + 1, -1 << 32, math.MaxInt - 1, math.MaxInt, 1 << 32}
	for i := -n - 2; i <= 2*n+2; i++ {
		l = append(l, i)
	}
	return l
}

func TestPlacesOfRowsThatBeginAnywhere(t *testing.T) {
	for n := range 10 {
		for turns := range 9 {
			for _, i := range placesOf(n) {
				turned(t, n, 8, turns).set(i, -7)
				turned(t, n, 8, turns).insert(i, -7)
				turned(t, n, 8, turns).remove(i)
				v, e := turned(t, n, 8, turns).At(i)
				if there := 0 <= i && i < n; there && (v != i+1 || e != api.OK) || !there && (v != 0 || e != api.ErrRange) {
					t.Fatalf("At(%d) of %d = %d, %v", i, n, v, e)
				}
			}
		}
	}
}

func TestPlacesOfRowsOfAList(t *testing.T) {
	for n := range 10 {
		for _, i := range placesOf(n) {
			newTried(t, upTo(n)...).set(i, -7)
			newTried(t, upTo(n)...).insert(i, -7)
			newTried(t, upTo(n)...).remove(i)
		}
	}
}

func TestPlacesOneByOne(t *testing.T) {
	d := deque.Of("a", "b", "c")
	for _, i := range []int{-1, 3} {
		if e := d.Set(i, "x"); e != api.ErrRange {
			t.Errorf("Set(%d) = %v", i, e)
		}
		if v, e := d.Remove(i); v != "" || e != api.ErrRange {
			t.Errorf("Remove(%d) = %q, %v", i, v, e)
		}
	}
	for _, i := range []int{-1, 4} {
		if e := d.Insert(i, "x"); e != api.ErrRange {
			t.Errorf("Insert(%d) = %v", i, e)
		}
	}
	checkRow(t, d, "a", "b", "c")
	d.Insert(3, "d")
	d.Insert(0, "0")
	d.Insert(2, "ab")
	checkRow(t, d, "0", "a", "ab", "b", "c", "d")
	d.Set(0, "first")
	d.Set(5, "last")
	checkRow(t, d, "first", "a", "ab", "b", "c", "last")
	for _, c := range []struct {
		i    int
		want string
	}{{5, "last"}, {0, "first"}, {1, "ab"}, {1, "b"}, {0, "a"}, {0, "c"}} {
		if v, e := d.Remove(c.i); v != c.want || e != api.OK {
			t.Fatalf("Remove(%d) = %q, %v; want %q", c.i, v, e, c.want)
		}
	}
	checkRow(t, d)
}

func TestTrimOfRowsThatBeginAnywhere(t *testing.T) {
	far := []int{math.MinInt, math.MaxInt}
	for n := range 7 {
		for turns := range 9 {
			for from := -2; from <= n+2; from++ {
				for to := -2; to <= n+2; to++ {
					turned(t, n, 8, turns).trim(from, to)
				}
				for _, to := range far {
					turned(t, n, 8, turns).trim(from, to)
					turned(t, n, 8, turns).trim(to, from)
				}
			}
		}
		for _, from := range far {
			for _, to := range far {
				turned(t, n, 8, 3).trim(from, to)
			}
		}
	}
}

func TestTrimOneByOne(t *testing.T) {
	for _, c := range []struct {
		from, to int
		e        api.Errno
		want     []int
	}{
		{0, 4, api.OK, []int{1, 2, 3, 4}},
		{0, 3, api.OK, []int{1, 2, 3}},
		{1, 4, api.OK, []int{2, 3, 4}},
		{1, 3, api.OK, []int{2, 3}},
		{0, 0, api.OK, nil},
		{2, 2, api.OK, nil},
		{4, 4, api.OK, nil},
		{-1, 2, api.ErrRange, []int{1, 2, 3, 4}},
		{3, 2, api.ErrRange, []int{1, 2, 3, 4}},
		{0, 5, api.ErrRange, []int{1, 2, 3, 4}},
		{5, 5, api.ErrRange, []int{1, 2, 3, 4}},
		{-1, -1, api.ErrRange, []int{1, 2, 3, 4}},
		{0, -1, api.ErrRange, []int{1, 2, 3, 4}},
	} {
		d := deque.Of(1, 2, 3, 4)
		if e := d.Trim(c.from, c.to); e != c.e {
			t.Errorf("Trim(%d, %d) = %v; want %v", c.from, c.to, e, c.e)
		}
		checkRow(t, d, c.want...)
		d.Push(8)
		d.Unshift(7)
		checkRow(t, d, append(append([]int{7}, c.want...), 8)...)
	}
}

// P6.3

func TestAllAndBackLeftAnywhere(t *testing.T) {
	for n := range 10 {
		for turns := range 9 {
			x := turned(t, n, 8, turns)
			for left := range n + 1 {
				var rising, falling []int
				for i, v := range x.All() {
					if i == left {
						break
					}
					rising = append(rising, v)
				}
				for i, v := range x.Back() {
					if i == n-1-left {
						break
					}
					falling = append(falling, v)
				}
				slices.Reverse(falling)
				if !slices.Equal(rising, x.m[:left]) || !slices.Equal(falling, x.m[n-left:]) {
					t.Fatalf("left after %d of %d: %v and %v", left, n, rising, falling)
				}
			}
			x.check()
		}
	}
}

// What is left is not called again.
func TestAllAndBackEndWhenTheyAreLeft(t *testing.T) {
	d := deque.Of(upTo(9)...)
	for name, all := range map[string]func(func(int, int) bool){"All": d.All(), "Back": d.Back()} {
		for left := 1; left <= 9; left++ {
			calls := 0
			all(func(int, int) bool {
				calls++
				return calls < left
			})
			if calls != left {
				t.Errorf("%s, left at the %d. value, goes on to the %d.", name, left, calls)
			}
		}
	}
}

func TestAllAndBackAreOfTheRowWhenTheyAreRangedOver(t *testing.T) {
	d := new(deque.Deque[int])
	all, back := d.All(), d.Back()
	for n := range 20 {
		var rising, falling []int
		for _, v := range all {
			rising = append(rising, v)
		}
		for _, v := range back {
			falling = append(falling, v)
		}
		slices.Reverse(falling)
		if want := upTo(n); !slices.Equal(rising, want) || !slices.Equal(falling, want) {
			t.Fatalf("of %d: %v, %v", n, rising, falling)
		}
		d.Push(n + 1)
	}
}

func TestAllAndBackWithinOneAnother(t *testing.T) {
	d := deque.Of("a", "b", "c")
	l := ""
	for i, v := range d.All() {
		for j, w := range d.Back() {
			for range d.All() {
				l += strconv.Itoa(i) + v + strconv.Itoa(j) + w + " "
				break
			}
		}
	}
	if want := "0a2c 0a1b 0a0a 1b2c 1b1b 1b0a 2c2c 2c1b 2c0a "; l != want {
		t.Errorf("%s; want %s", l, want)
	}
}

// They tell the row as it is when no call comes meanwhile; whatever comes, they end, and none panics.
func TestAllAndBackEndWhateverComesMeanwhile(t *testing.T) {
	for _, n := range []int{1, 2, 5, 9} {
		for sort := range sorts {
			for _, back := range []bool{false, true} {
				x := newTried(t, upTo(n)...)
				all := x.All()
				if back {
					all = x.Back()
				}
				calls := 0
				for i := range all {
					x.call(sort, i, 7)
					calls++
				}
				if calls > n {
					t.Errorf("calls of sort %d: %d turns over %d values", sort, calls, n)
				}
			}
		}
	}
}

func TestListInMemoryOfItsOwn(t *testing.T) {
	for n := 1; n < 10; n++ {
		for turns := range 9 {
			x := turned(t, n, 8, turns)
			a, b := x.List(), x.List()
			for i := range a {
				a[i] = -1
			}
			_ = append(a, -2, -3, -4)
			_ = append(a[:0], -5)
			x.check()
			if !slices.Equal(b, upTo(n)) {
				t.Fatalf("two lists share memory: %v", b)
			}
			x.set(0, -6)
			x.push(-7)
			x.pop()
			x.shift()
			if !slices.Equal(b, upTo(n)) {
				t.Fatalf("a list and the row share memory: %v", b)
			}
		}
	}
	d := deque.Of(1, 2, 3)
	l := d.List()
	other := deque.Of(l...)
	other.Set(0, 9)
	l[1] = 9
	checkRow(t, d, 1, 2, 3)
	checkRow(t, other, 9, 2, 3)
}

// P6.4

func TestPushedAreShiftedInTheirOrder(t *testing.T) {
	for n := range 40 {
		var d, e deque.Deque[int]
		for _, v := range upTo(n) {
			d.Push(v)
			e.Push(v)
		}
		for want := 1; want <= n; want++ {
			if v, ok := d.Shift(); v != want || !ok {
				t.Fatalf("Shift = %d, %t; want %d", v, ok, want)
			}
		}
		for want := n; want > 0; want-- {
			if v, ok := e.Pop(); v != want || !ok {
				t.Fatalf("Pop = %d, %t; want %d", v, ok, want)
			}
		}
		checkRow(t, &d)
		checkRow(t, &e)
	}
}

func TestUnshiftedArePoppedInTheirOrder(t *testing.T) {
	for n := range 40 {
		var d, e deque.Deque[int]
		for _, v := range upTo(n) {
			d.Unshift(v)
			e.Unshift(v)
		}
		for want := 1; want <= n; want++ {
			if v, ok := d.Pop(); v != want || !ok {
				t.Fatalf("Pop = %d, %t; want %d", v, ok, want)
			}
		}
		for want := n; want > 0; want-- {
			if v, ok := e.Shift(); v != want || !ok {
				t.Fatalf("Shift = %d, %t; want %d", v, ok, want)
			}
		}
		checkRow(t, &d)
		checkRow(t, &e)
	}
}

// What is pushed into a row that is shifted all the while goes round the ring many times.
func TestAQueueGoesRoundTheRing(t *testing.T) {
	for n := range 12 {
		var d deque.Deque[int]
		for i := range 200 {
			d.Push(i)
			if i < n {
				continue
			}
			if v, ok := d.Shift(); v != i-n || !ok {
				t.Fatalf("Shift = %d, %t; want %d", v, ok, i-n)
			}
		}
		var e deque.Deque[int]
		for i := range 200 {
			e.Unshift(i)
			if i < n {
				continue
			}
			if v, ok := e.Pop(); v != i-n || !ok {
				t.Fatalf("Pop = %d, %t; want %d", v, ok, i-n)
			}
		}
	}
}

// P6.5

// Each row of five calls, of all sorts, from rows of no, one and three values on.
func TestAllShortRowsOfCalls(t *testing.T) {
	for _, n := range []int{0, 1, 3} {
		for number := range sorts * sorts * sorts * sorts * sorts {
			x := newTried(t, upTo(n)...)
			for rest := number; rest > 0; rest /= sorts {
				x.call(rest%sorts, number%3, 10+rest)
			}
		}
	}
}

func TestRowsOfMixedCalls(t *testing.T) {
	for seed := range uint64(300) {
		m := newMaker(seed)
		x := newTried(t, upTo(m.IntN(20))...)
		for range 3 {
			for _, puts := range []int{70, 30} {
				for range 40 {
					x.anyCall(m, puts)
				}
			}
		}
	}
}

func TestRowsApart(t *testing.T) {
	m := newMaker(1)
	a := newTried(t, 1, 2, 3)
	b := &tried{t, deque.Of(a.List()...), slices.Clone(a.m)}
	for range 300 {
		a.anyCall(m, 55)
		b.check()
		b.anyCall(m, 55)
		a.check()
	}
}

// Values of other types

func TestValuesOfAnyType(t *testing.T) {
	type pair struct {
		key string
		n   int
	}
	p := deque.Of(pair{"a", 1})
	p.Push(pair{"b", 2})
	p.Unshift(pair{})
	checkRow(t, p, pair{}, pair{"a", 1}, pair{"b", 2})
	if v, e := p.At(3); v != (pair{}) || e != api.ErrRange {
		t.Errorf("At(3) = %v, %v", v, e)
	}
	none := deque.Of(struct{}{}, struct{}{})
	none.Push(struct{}{})
	if v, ok := none.Shift(); v != (struct{}{}) || !ok || none.Len() != 2 {
		t.Errorf("Shift = %v, %t; %d stay", v, ok, none.Len())
	}
	lists := deque.Of([]int{1}, nil)
	lists.Unshift([]int{2, 3})
	if l := lists.List(); len(l) != 3 || !slices.Equal(l[0], []int{2, 3}) || !slices.Equal(l[1], []int{1}) || l[2] != nil {
		t.Errorf("List = %v", l)
	}
	floats := deque.Of(math.NaN(), math.Inf(1))
	if v, ok := floats.Shift(); v == v || !ok {
		t.Errorf("Shift = %v, %t", v, ok)
	}
	calls := deque.Of(func() int { return 7 }, nil)
	if f, e := calls.Remove(0); e != api.OK || f() != 7 {
		t.Errorf("Remove(0): %v", e)
	}
	if f, ok := calls.Pop(); f != nil || !ok {
		t.Error("Pop: nothing, or another function")
	}
	errs := deque.Of[error](nil, api.ErrArg)
	checkRow(t, errs, nil, error(api.ErrArg))
	rows := deque.Of(deque.Of(1), nil)
	if r, e := rows.At(0); e != api.OK || r.Push(2) != api.OK {
		t.Errorf("At(0): %v", e)
	}
	r, _ := rows.Shift()
	checkRow(t, r, 1, 2)
}

// What a row keeps, and how long its calls take

// gone tells whether a value is kept by nobody any more.
func gone[T any](p weak.Pointer[T]) bool {
	for range 100 {
		runtime.GC()
		if p.Value() == nil {
			return true
		}
		time.Sleep(time.Millisecond)
	}
	return false
}

func TestWhatWasTakenOutIsNotKept(t *testing.T) {
	type great struct{ text [1000]byte }
	for name, f := range map[string]func(d *deque.Deque[*great]){
		"Pop":            func(d *deque.Deque[*great]) { d.Pop(); d.Pop() },
		"Shift":          func(d *deque.Deque[*great]) { d.Shift(); d.Shift() },
		"Remove(1)":      func(d *deque.Deque[*great]) { d.Remove(1) },
		"Set(1)":         func(d *deque.Deque[*great]) { d.Set(1, nil) },
		"Trim(0, 1)":     func(d *deque.Deque[*great]) { d.Trim(0, 1) },
		"Trim(2, 3)":     func(d *deque.Deque[*great]) { d.Trim(2, 3) },
		"Insert, Remove": func(d *deque.Deque[*great]) { d.Insert(1, new(great)); d.Remove(2) },
	} {
		v := new(great)
		p := weak.Make(v)
		d := deque.Of(new(great), v, new(great))
		v = nil
		f(d)
		if !gone(p) {
			t.Errorf("%s: the value is kept", name)
		}
		runtime.KeepAlive(d)
	}
}

// A row of this many values, in which each call at an end went through all of them, would take minutes.
func TestAGreatRow(t *testing.T) {
	const n = 1 << 18
	var d deque.Deque[int]
	for i := range n {
		d.Push(i)
		d.Unshift(-i - 1)
	}
	for i := range 2 * n {
		v, e := d.At(i)
		if v != i-n || e != api.OK {
			t.Fatalf("At(%d) = %d, %v", i, v, e)
		}
	}
	for i := range n {
		first, _ := d.Shift()
		last, _ := d.Pop()
		if first != i-n || last != n-1-i {
			t.Fatalf("the ends are %d and %d; want %d and %d", first, last, i-n, n-1-i)
		}
	}
	if d.Len() != 0 {
		t.Errorf("%d are left", d.Len())
	}
}

// All and Back go no further than they are ranged over: left at once, they take no longer for a great row.
func TestAllOfAGreatRowLeftAtOnce(t *testing.T) {
	const n = 1 << 17
	d := deque.Of(make([]int, n)...)
	for range n {
		for i := range d.All() {
			if i != 0 {
				t.Fatalf("All begins at %d", i)
			}
			break
		}
		for i := range d.Back() {
			if i != n-1 {
				t.Fatalf("Back begins at %d", i)
			}
			break
		}
	}
}
