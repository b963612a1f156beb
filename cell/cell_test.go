package cell

import (
	"fmt"
	"math"
	"slices"
	"testing"

	"arraylang/api"
	"arraylang/array"
	"arraylang/shape"
)

func repeat(d, count int) []int { return slices.Repeat([]int{d}, count) }

// counted returns the Int array of the given shape whose elements count from 1; lettered and boxed return arrays of the other kinds with different elements.
func counted(s ...int) api.Array {
	a := api.Array{Kind: api.Int, Shape: s}
	for i := range shape.Size(s) {
		a.Nums = append(a.Nums, i+1)
	}
	return a
}

func lettered(s ...int) api.Array {
	a := counted(s...)
	a.Kind = api.Char
	for i := range a.Nums {
		a.Nums[i] += 'A' - 1
	}
	return a
}

func boxed(s ...int) api.Array {
	a := api.Array{Kind: api.Boxed, Shape: s}
	for i := range shape.Size(s) {
		a.Items = append(a.Items, array.Boxes(counted(i%5), array.Text("item"), counted(2, i%3)))
	}
	return a
}

// long returns an Int vector of zeros.
func long(size int) api.Array {
	return api.Array{Kind: api.Int, Shape: []int{size}, Nums: make([]int, size)}
}

// heavy returns a boxed vector of four items with the given weight, which must be more than 200000.
func heavy(weight int) api.Array {
	return api.Array{Kind: api.Boxed, Shape: []int{4}, Items: []api.Array{long(api.MaxSize), long(api.MaxSize), long(api.MaxSize), long(weight - 4 - 3*api.MaxSize)}}
}

// nest returns a within count boxes.
func nest(a api.Array, count int) api.Array {
	for range count {
		a = api.Array{Kind: api.Boxed, Items: []api.Array{a}}
	}
	return a
}

// within returns an array that is one of its own items, which a valid array never is. It cannot be printed or compared.
func within() api.Array {
	items := []api.Array{array.Scalar(1), {}}
	items[1] = api.Array{Kind: api.Boxed, Shape: []int{2}, Items: items}
	return items[1]
}

// shapes returns valid shapes of few elements.
func shapes() [][]int {
	return [][]int{
		nil, {0}, {1}, {2}, {3}, {5}, {1, 1}, {1, 3}, {3, 1}, {2, 3}, {3, 2}, {0, 3}, {3, 0}, {0, 0}, {2, 1, 3}, {1, 2, 2}, {3, 2, 2}, {2, 0, 2}, {0, 2, 2}, {2, 2, 0},
		{1, 2, 3, 2}, {2, 1, 0, 3}, {1, 2, 1, 2, 1, 2, 1, 2}, repeat(1, api.MaxRank), repeat(0, api.MaxRank),
	}
}

// strangers returns lists that are not valid shapes.
func strangers() [][]int {
	return [][]int{
		{-1}, {0, -1}, {-1, 0}, {-1, -1}, {2, -3}, {math.MinInt}, {math.MaxInt}, {math.MaxInt, 0}, {api.MaxSize + 1}, {0, api.MaxSize + 1}, {256, 0, 257}, {1 << 32, 1 << 32},
		repeat(0, api.MaxRank+1), repeat(1, api.MaxRank+1), repeat(-1, api.MaxRank+1), append(repeat(1, api.MaxRank), 0),
	}
}

// valid returns valid arrays of little weight.
func valid() []api.Array {
	list := []api.Array{
		array.Scalar(-api.MaxNum), array.Vector(api.MaxNum, 0), {Kind: api.Char, Nums: []int{api.MaxRune}}, nest(counted(2), api.MaxNest), array.Box(array.Vector()),
		array.Boxes(array.Scalar(0), nest(array.Boxes(), api.MaxNest-1)),
	}
	for _, s := range shapes() {
		list = append(list, counted(s...), lettered(s...), boxed(s...))
	}
	return list
}

// broken returns arrays that are not valid, one for each reason.
func broken() []api.Array {
	return []api.Array{
		{}, {Shape: []int{0}}, {Kind: 4, Nums: []int{1}}, {Kind: -1, Shape: []int{2}, Items: []api.Array{array.Scalar(1), array.Scalar(2)}},
		{Kind: api.Int, Shape: repeat(1, api.MaxRank+1), Nums: []int{1}}, {Kind: api.Char, Shape: repeat(0, api.MaxRank+1)}, {Kind: api.Int, Shape: []int{-1}}, {Kind: api.Boxed, Shape: []int{0, -2}},
		{Kind: api.Int, Shape: []int{0, api.MaxSize + 1}}, {Kind: api.Char, Shape: []int{1 << 32, 1 << 32}}, long(api.MaxSize + 1),
		{Kind: api.Int}, {Kind: api.Int, Shape: []int{2}, Nums: []int{1}}, {Kind: api.Int, Shape: []int{2}, Nums: []int{1, 2, 3}}, {Kind: api.Boxed}, {Kind: api.Boxed, Shape: []int{0}, Items: []api.Array{array.Scalar(1)}},
		{Kind: api.Int, Nums: []int{1}, Items: []api.Array{array.Scalar(1)}}, {Kind: api.Boxed, Shape: []int{0}, Nums: []int{1}},
		{Kind: api.Int, Shape: []int{2}, Nums: []int{0, api.MaxNum + 1}}, {Kind: api.Char, Nums: []int{0xD800}}, {Kind: api.Char, Shape: []int{1}, Nums: []int{-1}},
		{Kind: api.Boxed, Items: []api.Array{{}}}, {Kind: api.Boxed, Shape: []int{2}, Items: []api.Array{array.Scalar(1), {Kind: api.Int}}},
		nest(array.Scalar(1), api.MaxNest+1), heavy(api.MaxWeight + 1),
	}
}

// light returns valid and invalid arrays of little weight.
func light() []api.Array {
	return slices.DeleteFunc(append(valid(), broken()...), func(a api.Array) bool { return array.Weight(a) > 1000 })
}

// brief returns v as text of a bounded length.
func brief(v any) string {
	text := fmt.Sprintf("%.1000v", v)
	if len(text) > 300 {
		text = text[:300] + "..."
	}
	return text
}

// expectRank is the effective rank by the chapter's words.
func expectRank(k, rank int) int {
	if k < 0 {
		k = rank + k
	}
	return max(0, min(k, rank))
}

// indices returns all indices for s in row-major order.
func indices(s []int) [][]int {
	var list [][]int
	for i := range shape.Size(s) {
		index, _ := shape.Index(s, i)
		list = append(list, index)
	}
	return list
}

// addElement appends an element, given as a scalar, to those of a.
func addElement(a *api.Array, element api.Array) {
	a.Nums, a.Items = append(a.Nums, element.Nums...), append(a.Items, element.Items...)
}

// expectCells is what P403 says, element by element.
func expectCells(a api.Array, k int) ([]int, []api.Array) {
	if array.Right(a) != api.OK {
		return nil, nil
	}
	at := len(a.Shape) - expectRank(k, len(a.Shape))
	frame, rest := a.Shape[:at], a.Shape[at:]
	var cells []api.Array
	for _, first := range indices(frame) {
		cell := api.Array{Kind: a.Kind, Shape: rest}
		for _, last := range indices(rest) {
			offset, _ := shape.Offset(a.Shape, slices.Concat(first, last))
			addElement(&cell, array.At(a, offset))
		}
		cells = append(cells, cell)
	}
	return frame, cells
}

// expectPad is what P404 says, element by element.
func expectPad(a api.Array, to []int) (api.Array, api.Errno) {
	if array.Right(a) != api.OK || !shape.Right(to) {
		return api.Array{}, api.ErrArg
	}
	missing := len(to) - len(a.Shape)
	if missing < 0 {
		return api.Array{}, api.ErrRank
	}
	for axis := len(to) - 1; axis >= missing; axis-- {
		if a.Shape[axis-missing] > to[axis] {
			return api.Array{}, api.ErrLength
		}
	}
	own := slices.Concat(repeat(1, missing), a.Shape)
	result := api.Array{Kind: a.Kind, Shape: to}
	for _, index := range indices(to) {
		element := array.Fill(a)
		if offset, ok := shape.Offset(own, index); ok {
			element = array.At(a, offset)
		}
		addElement(&result, element)
	}
	if array.Right(result) != api.OK {
		return api.Array{}, api.ErrLimit
	}
	return result, api.OK
}

// expectCommon is the common shape of cells by P405's words.
func expectCommon(cells []api.Array) []int {
	rank := 0
	for _, cell := range cells {
		rank = max(rank, len(cell.Shape))
	}
	common := make([]int, rank)
	for _, cell := range cells {
		for axis, d := range slices.Concat(repeat(1, rank-len(cell.Shape)), cell.Shape) {
			common[axis] = max(common[axis], d)
		}
	}
	return common
}

// expectJoin is what P405 says, cell by cell.
func expectJoin(frame []int, cells []api.Array, like api.Array) (api.Array, api.Errno) {
	isBroken := func(a api.Array) bool { return array.Right(a) != api.OK }
	if !shape.Right(frame) || len(cells) != shape.Size(frame) || slices.ContainsFunc(cells, isBroken) || len(cells) == 0 && isBroken(like) {
		return api.Array{}, api.ErrArg
	}
	if len(cells) == 0 {
		result := api.Array{Kind: like.Kind, Shape: slices.Concat(frame, like.Shape)}
		if isBroken(result) {
			return api.Array{}, api.ErrLimit
		}
		return result, api.OK
	}
	if slices.ContainsFunc(cells, func(a api.Array) bool { return a.Kind != cells[0].Kind }) {
		return api.Array{}, api.ErrKind
	}
	common := expectCommon(cells)
	result := api.Array{Kind: cells[0].Kind, Shape: slices.Concat(frame, common)}
	if !shape.Right(result.Shape) {
		return api.Array{}, api.ErrLimit
	}
	for _, cell := range cells {
		padded, e := expectPad(cell, common)
		if e != api.OK {
			return api.Array{}, e
		}
		addElement(&result, padded)
	}
	if isBroken(result) {
		return api.Array{}, api.ErrLimit
	}
	return result, api.OK
}

func checkCells(t *testing.T, a api.Array, k int) {
	t.Helper()
	frame, cells := expectCells(a, k)
	if got := Frame(a, k); !shape.Same(got, frame) {
		t.Errorf("Frame(%s, %d) = %v; want %v", brief(a), k, got, frame)
	}
	if got := Cells(a, k); !slices.EqualFunc(got, cells, array.Same) {
		t.Errorf("Cells(%s, %d) = %s; want %s", brief(a), k, brief(got), brief(cells))
	}
}

func checkPad(t *testing.T, a api.Array, to []int, want api.Array, e api.Errno) {
	t.Helper()
	got, found := Pad(a, to)
	if !array.Same(got, want) || found != e {
		t.Errorf("Pad(%s, %v) = %s, %d; want %s, %d", brief(a), to, brief(got), found, brief(want), e)
	}
	if found == api.OK && array.Right(got) != api.OK {
		t.Errorf("Pad(%s, %v) is not valid", brief(a), to)
	}
}

func checkJoin(t *testing.T, frame []int, cells []api.Array, like, want api.Array, e api.Errno) {
	t.Helper()
	got, found := Join(frame, cells, like)
	if !array.Same(got, want) || found != e {
		t.Errorf("Join(%v, %s, %s) = %s, %d; want %s, %d", frame, brief(cells), brief(like), brief(got), found, brief(want), e)
	}
	if found == api.OK && array.Right(got) != api.OK {
		t.Errorf("Join(%v, %s, %s) is not valid", frame, brief(cells), brief(like))
	}
}

// ranks returns numbers of every effective rank, from both ends, and beyond them.
func ranks() []int {
	list := []int{math.MinInt, math.MinInt + 1, -100, 100, math.MaxInt - 1, math.MaxInt}
	for k := -api.MaxRank - 2; k <= api.MaxRank+2; k++ {
		list = append(list, k)
	}
	return list
}

// copied returns a copy of a in which every list has room behind its end, and an empty list is nil, or not nil if roomy is true.
func copied(a api.Array, roomy bool) api.Array {
	result := api.Array{Kind: a.Kind}
	if roomy {
		result.Shape, result.Nums, result.Items = make([]int, 0, 9), make([]int, 0, len(a.Nums)+9), make([]api.Array, 0, len(a.Items)+9)
	}
	result.Shape, result.Nums = append(result.Shape, a.Shape...), append(result.Nums, a.Nums...)
	for _, item := range a.Items {
		result.Items = append(result.Items, copied(item, roomy))
	}
	return result
}

// results returns the results of all calls for a, b and k as text, and the arrays and lists among them as arrays.
func results(a, b api.Array, k int) (string, []api.Array) {
	padded, e := Pad(a, b.Shape)
	joined, f := Join([]int{2}, []api.Array{a, b}, api.Array{})
	none, g := Join([]int{0, 2}, nil, a)
	framed, h := Join(a.Shape, b.Items, b)
	list := append(Cells(a, k), padded, joined, none, framed, api.Array{Shape: Frame(a, k)})
	return fmt.Sprint(Rank(k, len(a.Shape)), list, e, f, g, h), list
}

func TestP401Pure(t *testing.T) {
	for _, a := range light() {
		for _, b := range light() {
			for _, k := range []int{0, 1} {
				first, second := copied(a, true), copied(b, true)
				text, _ := results(first, second, k)
				if !array.Same(first, a) || !array.Same(second, b) {
					t.Fatalf("the calls for %s, %s and %d change them", brief(a), brief(b), k)
				}
				if again, _ := results(first, second, k); again != text {
					t.Fatalf("the calls for %s, %s and %d return %s, then %s", brief(a), brief(b), k, brief(text), brief(again))
				}
				if bare, _ := results(copied(a, false), copied(b, false), k); bare != text {
					t.Fatalf("the calls for %s, %s and %d return %s for nil lists, and %s for empty ones", brief(a), brief(b), k, brief(bare), brief(text))
				}
			}
		}
	}
}

// TestP401RoomBehindLists finds calls that write behind the end of a list.
func TestP401RoomBehindLists(t *testing.T) {
	frame, none := append(make([]int, 0, 9), 2), append(make([]int, 0, 9), 0)
	cells := append(make([]api.Array, 0, 9), array.Scalar(1), array.Vector(1, 2))
	to := append(make([]int, 0, 9), 3)
	a := copied(counted(2), true)
	if _, e := Join(frame, cells, api.Array{}); e != api.OK {
		t.Error(e)
	}
	if _, e := Pad(a, to); e != api.OK {
		t.Error(e)
	}
	if _, e := Join(none, nil, a); e != api.OK {
		t.Error(e)
	}
	_, _ = Frame(a, 1), Cells(a, 0)
	for _, l := range [][]int{frame[1:9], none[1:9], to[1:9], a.Shape[1:9], a.Nums[2:11]} {
		if slices.ContainsFunc(l, func(n int) bool { return n != 0 }) {
			t.Errorf("a call wrote %v behind the end of a list", l)
		}
	}
	for _, c := range cells[2:9] {
		if !array.Same(c, api.Array{}) {
			t.Errorf("a call wrote %v behind the end of the cells", c)
		}
	}
}

// addresses counts the places in memory that the lists of a reach, also those behind their ends.
func addresses(a api.Array, count map[any]int) {
	for _, l := range [][]int{a.Shape, a.Nums} {
		l = l[:cap(l)]
		for i := range l {
			count[&l[i]]++
		}
	}
	items := a.Items[:cap(a.Items)]
	for i := range items {
		count[&items[i]]++
		addresses(items[i], count)
	}
}

func TestP401NoSharedMemory(t *testing.T) {
	for _, a := range light() {
		for _, b := range light() {
			for _, k := range []int{0, 1} {
				first, second := copied(a, true), copied(b, true)
				_, found := results(first, second, k)
				_, again := results(first, second, k)
				count := map[any]int{}
				for _, each := range slices.Concat(found, again, []api.Array{first, second}) {
					addresses(each, count)
				}
				for _, n := range count {
					if n != 1 {
						t.Fatalf("the calls for %s, %s and %d share memory", brief(a), brief(b), k)
					}
				}
			}
		}
	}
}

func TestP401NoSharedMemoryWithLists(t *testing.T) {
	frame, cells := []int{2}, []api.Array{array.Boxes(), array.Boxes(array.Text("a"))}
	joined, _ := Join(frame, cells, api.Array{})
	padded, _ := Pad(cells[1], frame)
	frame[0] = 9
	cells[0], cells[1].Items[0].Nums[0] = api.Array{}, 'b'
	empty := array.Vector()
	want := api.Array{Kind: api.Boxed, Shape: []int{2, 1}, Items: []api.Array{empty, array.Text("a")}}
	if !array.Same(joined, want) {
		t.Errorf("the joined cells changed to %v", joined)
	}
	if !array.Same(padded, array.Boxes(array.Text("a"), empty)) {
		t.Errorf("the padded array changed to %v", padded)
	}
}

func TestP401BrokenArrays(t *testing.T) {
	for _, a := range append(broken(), within()) {
		for _, k := range ranks() {
			if frame, cells := Frame(a, k), Cells(a, k); len(frame) != 0 || len(cells) != 0 {
				t.Errorf("the frame and the cells of an invalid array of kind %d are %v and %d cells", a.Kind, frame, len(cells))
			}
		}
	}
}

func TestP402Rank(t *testing.T) {
	for _, c := range []struct{ k, rank, want int }{
		{0, 2, 0}, {1, 2, 1}, {2, 2, 2}, {3, 2, 2}, {-1, 2, 1}, {-2, 2, 0}, {-3, 2, 0}, {0, 0, 0}, {1, 0, 0}, {-1, 0, 0}, {5, 8, 5}, {-5, 8, 3},
		{math.MaxInt, 8, 8}, {math.MinInt, 8, 0}, {math.MinInt, 0, 0}, {math.MaxInt, 0, 0}, {0, -1, 0}, {1, -1, 0}, {-1, -1, 0}, {5, -3, 0}, {-5, -3, 0},
		{1, math.MinInt, 0}, {-1, math.MinInt, 0}, {math.MinInt, math.MinInt, 0}, {math.MaxInt, math.MinInt, 0}, {100, 1000, 100}, {-100, 1000, 900},
		{math.MaxInt, math.MaxInt, math.MaxInt}, {-1, math.MaxInt, math.MaxInt - 1}, {math.MinInt, math.MaxInt, 0}, {-math.MaxInt, math.MaxInt, 0}, {1 - math.MaxInt, math.MaxInt, 1},
	} {
		if n := Rank(c.k, c.rank); n != c.want {
			t.Errorf("Rank(%d, %d) = %d; want %d", c.k, c.rank, n, c.want)
		}
	}
	for rank := range 12 {
		for k := -30; k <= 30; k++ {
			if n := Rank(k, rank); n != expectRank(k, rank) {
				t.Errorf("Rank(%d, %d) = %d; want %d", k, rank, n, expectRank(k, rank))
			}
			if n := Rank(k, -rank); n != 0 {
				t.Errorf("Rank(%d, %d) = %d; want 0", k, -rank, n)
			}
		}
	}
}

func TestP403EveryRank(t *testing.T) {
	for _, a := range append(valid(), broken()...) {
		for _, k := range ranks() {
			checkCells(t, a, k)
		}
	}
}

func TestP403Ends(t *testing.T) {
	matrix := counted(2, 3)
	rows := []api.Array{array.Vector(1, 2, 3), array.Vector(4, 5, 6)}
	for _, c := range []struct {
		a     api.Array
		k     int
		frame []int
		cells []api.Array
	}{
		{matrix, 1, []int{2}, rows}, {matrix, -1, []int{2}, rows}, {matrix, 2, nil, []api.Array{matrix}}, {matrix, 3, nil, []api.Array{matrix}},
		{array.Vector(7, 8), 0, []int{2}, []api.Array{array.Scalar(7), array.Scalar(8)}}, {array.Vector(7, 8), -9, []int{2}, []api.Array{array.Scalar(7), array.Scalar(8)}},
		{array.Scalar(5), 0, nil, []api.Array{array.Scalar(5)}}, {array.Scalar(5), 1, nil, []api.Array{array.Scalar(5)}}, {array.Scalar(5), -1, nil, []api.Array{array.Scalar(5)}},
		{array.Boxes(array.Text("a"), array.Scalar(1)), 0, []int{2}, []api.Array{array.Box(array.Text("a")), array.Box(array.Scalar(1))}},
		{array.Vector(), 0, []int{0}, nil}, {array.Vector(), 1, nil, []api.Array{array.Vector()}}, {counted(3, 0), 0, []int{3, 0}, nil}, {counted(0, 3), 1, []int{0}, nil},
		{lettered(2, 0), 1, []int{2}, []api.Array{lettered(0), lettered(0)}}, {boxed(2, 0, 3), 2, []int{2}, []api.Array{boxed(0, 3), boxed(0, 3)}}, {boxed(2, 0, 3), 1, []int{2, 0}, nil},
	} {
		if got := Frame(c.a, c.k); !shape.Same(got, c.frame) {
			t.Errorf("Frame(%v, %d) = %v; want %v", c.a, c.k, got, c.frame)
		}
		if got := Cells(c.a, c.k); !slices.EqualFunc(got, c.cells, array.Same) {
			t.Errorf("Cells(%v, %d) = %v; want %v", c.a, c.k, got, c.cells)
		}
	}
}

func TestP403GreatArrays(t *testing.T) {
	for _, a := range []api.Array{counted(api.MaxSize), counted(256, 256), counted(api.MaxSize, 0), counted(256, 0, 256), counted(repeat(4, api.MaxRank)...), heavy(api.MaxWeight)} {
		for _, k := range []int{0, 1, 2, -1, -2} {
			checkCells(t, a, k)
		}
	}
}

func TestP404AllPairs(t *testing.T) {
	for _, a := range append(valid(), broken()...) {
		for _, to := range append(shapes(), strangers()...) {
			want, e := expectPad(a, to)
			checkPad(t, a, to, want, e)
		}
	}
}

func TestP404Errors(t *testing.T) {
	one, matrix := array.Scalar(1), counted(2, 3)
	for _, to := range strangers() {
		checkPad(t, one, to, api.Array{}, api.ErrArg)
	}
	checkPad(t, api.Array{}, nil, api.Array{}, api.ErrArg)
	checkPad(t, api.Array{}, []int{-1}, api.Array{}, api.ErrArg)
	checkPad(t, matrix, []int{-1}, api.Array{}, api.ErrArg)
	checkPad(t, matrix, []int{3}, api.Array{}, api.ErrRank)
	checkPad(t, matrix, []int{1}, api.Array{}, api.ErrRank)
	checkPad(t, matrix, nil, api.Array{}, api.ErrRank)
	checkPad(t, matrix, []int{2, 2}, api.Array{}, api.ErrLength)
	checkPad(t, matrix, []int{1, 3}, api.Array{}, api.ErrLength)
	checkPad(t, matrix, []int{9, 1, 3}, api.Array{}, api.ErrLength)
	checkPad(t, matrix, []int{0, 3}, api.Array{}, api.ErrLength)
	checkPad(t, array.Vector(1), []int{0}, api.Array{}, api.ErrLength)
	checkPad(t, heavy(api.MaxWeight), []int{0, 3}, api.Array{}, api.ErrLength)
	if a, e := Pad(within(), nil); e != api.ErrArg || !array.Same(a, api.Array{}) {
		t.Errorf("Pad of an array within itself returns the error %d", e)
	}
}

func TestP404Ends(t *testing.T) {
	empty := array.Vector()
	checkPad(t, array.Scalar(5), nil, array.Scalar(5), api.OK)
	checkPad(t, array.Scalar(5), []int{3}, array.Vector(5, 0, 0), api.OK)
	checkPad(t, array.Scalar(5), []int{0}, empty, api.OK)
	checkPad(t, array.Text("ab"), []int{4}, array.Text("ab  "), api.OK)
	checkPad(t, array.Text("ab"), []int{0, 2}, lettered(0, 2), api.OK)
	checkPad(t, array.Text("ab"), []int{0, 3}, lettered(0, 3), api.OK)
	checkPad(t, counted(2, 3), []int{0, 2, 3}, counted(0, 2, 3), api.OK)
	checkPad(t, empty, []int{2}, array.Vector(0, 0), api.OK)
	checkPad(t, counted(0, 3), []int{2, 3}, api.Array{Kind: api.Int, Shape: []int{2, 3}, Nums: repeat(0, 6)}, api.OK)
	checkPad(t, array.Boxes(), []int{2}, array.Boxes(empty, empty), api.OK)
	checkPad(t, array.Boxes(array.Text("a")), []int{2, 1}, api.Array{Kind: api.Boxed, Shape: []int{2, 1}, Items: []api.Array{array.Text("a"), empty}}, api.OK)
	checkPad(t, counted(2, 2), []int{3, 3}, api.Array{Kind: api.Int, Shape: []int{3, 3}, Nums: []int{1, 2, 0, 3, 4, 0, 0, 0, 0}}, api.OK)
	checkPad(t, counted(2, 2), []int{2, 2, 3}, api.Array{Kind: api.Int, Shape: []int{2, 2, 3}, Nums: []int{1, 2, 0, 3, 4, 0, 0, 0, 0, 0, 0, 0}}, api.OK)
}

func TestP404Limits(t *testing.T) {
	want, e := expectPad(counted(200, 200), []int{256, 256})
	checkPad(t, counted(200, 200), []int{256, 256}, want, e)
	want, e = expectPad(nest(array.Scalar(1), api.MaxNest), repeat(2, api.MaxRank))
	checkPad(t, nest(array.Scalar(1), api.MaxNest), repeat(2, api.MaxRank), want, e)
	more := heavy(api.MaxWeight - 1)
	more.Shape, more.Items = []int{5}, append(more.Items, array.Vector())
	checkPad(t, heavy(api.MaxWeight-1), []int{5}, more, api.OK)
	checkPad(t, heavy(api.MaxWeight), []int{5}, api.Array{}, api.ErrLimit)
	checkPad(t, heavy(api.MaxWeight), []int{2, 4}, api.Array{}, api.ErrLimit)
	checkPad(t, heavy(api.MaxWeight), []int{api.MaxSize}, api.Array{}, api.ErrLimit)
	checkPad(t, heavy(api.MaxWeight), []int{0, 5}, boxed(0, 5), api.OK)
}

func TestP405TwoCells(t *testing.T) {
	list := append(valid(), broken()...)
	for _, a := range list {
		for _, b := range list {
			cells := []api.Array{a, b}
			want, e := expectJoin([]int{2}, cells, api.Array{})
			checkJoin(t, []int{2}, cells, api.Array{}, want, e)
			checkJoin(t, []int{2}, cells, a, want, e)
		}
	}
}

func TestP405EveryFrame(t *testing.T) {
	list := []api.Array{counted(), counted(2), counted(1, 2), counted(0, 3), lettered(2), boxed(2), {Kind: api.Int}}
	for _, frame := range append(shapes(), strangers()...) {
		size := max(shape.Size(frame), 0)
		for start := range list {
			for count := max(size-1, 0); count <= size+1; count++ {
				for _, step := range []int{0, 1} {
					var cells []api.Array
					for i := range count {
						cells = append(cells, list[(start+i*step)%4])
					}
					for _, last := range list {
						if count > 0 {
							cells[count-1] = last
						}
						want, e := expectJoin(frame, cells, list[start])
						checkJoin(t, frame, cells, list[start], want, e)
					}
				}
			}
		}
	}
}

func TestP405ThreeCells(t *testing.T) {
	for _, s := range shapes() {
		for _, u := range shapes() {
			for _, v := range [][]int{nil, {4}, {0, 1}, {2, 2}, {1, 1, 1, 1}} {
				cells := []api.Array{boxed(s...), boxed(u...), boxed(v...)}
				want, e := expectJoin([]int{3, 1}, cells, api.Array{})
				checkJoin(t, []int{3, 1}, cells, api.Array{}, want, e)
			}
		}
	}
}

func TestP405Errors(t *testing.T) {
	one, letter := array.Scalar(1), lettered()
	for _, frame := range strangers() {
		for count := range 3 {
			checkJoin(t, frame, slices.Repeat([]api.Array{one}, count), one, api.Array{}, api.ErrArg)
		}
	}
	checkJoin(t, nil, nil, one, api.Array{}, api.ErrArg)
	checkJoin(t, nil, []api.Array{one, one}, one, api.Array{}, api.ErrArg)
	checkJoin(t, []int{0}, []api.Array{one}, one, api.Array{}, api.ErrArg)
	checkJoin(t, []int{3}, []api.Array{one, letter}, one, api.Array{}, api.ErrArg)
	checkJoin(t, []int{2, 2}, []api.Array{one, one}, one, api.Array{}, api.ErrArg)
	checkJoin(t, []int{3}, []api.Array{one, letter, {Kind: api.Int}}, one, api.Array{}, api.ErrArg)
	checkJoin(t, []int{3}, []api.Array{{Kind: api.Int}, letter, one}, one, api.Array{}, api.ErrArg)
	checkJoin(t, []int{2}, []api.Array{one, letter}, one, api.Array{}, api.ErrKind)
	checkJoin(t, []int{3}, []api.Array{letter, letter, one}, one, api.Array{}, api.ErrKind)
	checkJoin(t, []int{2}, []api.Array{one, array.Box(one)}, one, api.Array{}, api.ErrKind)
	checkJoin(t, []int{2}, []api.Array{array.Vector(), array.Text("")}, one, api.Array{}, api.ErrKind)
	checkJoin(t, []int{2}, []api.Array{counted(api.MaxSize), letter}, one, api.Array{}, api.ErrKind)
	checkJoin(t, []int{2}, []api.Array{counted(repeat(1, api.MaxRank)...), letter}, one, api.Array{}, api.ErrKind)
	if a, e := Join(nil, []api.Array{within()}, one); e != api.ErrArg || !array.Same(a, api.Array{}) {
		t.Errorf("Join of an array within itself returns the error %d", e)
	}
	if a, e := Join([]int{0}, nil, within()); e != api.ErrArg || !array.Same(a, api.Array{}) {
		t.Errorf("Join of no cells like an array within itself returns the error %d", e)
	}
}

func TestP405NoCells(t *testing.T) {
	frames := [][]int{{0}, {0, 2}, {3, 0}, {0, 0, 5}, {0, 256}, {0, api.MaxSize}, {api.MaxSize, 0}, repeat(0, api.MaxRank), repeat(0, api.MaxRank-1)}
	for _, frame := range frames {
		for _, like := range append(append(valid(), broken()...), counted(256), counted(257), counted(256, 0), counted(257, 0), long(api.MaxSize), heavy(api.MaxWeight)) {
			want, e := expectJoin(frame, nil, like)
			checkJoin(t, frame, nil, like, want, e)
			checkJoin(t, frame, []api.Array{}, like, want, e)
		}
	}
	checkJoin(t, []int{0}, nil, counted(2, 3), counted(0, 2, 3), api.OK)
	checkJoin(t, []int{2, 0}, nil, array.Text("abc"), lettered(2, 0, 3), api.OK)
	checkJoin(t, []int{0, 256}, nil, counted(256), counted(0, 256, 256), api.OK)
	checkJoin(t, []int{0, 256}, nil, counted(257), api.Array{}, api.ErrLimit)
	checkJoin(t, []int{0}, nil, counted(repeat(1, api.MaxRank)...), api.Array{}, api.ErrLimit)
}

func TestP405Common(t *testing.T) {
	empty := array.Vector()
	checkJoin(t, []int{2}, []api.Array{array.Scalar(7), empty}, empty, api.Array{Kind: api.Int, Shape: []int{2, 1}, Nums: []int{7, 0}}, api.OK)
	checkJoin(t, []int{2}, []api.Array{empty, empty}, empty, counted(2, 0), api.OK)
	checkJoin(t, []int{1}, []api.Array{array.Scalar(7)}, empty, array.Vector(7), api.OK)
	checkJoin(t, nil, []api.Array{array.Text("ab")}, empty, array.Text("ab"), api.OK)
	checkJoin(t, nil, []api.Array{counted(2, 0)}, empty, counted(2, 0), api.OK)
	checkJoin(t, []int{2}, []api.Array{counted(0, 3), counted(2)}, empty, api.Array{Kind: api.Int, Shape: []int{2, 1, 3}, Nums: []int{0, 0, 0, 1, 2, 0}}, api.OK)
	checkJoin(t, []int{2}, []api.Array{array.Text("a"), array.Text("bcd")}, empty, api.Array{Kind: api.Char, Shape: []int{2, 3}, Nums: []int{'a', ' ', ' ', 'b', 'c', 'd'}}, api.OK)
	checkJoin(t, []int{2}, []api.Array{counted(2, 1), counted(1, 2)}, empty, api.Array{Kind: api.Int, Shape: []int{2, 2, 2}, Nums: []int{1, 0, 2, 0, 1, 2, 0, 0}}, api.OK)
	checkJoin(t, []int{2}, []api.Array{array.Box(empty), array.Boxes(array.Text("a"), empty)}, empty, api.Array{Kind: api.Boxed, Shape: []int{2, 2}, Items: []api.Array{empty, empty, array.Text("a"), empty}}, api.OK)
}

func TestP405LikeIsIgnored(t *testing.T) {
	cells := []api.Array{array.Scalar(1), array.Vector(2, 3)}
	want := api.Array{Kind: api.Int, Shape: []int{2, 2}, Nums: []int{1, 0, 2, 3}}
	for _, like := range append(valid(), broken()...) {
		checkJoin(t, []int{2}, cells, like, want, api.OK)
	}
	if got, e := Join([]int{2}, cells, within()); e != api.OK || !array.Same(got, want) {
		t.Errorf("Join with a like within itself returns %v, %d", got, e)
	}
}

func TestP405Limits(t *testing.T) {
	two := []int{2}
	for _, c := range []struct {
		frame []int
		cells []api.Array
		e     api.Errno
	}{
		{two, []api.Array{counted(32768), counted(0)}, api.OK}, {two, []api.Array{counted(0), counted(32769)}, api.ErrLimit}, {nil, []api.Array{counted(api.MaxSize)}, api.OK},
		{two, []api.Array{counted(256, 1), counted(1, 128)}, api.OK}, {two, []api.Array{counted(256, 1), counted(1, 129)}, api.ErrLimit}, {two, []api.Array{counted(api.MaxSize, 1), counted(1, api.MaxSize)}, api.ErrLimit},
		{[]int{1}, []api.Array{counted(256, 0, 256)}, api.OK}, {two, []api.Array{counted(256, 0, 128), counted(256, 0, 128)}, api.OK}, {two, []api.Array{counted(256, 0, 256), counted(1)}, api.ErrLimit},
		{[]int{1, 1, 1, 1}, []api.Array{counted(2, 2, 2, 2)}, api.OK}, {[]int{1, 1, 1, 1}, []api.Array{counted(2, 2, 2, 2, 1)}, api.ErrLimit}, {repeat(1, api.MaxRank), []api.Array{counted()}, api.OK},
		{repeat(1, api.MaxRank), []api.Array{counted(1)}, api.ErrLimit}, {[]int{1}, []api.Array{counted(repeat(1, api.MaxRank)...)}, api.ErrLimit}, {two, []api.Array{counted(repeat(0, api.MaxRank)...), counted()}, api.ErrLimit},
		{nil, []api.Array{heavy(api.MaxWeight)}, api.OK}, {two, []api.Array{heavy(api.MaxWeight - 4), boxed(0)}, api.OK}, {two, []api.Array{heavy(api.MaxWeight - 3), boxed(0)}, api.ErrLimit},
		{two, []api.Array{heavy(api.MaxWeight), heavy(api.MaxWeight)}, api.ErrLimit}, {two, []api.Array{array.Boxes(), nest(counted(2), api.MaxNest)}, api.OK},
	} {
		want, e := expectJoin(c.frame, c.cells, api.Array{})
		if e != c.e {
			t.Errorf("the error for the frame %v is expected to be %d, not %d", c.frame, c.e, e)
		}
		checkJoin(t, c.frame, c.cells, api.Array{}, want, e)
	}
}

func TestP405ManyCells(t *testing.T) {
	cells := slices.Repeat([]api.Array{array.Scalar(1)}, api.MaxSize)
	checkJoin(t, []int{256, 256}, cells, api.Array{}, api.Array{Kind: api.Int, Shape: []int{256, 256}, Nums: repeat(1, api.MaxSize)}, api.OK)
	cells[api.MaxSize-1] = array.Vector()
	want := api.Array{Kind: api.Int, Shape: []int{api.MaxSize, 1}, Nums: append(repeat(1, api.MaxSize-1), 0)}
	checkJoin(t, []int{api.MaxSize}, cells, api.Array{}, want, api.OK)
	cells[0] = array.Vector(1, 2)
	checkJoin(t, []int{api.MaxSize}, cells, api.Array{}, api.Array{}, api.ErrLimit)
	// The items of all these cells together weigh more than a valid array.
	cells = slices.Repeat([]api.Array{array.Box(counted(4))}, api.MaxSize)
	checkJoin(t, []int{api.MaxSize}, cells, api.Array{}, api.Array{}, api.ErrLimit)
}

func TestP406JoinOfCells(t *testing.T) {
	for _, a := range append(valid(), counted(256, 256), counted(api.MaxSize, 0), heavy(api.MaxWeight)) {
		for _, k := range ranks() {
			frame := Frame(a, k)
			if slices.Contains(frame, 0) {
				continue
			}
			for _, like := range []api.Array{{}, array.Scalar(1), a} {
				checkJoin(t, frame, Cells(a, k), like, a, api.OK)
			}
		}
	}
}

func TestP406PadToItsShape(t *testing.T) {
	for _, a := range append(valid(), counted(256, 256), counted(api.MaxSize, 0), heavy(api.MaxWeight)) {
		checkPad(t, a, a.Shape, a, api.OK)
	}
}

func TestExamples(t *testing.T) {
	matrix := counted(2, 3)
	if frame := Frame(matrix, 1); !shape.Same(frame, []int{2}) {
		t.Errorf("Frame = %v", frame)
	}
	if cells := Cells(matrix, 1); !slices.EqualFunc(cells, []api.Array{array.Vector(1, 2, 3), array.Vector(4, 5, 6)}, array.Same) {
		t.Errorf("Cells = %v", cells)
	}
	if n := Rank(-1, 2); n != 1 {
		t.Errorf("Rank = %d", n)
	}
	checkJoin(t, []int{2}, []api.Array{array.Vector(1, 2, 3), array.Scalar(4)}, api.Array{}, api.Array{Kind: api.Int, Shape: []int{2, 3}, Nums: []int{1, 2, 3, 4, 0, 0}}, api.OK)
	checkPad(t, array.Vector(7, 8), []int{2, 3}, api.Array{Kind: api.Int, Shape: []int{2, 3}, Nums: []int{7, 8, 0, 0, 0, 0}}, api.OK)
}
