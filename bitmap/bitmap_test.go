package bitmap_test

import (
	"math"
	"math/rand"
	"slices"
	"testing"

	"shelfmark/api"
	"shelfmark/bitmap"
)

// The chapter's words, told anew.

// has: a run has the places from At to At and N less 1.
func has(r api.Run, place int) bool { return r.N >= 1 && r.At <= place && place <= r.At+r.N-1 }

// isUsed: a place is in a run of used.
func isUsed(used []api.Run, place int) bool {
	return slices.ContainsFunc(used, func(r api.Run) bool { return has(r, place) })
}

// free is Free, as 15.1 says it: each place is asked, and stands with the one ahead of
// it, if that is free.
func free(used []api.Run, from, to int) []api.Run {
	var l []api.Run
	for place := from; place <= to-1; place++ {
		switch {
		case isUsed(used, place):
		case place > from && !isUsed(used, place-1):
			l[len(l)-1].N++
		default:
			l = append(l, api.Run{At: place, N: 1})
		}
	}
	return l
}

// take is Take, as 15.1 says it: place by place.
func take(l []api.Run, n int) ([]api.Run, bool) {
	var taken []api.Run
	for _, r := range l {
		for place := r.At; place <= r.At+r.N-1 && n >= 1; place++ {
			if place == r.At {
				taken = append(taken, api.Run{At: place})
			}
			taken[len(taken)-1].N++
			n--
		}
	}
	if n >= 1 {
		return nil, false
	}
	return taken, true
}

// sectors is Sectors, as 15.1 says it.
func sectors(l []api.Run) []int {
	var places []int
	for _, r := range l {
		for place := r.At; place <= r.At+r.N-1; place++ {
			places = append(places, place)
		}
	}
	return places
}

// count is Count, as 15.1 says it.
func count(l []api.Run) int {
	n := 0
	for _, r := range l {
		if r.N > 0 {
			n += r.N
		}
	}
	return n
}

// What is held against the words. None of these changes what is handed in (R3).

func wantFree(t *testing.T, used []api.Run, from, to int, want []api.Run) {
	t.Helper()
	was := slices.Clone(used)
	if got := bitmap.Free(used, from, to); !slices.Equal(got, want) {
		t.Errorf("15.1: Free(%v, %d, %d): %v, want %v", was, from, to, got, want)
	}
	if !slices.Equal(used, was) {
		t.Errorf("R3: Free(%v, %d, %d) changes what is handed in to %v", was, from, to, used)
	}
}

func wantTake(t *testing.T, l []api.Run, n int, want []api.Run, ok bool) {
	t.Helper()
	was := slices.Clone(l)
	if got, found := bitmap.Take(l, n); !slices.Equal(got, want) || found != ok {
		t.Errorf("15.1: Take(%v, %d): %v, %v, want %v, %v", was, n, got, found, want, ok)
	}
	if !slices.Equal(l, was) {
		t.Errorf("R3: Take(%v, %d) changes what is handed in to %v", was, n, l)
	}
}

func wantPlaces(t *testing.T, l []api.Run, want []int) {
	t.Helper()
	was := slices.Clone(l)
	if got := bitmap.Count(l); got != len(want) {
		t.Errorf("15.1: Count(%v): %d, want %d", was, got, len(want))
	}
	if got := bitmap.Sectors(l); !slices.Equal(got, want) {
		t.Errorf("15.1: Sectors(%v): %v, want %v", was, got, want)
	}
	if !slices.Equal(l, was) {
		t.Errorf("R3: Count or Sectors of %v change what is handed in to %v", was, l)
	}
}

// runs are those of places and numbers, one behind the other.
func runs(numbers ...int) []api.Run {
	var l []api.Run
	for k := 0; k < len(numbers); k += 2 {
		l = append(l, api.Run{At: numbers[k], N: numbers[k+1]})
	}
	return l
}

// 15.1: Free, written out.
func TestFree(t *testing.T) {
	for _, c := range []struct {
		used     []api.Run
		from, to int
		want     []api.Run
	}{
		{nil, 10, 12, runs(10, 2)}, // the chapter's example
		{[]api.Run{}, 10, 12, runs(10, 2)},
		{nil, 10, 11, runs(10, 1)},
		{nil, 10, 10, nil},
		{nil, 10, 9, nil},
		{nil, -10, -12, nil},
		{runs(4, 2), 10, 10, nil},
		{runs(9, 2), 11, 8, nil},
		{runs(12, 2), 11, 8, nil},
		{runs(3, 2), 11, 8, nil},
		{runs(3, 2), 0, 10, runs(0, 3, 5, 5)},
		{runs(0, 2), 0, 10, runs(2, 8)},
		{runs(8, 2), 0, 10, runs(0, 8)},
		{runs(0, 10), 0, 10, nil},
		{runs(1, 8), 0, 10, runs(0, 1, 9, 1)},
		{runs(1, 2, 4, 2, 7, 2), 0, 10, runs(0, 1, 3, 1, 6, 1, 9, 1)},
		{runs(7, 2, 1, 2, 4, 2), 0, 10, runs(0, 1, 3, 1, 6, 1, 9, 1)}, // they do not rise
		{runs(-5, 3), 0, 10, runs(0, 10)},                             // ahead of from
		{runs(-3, 3), 0, 10, runs(0, 10)},
		{runs(-3, 4), 0, 10, runs(1, 9)}, // across from
		{runs(20, 3), 0, 10, runs(0, 10)},
		{runs(10, 3), 0, 10, runs(0, 10)}, // behind to
		{runs(9, 3), 0, 10, runs(0, 9)},   // across to
		{runs(-9, 30), 0, 10, nil},        // across both
		{runs(-9, 11, 8, 30), 0, 10, runs(2, 6)},
		{runs(2, 2, 4, 2), 0, 10, runs(0, 2, 6, 4)}, // they touch
		{runs(4, 2, 2, 2), 0, 10, runs(0, 2, 6, 4)},
		{runs(2, 4, 4, 4), 0, 10, runs(0, 2, 8, 2)}, // they overlap
		{runs(4, 4, 2, 4), 0, 10, runs(0, 2, 8, 2)},
		{runs(2, 6, 3, 2), 0, 10, runs(0, 2, 8, 2)}, // one within another
		{runs(3, 2, 2, 6), 0, 10, runs(0, 2, 8, 2)},
		{runs(2, 6, 3, 1, 5, 1), 0, 10, runs(0, 2, 8, 2)},
		{runs(2, 1, 2, 6, 2, 3), 0, 10, runs(0, 2, 8, 2)}, // they begin together
		{runs(3, 5, 5, 3, 7, 1), 0, 10, runs(0, 3, 8, 2)}, // they end together
		{runs(3, 2, 3, 2, 3, 2), 0, 10, runs(0, 3, 5, 5)}, // they come twice
		{runs(4, 0), 0, 10, runs(0, 10)},                  // N below 1
		{runs(4, -1), 0, 10, runs(0, 10)},
		{runs(4, -9, 5, 0, 0, 0, 9, -1, 10, 0), 0, 10, runs(0, 10)},
		{runs(4, -9, 2, 1, 8, 0, 5, 1, 5, -1), 0, 10, runs(0, 2, 3, 2, 6, 4)},
		{runs(30, -25, 30, 0), 0, 10, runs(0, 10)},
		{nil, -5, 5, runs(-5, 10)}, // below nought
		{runs(-3, 2), -5, 5, runs(-5, 2, -1, 6)},
		{runs(-1, 2), -5, 5, runs(-5, 4, 1, 4)},
		{runs(-30, 2, -20, 30), -12, -5, nil},
		{runs(-10, 2), -12, -5, runs(-12, 2, -8, 3)},
	} {
		wantFree(t, c.used, c.from, c.to, c.want)
	}
}

// 15.1: Take, written out.
func TestTake(t *testing.T) {
	for _, c := range []struct {
		l    []api.Run
		n    int
		want []api.Run
		ok   bool
	}{
		{nil, 0, nil, true},
		{nil, -1, nil, true},
		{nil, math.MinInt, nil, true},
		{nil, 1, nil, false},
		{[]api.Run{}, 1, nil, false},
		{nil, math.MaxInt, nil, false},
		{runs(5, 3), 0, nil, true},
		{runs(5, 3), -7, nil, true},
		{runs(5, 3), math.MinInt, nil, true},
		{runs(5, 3), 1, runs(5, 1), true},
		{runs(5, 3), 2, runs(5, 2), true},
		{runs(5, 3), 3, runs(5, 3), true},
		{runs(5, 3), 4, nil, false},
		{runs(5, 3), math.MaxInt, nil, false},
		{runs(1, 4, 9, 2), 3, runs(1, 3), true},
		{runs(1, 4, 9, 2), 4, runs(1, 4), true},
		{runs(1, 4, 9, 2), 5, runs(1, 4, 9, 1), true},
		{runs(1, 4, 9, 2), 6, runs(1, 4, 9, 2), true},
		{runs(1, 4, 9, 2), 7, nil, false},
		{runs(9, 2, 1, 4), 2, runs(9, 2), true}, // they do not rise
		{runs(9, 2, 1, 4), 5, runs(9, 2, 1, 3), true},
		{runs(9, 2, 1, 4), 6, runs(9, 2, 1, 4), true},
		{runs(9, 2, 1, 4, 6, 1), 7, runs(9, 2, 1, 4, 6, 1), true},
		{runs(9, 2, 1, 4, 6, 1), 8, nil, false},
		{runs(1, 2, 3, 2), 4, runs(1, 2, 3, 2), true}, // they touch: each is a part of one
		{runs(1, 2, 3, 2), 3, runs(1, 2, 3, 1), true},
		{runs(3, 2, 1, 2), 3, runs(3, 2, 1, 1), true},
		{runs(1, 4, 3, 4), 6, runs(1, 4, 3, 2), true}, // they overlap: each counts by itself
		{runs(1, 9, 3, 2), 10, runs(1, 9, 3, 1), true},
		{runs(3, 2, 1, 9), 5, runs(3, 2, 1, 3), true},
		{runs(1, 2, 1, 2), 4, runs(1, 2, 1, 2), true}, // they come twice
		{runs(1, 2, 1, 2), 5, nil, false},
		{runs(9, 0, 1, 4, 3, -2), 2, runs(1, 2), true}, // N below 1
		{runs(9, 0, 1, 4, 3, -2), 4, runs(1, 4), true},
		{runs(9, 0, 1, 4, 3, -2), 5, nil, false},
		{runs(9, -9, 1, 4), 4, runs(1, 4), true},
		{runs(1, 4, 9, -9, 7, 0, 6, 1), 5, runs(1, 4, 6, 1), true},
		{runs(4, 0, 4, -1), 1, nil, false},
		{runs(4, 0, 4, -1), 0, nil, true},
		{runs(-3, 2, -9, 5), 4, runs(-3, 2, -9, 2), true}, // below nought
		{runs(-1, 3), 2, runs(-1, 2), true},
		{runs(-1, 3), 4, nil, false},
	} {
		wantTake(t, c.l, c.n, c.want, c.ok)
	}
}

// 15.1: Count and Sectors, written out.
func TestPlaces(t *testing.T) {
	for _, c := range []struct {
		l    []api.Run
		want []int
	}{
		{nil, nil},
		{[]api.Run{}, nil},
		{runs(5, 1), []int{5}},
		{runs(5, 3), []int{5, 6, 7}},
		{runs(0, 2), []int{0, 1}},
		{runs(0, 0), nil},
		{runs(5, 0), nil},
		{runs(5, -3), nil},
		{runs(5, 3, 9, 1), []int{5, 6, 7, 9}},
		{runs(9, 1, 5, 3), []int{9, 5, 6, 7}},
		{runs(5, 2, 7, 2), []int{5, 6, 7, 8}},
		{runs(5, 3, 6, 3), []int{5, 6, 7, 6, 7, 8}},
		{runs(5, 4, 6, 1), []int{5, 6, 7, 8, 6}},
		{runs(5, 2, 5, 2), []int{5, 6, 5, 6}},
		{runs(5, 3, 0, -9, 1, 0, 2, 2, -1, 1), []int{5, 6, 7, 2, 3, -1}},
		{runs(0, -1, 5, 1), []int{5}},
		{runs(5, 1, 0, -1), []int{5}},
		{runs(-3, 5), []int{-3, -2, -1, 0, 1}},
		{runs(-3, 2, -9, 1), []int{-3, -2, -9}},
	} {
		wantPlaces(t, c.l, c.want)
	}
}

// lists goes through all lists of up to two of the runs that lie about nought.
func lists() [][]api.Run {
	var few []api.Run
	for at := -3; at <= 5; at++ {
		for n := -1; n <= 5; n++ {
			few = append(few, api.Run{At: at, N: n})
		}
	}
	l := [][]api.Run{nil, {}}
	for _, a := range few {
		l = append(l, []api.Run{a})
		for _, b := range few {
			l = append(l, []api.Run{a, b})
		}
	}
	return l
}

// random are n runs that lie about nought, some of them of no places.
func random(r *rand.Rand, n, width int) []api.Run {
	var l []api.Run
	for range n {
		l = append(l, api.Run{At: r.Intn(2*width) - width, N: r.Intn(width/2) - 2})
	}
	return l
}

// randoms are lists of runs, from few to many.
func randoms(much int) [][]api.Run {
	r := rand.New(rand.NewSource(15))
	var l [][]api.Run
	for k := range much {
		l = append(l, random(r, k%12, 10+k%60))
	}
	return l
}

// 15.1: Free, of all small lists and of some greater ones.
func TestFreeOfAll(t *testing.T) {
	for _, used := range lists() {
		for from := -4; from <= 4; from += 2 {
			for to := from - 1; to <= 9; to += 2 {
				wantFree(t, used, from, to, free(used, from, to))
			}
		}
	}
	for k, used := range randoms(2000) {
		from := -k % 61
		wantFree(t, used, from, from+k%97, free(used, from, from+k%97))
	}
}

// 15.1: what Free tells rises, and no two of its runs touch: they are as few as can be.
func TestFreeTellsFewRuns(t *testing.T) {
	for k, used := range randoms(2000) {
		l := bitmap.Free(used, -k%83, k%89)
		for i, r := range l {
			if r.N < 1 || i > 0 && l[i-1].At+l[i-1].N >= r.At {
				t.Fatalf("15.1: Free(%v, %d, %d): %v", used, -k%83, k%89, l)
			}
		}
	}
}

// 15.1: Free hangs on the places alone, whatever the order of the runs.
func TestFreeOfAnyOrder(t *testing.T) {
	r := rand.New(rand.NewSource(151))
	for _, used := range randoms(500) {
		want := bitmap.Free(used, -40, 60)
		r.Shuffle(len(used), func(i, k int) { used[i], used[k] = used[k], used[i] })
		wantFree(t, used, -40, 60, want)
		wantFree(t, append(used, used...), -40, 60, want)
	}
}

// 15.1: Take, Count and Sectors, of all small lists and of some greater ones.
func TestTakeOfAll(t *testing.T) {
	for _, l := range append(lists(), randoms(2000)...) {
		all := count(l)
		for _, n := range []int{-2, -1, 0, 1, 2, 3, all / 2, all - 1, all, all + 1, all + 2, 2 * all} {
			want, ok := take(l, n)
			wantTake(t, l, n, want, ok)
		}
		wantPlaces(t, l, sectors(l))
	}
}

// 15.1: there are n places, or fewer: each number on either side of all.
func TestTakeOfEachNumber(t *testing.T) {
	for _, l := range randoms(200) {
		for n := range count(l) + 3 {
			got, ok := bitmap.Take(l, n)
			if ok != (n <= count(l)) {
				t.Fatalf("15.1: Take(%v, %d): %v", l, n, ok)
			}
			if places := sectors(l); ok && !slices.Equal(sectors(got), places[:n]) {
				t.Fatalf("15.1: Take(%v, %d): %v", l, n, got)
			}
		}
	}
}

// 15.2: what is taken is free: each of its places once, in no run of used.
func TestTakenIsFree(t *testing.T) {
	for k, used := range append(lists(), randoms(2000)...) {
		from, to := -k%41, k%47
		l := bitmap.Free(used, from, to)
		for _, n := range []int{1, 2, 3, bitmap.Count(l) / 2, bitmap.Count(l)} {
			taken, ok := bitmap.Take(l, n)
			if ok != (n <= bitmap.Count(l)) || ok && bitmap.Count(taken) != n {
				t.Fatalf("15.2: %v of %v are taken, where %d are asked: %v", taken, l, n, ok)
			}
			places := bitmap.Sectors(taken)
			for i, place := range places {
				if place < from || place >= to || isUsed(used, place) || i > 0 && place <= places[i-1] {
					t.Fatalf("15.2: of Free(%v, %d, %d) place %d is taken", used, from, to, place)
				}
			}
			// What is taken is used from then on, and the others are yet free.
			rest := bitmap.Free(append(slices.Clone(used), taken...), from, to)
			if want := bitmap.Sectors(l)[len(places):]; !slices.Equal(bitmap.Sectors(rest), want) {
				t.Fatalf("15.2: behind %v, taken of %v, %v are free", taken, l, rest)
			}
		}
	}
}

const far = 1 << 20 // as far as places and numbers go

// 15.1: Free, as far as may be.
func TestFreeFarAway(t *testing.T) {
	for _, c := range []struct {
		used     []api.Run
		from, to int
		want     []api.Run
	}{
		{nil, -far, far, runs(-far, 2*far)},
		{nil, far, -far, nil},
		{nil, far, far, nil},
		{nil, -far, -far, nil},
		{nil, 0, far, runs(0, far)},
		{nil, -far, 0, runs(-far, far)},
		{nil, far - 1, far, runs(far-1, 1)},
		{runs(far, far), -far, far, runs(-far, 2*far)},
		{runs(far-1, far), -far, far, runs(-far, 2*far-1)},
		{runs(-far, far), -far, far, runs(0, far)},
		{runs(-far, 1), -far, far, runs(1-far, 2*far-1)},
		{runs(0, far), -far, far, runs(-far, far)},
		{runs(0, far, -far, far), -far, far, nil},
		{runs(1, far, -far, far), -far, far, runs(0, 1)},
		{runs(far, -far, -far, -far), -far, far, runs(-far, 2*far)},
		{runs(far, -far, 0, -far, -far, -far), 0, far, runs(0, far)},
		{runs(-far, -far, 0, 1, far, far), -far, far, runs(-far, far, 1, far-1)},
	} {
		wantFree(t, c.used, c.from, c.to, c.want)
	}
}

// 15.1, 15.2: Take, Count and Sectors, as far as may be; what Free tells is taken, too.
func TestPlacesFarAway(t *testing.T) {
	wantTake(t, runs(-far, far), far, runs(-far, far), true)
	wantTake(t, runs(-far, far), far-1, runs(-far, far-1), true)
	wantTake(t, runs(far, far, far, -far), far, runs(far, far), true)
	wantTake(t, runs(far, far), far+1, nil, false)
	wantTake(t, runs(far, far, -far, far), far+1, runs(far, far, -far, 1), true)
	wantTake(t, runs(-far, -far, far, -far), 1, nil, false)
	wantTake(t, bitmap.Free(nil, -far, far), 2*far, runs(-far, 2*far), true)
	wantTake(t, bitmap.Free(nil, -far, far), far+1, runs(-far, far+1), true)
	wantTake(t, bitmap.Free(nil, -far, far), 2*far+1, nil, false)
	for _, l := range [][]api.Run{
		runs(far, far), runs(-far, far), runs(far, 1), runs(-far, 1), runs(far, -far), runs(-far, -far), runs(0, far),
		runs(far, far, -far, far, far, far, 0, -far), bitmap.Free(nil, -far, far),
	} {
		// Lists of so many places are not printed.
		if got := bitmap.Count(l); got != count(l) {
			t.Errorf("15.1: Count(%v): %d", l, got)
		}
		if !slices.Equal(bitmap.Sectors(l), sectors(l)) {
			t.Errorf("15.1: Sectors(%v)", l)
		}
	}
}

// R1: many runs, each as long as may be: a call does not go through places that it does
// not tell.
func TestManyLongRuns(t *testing.T) {
	var l []api.Run
	for k := range 1 << 18 {
		l = append(l, api.Run{At: -k * 4, N: far})
	}
	wantMany := func(name string, got, want []api.Run) {
		t.Helper()
		if !slices.Equal(got, want) {
			t.Errorf("15.1: %s of many runs: %d of them, want %v", name, len(got), want)
		}
	}
	wantMany("Free", bitmap.Free(l, -far, far), runs(-far, 4))
	got, ok := bitmap.Take(l, far+1)
	wantMany("Take", got, runs(0, far, -4, 1))
	if n := bitmap.Count(l); n != 1<<38 || !ok {
		t.Errorf("15.1: Count of many runs: %d", n)
	}
	if _, ok := bitmap.Take(l, 1<<38+1); ok {
		t.Error("15.1: Take of many runs, of more than there are")
	}
}

// R1: no memory has all the places of these; DOC.md's limits promise nothing of them.
func TestTooManyPlaces(t *testing.T) {
	l := make([]api.Run, 1<<20)
	for k := range l {
		l[k] = api.Run{At: far, N: far}
	}
	if got := bitmap.Sectors(l); len(got) != 0 {
		t.Errorf("R1: Sectors of too many: %d", len(got))
	}
}

// odd are numbers of which nothing is said.
func odd() []int {
	return []int{math.MinInt, math.MinInt + 1, math.MaxInt, math.MaxInt - 1, math.MinInt32, math.MaxInt32, 1 << 32, 1 << 62, -1 << 62, 1 << 40, -1 << 40, 3 << 20, -3 << 20}
}

// R1, R4: of places and numbers beyond bounds nothing is told, and every call ends.
func TestNothingIsSaid(t *testing.T) {
	var l [][]api.Run
	for _, a := range odd() {
		for _, b := range append(odd(), -1, 0, 1, far) {
			l = append(l, runs(a, b), runs(b, a), runs(a, b, b, a), runs(1, 2, a, b), runs(1, 2, b, a, 4, 2))
		}
		for _, b := range append(odd(), -1, 0, 1, far) {
			for _, used := range [][]api.Run{nil, runs(1, 2), runs(a, b)} {
				wantFree(t, used, a, b, nil)
				wantFree(t, used, b, a, nil)
			}
		}
	}
	for _, runs := range l {
		wantFree(t, runs, 0, 10, nil)
		wantFree(t, runs, -far, far, nil)
		wantPlaces(t, runs, nil)
		for _, n := range append(odd(), -1, 0, 1, 2, far) {
			wantTake(t, runs, n, nil, n < 1)
		}
	}
}

// overwrite writes into a list, and into its spare room.
func overwrite(l []api.Run) {
	l = l[:cap(l)]
	for k := range l {
		l[k] = api.Run{At: -77, N: 77}
	}
}

// R3, R5: what is told is new memory: writing into it changes nothing that was handed
// in, and nothing that is told elsewhere, earlier or later.
func TestNewMemory(t *testing.T) {
	for _, l := range append(randoms(200), runs(1, 2), runs(1, 2, 4, 3), nil) {
		// Spare room that was handed in is nothing of the answers', either.
		room := append(slices.Clone(l), runs(3, 3, 4, 4)...)
		was := slices.Clone(room)
		l = room[:len(l)]
		n := bitmap.Count(l)
		a, earlier := bitmap.Free(l, -50, 50), bitmap.Free(l, -50, 50)
		b, _ := bitmap.Take(l, n)
		taken, _ := bitmap.Take(l, n)
		c := bitmap.Sectors(l)
		places := bitmap.Sectors(l)
		overwrite(a)
		overwrite(b)
		c = c[:cap(c)]
		for k := range c {
			c[k] = -77
		}
		if !slices.Equal(room, was) {
			t.Fatalf("R3: %v is now %v", was, room)
		}
		if want, _ := take(l, n); !slices.Equal(earlier, free(l, -50, 50)) || !slices.Equal(taken, want) || !slices.Equal(places, sectors(l)) {
			t.Fatalf("R3: of %v there was told, as it is now, %v, %v, %v", l, earlier, taken, places)
		}
		want, _ := take(l, n)
		wantFree(t, l, -50, 50, free(l, -50, 50))
		wantTake(t, l, n, want, true)
		wantPlaces(t, l, sectors(l))
	}
}

// R3: what is handed in is not kept: what was told does not hang on what becomes of it.
func TestNothingIsKept(t *testing.T) {
	for _, l := range randoms(200) {
		n := bitmap.Count(l)
		want, _ := take(l, n)
		gaps, places := free(l, -50, 50), sectors(l)
		a, c := bitmap.Free(l, -50, 50), bitmap.Sectors(l)
		b, _ := bitmap.Take(l, n)
		overwrite(l)
		if !slices.Equal(a, gaps) || !slices.Equal(b, want) || !slices.Equal(c, places) {
			t.Fatalf("R3: what was told is, as it is now, %v, %v, %v", a, b, c)
		}
	}
}
